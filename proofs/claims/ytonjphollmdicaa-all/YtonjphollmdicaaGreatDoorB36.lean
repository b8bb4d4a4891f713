import Derived.Test.YtonjphollmdicaaGreatDoorB35
set_option maxRecDepth 100000
set_option maxHeartbeats 4000000
set_option linter.unusedSimpArgs false
namespace Go.Proofs.YtonjphollmdicaaGreatDoor
open Go.ChangeShapes Go.WideShapes Go.ChangeAt Go.RowKit
theorem N7 (vs : List (List UInt8)) (a : Option Addr) (cap : Nat) (hn : vs.length ≤ 1000) (hv : ∀ v ∈ vs, v.length ≤ 100000) (w : World) (hrd : Rd w a (AM vs)) :
    Calls Tryz.prog 43 #[.slice a vs.length cap] w fun e w' => EO (EH (At vs)) w e w' := by
  obtain ⟨i0, hi0, hz0, hz1, hz2⟩ := info_parts Tryz.infoDe
  obtain ⟨i1, hi1, hy0, hy1, hy2⟩ := info_parts Tryz.infoFl
  have hF := Aa (fun W (hW : Below w.heap.size w W) => NZ vs a cap hn (fun v hv' => Nat.le_trans (hv v hv') (by omega)) W (hrd.later (Nat.le_refl _) hW))
  have hlen : (At vs).length ≤ 100000000 := Nat.le_trans (Gh vs 100000 hv) (Nat.le_trans (Nat.mul_le_mul_right 100000 hn) (by omega))
  have hbody := Aa (Js vs 100000 hv)
  obtain ⟨l, hl⟩ : ∃ l, l = At vs := ⟨_, rfl⟩
  rw [← hl] at hF hlen hbody ⊢
  clear hrd hv hn hl
  obtain ⟨n, hN⟩ : ∃ n, n = vs.length := ⟨_, rfl⟩
  rw [← hN] at hF ⊢
  clear hN
  obtain ⟨R, hR⟩ : ∃ R, R = EH l := ⟨_, rfl⟩
  rw [← hR]
  have HR := Aa hR
  clear hR
  go_enter Tryz.func43, Tryz.ntmps43
  go_wp2_with fail
  refine (hF.out _ ((Below.refl _ _).alloc (Nat.le_refl _) _)).mono ?_
  rintro e w1 ⟨lv, rfl, hown, hb1⟩
  clear hF
  have hkq := (Blk.new w #[.int .i64 0, .slice none 0 0, .slice none 0 0] 40).touch (Touch.of_below hb1 []) (by simp)
  have hsz1 : w.heap.size + 1 ≤ w1.heap.size := by have := hb1.size; simpa using this
  have hbw : Below w.heap.size w w1 := Below.trans ((Below.refl _ _).alloc (Nat.le_refl _) _) (hb1.mono (by simp))
  obtain ⟨al, cl, rfl, hrl⟩ := AE hown
  have hC := Ma l al cl (by omega) (fun f hf => Nat.le_trans (hbody.out f hf) (by omega)) w1 hrl
  have HO := Aa hown
  have HBW := Aa hbw
  have HKQ := Aa hkq
  clear hown hbw hkq hb1 hrl
  cases hch : AV l with
  | none =>
    rw [hch] at hC
    have HC := Aa hC
    have hR3 : R = .inr 3 := by rw [HR.out]; unfold EH; rw [hch]
    have HR3 := Aa hR3
    clear hC hbody hch hR3 HR
    go_wp2_with fail
    refine HC.out.mono ?_
    rintro e w2 ⟨rfl, hb2⟩
    unfold EW GN
    have hkq := HKQ.out.touch (Touch.of_below hb2 []) (by simp)
    have hbw := Below.next HBW.out hb2
    have q0 := (hkq 0 _ rfl).1
    have q1 := (hkq 1 _ rfl).1
    have q2 := (hkq 2 _ rfl).1
    have z0 := (hkq 0 _ rfl).2
    have z1 := (hkq 1 _ rfl).2
    have z2 := (hkq 2 _ rfl).2
    have HB2 := Aa hbw
    have hsz2 : w.heap.size < w2.heap.size := Nat.lt_of_lt_of_le (by omega) hb2.size
    clear hkq hbw hb2 HC HKQ HBW HO hsz1
    go_wp2_with fail
    refine bodyPost_ret (v := .tuple #[GJ, .int .i64 3]) (by simp [results, Tryz.results43, go_sem, GJ, q0, q1, q2, hsz2]) rfl ?_
    unfold EO
    rw [HR3.out]
    have h3 := ((HB2.out.setCell (p := ⟨w.heap.size, 0, none⟩) (Nat.le_refl _) (.int .i64 0)).setCell (p := ⟨w.heap.size, 1, none⟩) (Nat.le_refl _) (.slice none 0 0)).setCell (p := ⟨w.heap.size, 2, none⟩) (Nat.le_refl _) (.slice none 0 0)
    exact ⟨h3.alloc (by simp; omega) _, rfl⟩
  | some f =>
    rw [hch] at hC
    have HC := Aa hC
    have hcf := FV hch
    have HCH := Aa hch
    clear hC hch
    go_wp2_with fail
    refine HC.out.mono ?_
    rintro e w2 ⟨rfl, hb2⟩
    unfold EW
    have HKQ2 := Aa (HKQ.out.touch (Touch.of_below hb2 []) (by simp))
    have HBW2 := Aa (Below.next HBW.out hb2)
    have HO2 := Aa (Ab HO.out (Nat.le_refl _) hb2)
    have hsz2 : w.heap.size < w2.heap.size := Nat.lt_of_lt_of_le (by omega) hb2.size
    clear hsz1 hb2 HC HKQ HBW HO
    obtain ⟨-, hN1, hN6, hbl, hS2, hS32⟩ := hcf
    have hbs := Ae f.body
    obtain ⟨mb, hmb⟩ : ∃ m, m = f.body.length := ⟨_, rfl⟩
    rw [← hmb] at hbs hbl
    have HMB := Aa hmb
    clear hmb
    obtain ⟨bs, hbsz⟩ : ∃ b, b = Aq f := ⟨_, rfl⟩
    have hnum := fun W => BF (f.body.take 2) (by rw [List.length_take]; omega) W
    have ecs : C0 (f.body.take 2) = bs := hbsz.symm
    rw [ecs] at hnum
    have hNu := Aa hnum
    rw [← hbsz] at hS2 hS32
    have HBS := Aa hbsz
    have ex2 : (str f.body).extract 0 2 = str (f.body.take 2) := by rw [AB]; rfl
    have g2 : (2 : Int) ≤ (mb : Int) := by omega
    have wbs : IntKind.i64.wrap (bs : Int) = (bs : Int) := by rw [IntKind.wrap_i64]; omega
    have hmk : ∀ W : World, (Instr.makeSlice 23 (.int .i64 20) (.int .i64 20)).run Tryz.prog W = .ok (.slice (some ⟨W.heap.size, 0, none⟩) 20 20) (W.alloc (.cells (madeCells #[.string ByteArray.empty] 20) 9)) :=
      fun W => run_make_row' 23 9 (.string ByteArray.empty) 16 Tryz.underlying23 Tryz.infoTx rfl .i64 .i64 20 (by omega) (by omega) W
    have hcm : ∀ W, Touch [] (w2.alloc (.cells #[.int .u8 (f.kind.toNat : Int), .int .u64 (f.set : Int), .string (str f.body)] 148)) W → W.cell? ⟨w2.heap.size, 2, none⟩ = some (.string (str f.body)) := fun W hW => by
      rw [hW.cell (x := ⟨w2.heap.size, 2, none⟩) (by simp) (by simp)]
      simp
    have HCM := Aa hcm
    have HBL := Aa hbl
    clear hnum ecs hbsz hcm hbl
    go_wp2_with fail
    have HP1 : Hid (∀ W, W = (((w2.alloc (.cells #[.int .u8 (f.kind.toNat : Int), .int .u64 (f.set : Int), .string (str f.body)] 148)).alloc (.cells (madeCells #[.string ByteArray.empty] 20) 9)).alloc (.cells #[.int .i64 (bs : Int), .slice none 0 0, .slice (some ⟨w2.heap.size + 1, 0, none⟩) 20 20] 40)).drew → Ld w W w2.heap.size (w2.heap.size + 1 + 1) (w2.heap.size + 1) f (.slice al l.length cl) l) := Aa (fun W hW => by
      rw [HBS.out] at hW
      exact OB HKQ2.out HBW2.out hsz2 (by have := HO2.out; rwa [show (w.alloc (Obj.cells #[Value.int .i64 0, .slice none 0 0, .slice none 0 0] 40)).heap.size = w.heap.size + 1 from by simp] at this) rfl hW)
    have HP2 : Hid (∀ W, W = (((w2.alloc (.cells #[.int .u8 (f.kind.toNat : Int), .int .u64 (f.set : Int), .string (str f.body)] 148)).alloc (.cells #[.int .i64 (bs : Int), .slice none 0 0, .slice (some ⟨w2.heap.size + 1 + 1, 0, none⟩) 20 20] 40)).alloc (.cells (madeCells #[.string ByteArray.empty] 20) 9)).drew → Ld w W w2.heap.size (w2.heap.size + 1) (w2.heap.size + 1 + 1) f (.slice al l.length cl) l) := Aa (fun W hW => by
      rw [HBS.out] at hW
      exact Mz HKQ2.out HBW2.out hsz2 (by have := HO2.out; rwa [show (w.alloc (Obj.cells #[Value.int .i64 0, .slice none 0 0, .slice none 0 0] 40)).heap.size = w.heap.size + 1 from by simp] at this) rfl hW)
    clear HKQ2 HBW2 HO2
    refine QU (P := fun x s W => Ld w W w2.heap.size s x f (.slice al l.length cl) l) ?RestOf ?B ?A
    case A =>
      intro key
      go_region_held3 (fun W => Touch [] (w2.alloc (.cells #[.int .u8 (f.kind.toNat : Int), .int .u64 (f.set : Int), .string (str f.body)] 148)) W ∧ W.cell? ⟨w2.heap.size, 2, none⟩ = some (.string (str f.body))) (first | assumption | (refine ⟨?_, HCM.out _ ?_⟩ <;> first | exact Touch.refl _ _ | exact (Touch.refl _ _).drew | exact ((Touch.refl _ _).alloc _).drew | exact (((Touch.refl _ _).alloc _).alloc _).drew))
        (first | (go_at_call 87; refine (hNu.out _).mono ?_; rintro e w' ⟨rfl, rfl⟩))
      all_goals
        first
          | (obtain ⟨W, hW⟩ : ∃ W, W = (((w2.alloc (.cells #[.int .u8 (f.kind.toNat : Int), .int .u64 (f.set : Int), .string (str f.body)] 148)).alloc (.cells (madeCells #[.string ByteArray.empty] 20) 9)).alloc (.cells #[.int .i64 (bs : Int), .slice none 0 0, .slice (some ⟨w2.heap.size + 1, 0, none⟩) 20 20] 40)).drew := ⟨_, rfl⟩
             rw [← hW]
             have h := HP1.out W hW
             clear hW
             obtain ⟨sb, hsb⟩ : ∃ x, x = w2.heap.size + 1 + 1 := ⟨_, rfl⟩
             rw [← hsb] at h ⊢
             obtain ⟨xb, hxb⟩ : ∃ x, x = w2.heap.size + 1 := ⟨_, rfl⟩
             rw [← hxb] at h ⊢
             exact key xb sb W h)
          | (obtain ⟨W, hW⟩ : ∃ W, W = (((w2.alloc (.cells #[.int .u8 (f.kind.toNat : Int), .int .u64 (f.set : Int), .string (str f.body)] 148)).alloc (.cells #[.int .i64 (bs : Int), .slice none 0 0, .slice (some ⟨w2.heap.size + 1 + 1, 0, none⟩) 20 20] 40)).alloc (.cells (madeCells #[.string ByteArray.empty] 20) 9)).drew := ⟨_, rfl⟩
             rw [← hW]
             have h := HP2.out W hW
             clear hW
             obtain ⟨xb, hxb⟩ : ∃ x, x = w2.heap.size + 1 + 1 := ⟨_, rfl⟩
             rw [← hxb] at h ⊢
             obtain ⟨sb, hsb⟩ : ∃ x, x = w2.heap.size + 1 := ⟨_, rfl⟩
             rw [← hsb] at h ⊢
             exact key xb sb W h)
    case B =>
      intro XB SB W hall
      clear HP1 HP2 hmk HCM ex2 g2 hNu wbs
      obtain ⟨hrb, hne, hol, hap⟩ := hall
      have hm1 := hne.m
      have hm2 := hne.m'
      have hs1 := hne.s
      have hs2 := hne.s'
      obtain ⟨MB, hMB⟩ : ∃ x, x = w2.heap.size := ⟨_, rfl⟩
      rw [← hMB] at hrb hne hm1 hm2 ⊢
      have HRB := Aa hrb
      have HNE := Aa hne
      have HOL := Aa hol
      have HAP := Aa hap
      clear hMB hrb hne hol hap
      show Exit.then _ _ _ _ _
      obtain ⟨b0, hb0⟩ : ∃ x, x = W.heap.size := ⟨_, rfl⟩
      rw [← hb0] at HRB HNE hm2 hs2
      have hb0le : b0 ≤ W.heap.size := by omega
      clear hb0
      go_wp2_with fail
      go_loopw [8, 9, 10, 11, 12] (fun nm kk ii _ _ W => ∃ (i : Nat) (fv : Value) (svs : List Value), i ≤ Bs f ∧ kk = .int .i64 (Dc (Bv l f i) : Int) ∧ ii = .int .i64 (i : Int) ∧ Dc (Bv l f i) ≤ i * 200 ∧ Hid (CN l f i = true) ∧ Hid (RAll w W MB SB XB b0 f fv nm (.slice al l.length cl) (Bv l f i) svs l))
        (fun _ _ ii _ _ _ => Bs f - (intOf ii).toNat)
      case atStart => exact ⟨0, .slice none 0 0, [], by omega, rfl, rfl, by simp [Dc, Bv], Aa rfl, Aa ⟨HRB.out, World.ownsRow_nil _ _ _ _, DescRows.nil _ _, World.ownsRow_nil _ _ _ _, HOL.out, HAP.out⟩⟩
      case round =>
        clear HRB HOL hb0le HAP
        obtain ⟨i, fv, svs, hi, rfl, rfl, hsum, HA, HAL⟩ := hrel
        have HRB := Aa HAL.out.blk
        have HOL := Aa HAL.out.found
        have cm1 := (HRB.out.chief 1 _ rfl).1
        have cm2 := (HRB.out.chief 2 _ rfl).1
        have cs0 := (HRB.out.s 0 _ rfl).1
        have cs1 := (HRB.out.s 1 _ rfl).1
        have zs1 := (HRB.out.s 1 _ rfl).2
        rw [← HBS.out] at cs0
        have ix2 := CA f.body 2 2 rfl (by rw [← HMB.out, HBL.out]; omega)
        have hg0 : f.body[2]?.getD 0 = f.body.getD 2 0 := by simp
        rw [hg0] at ix2
        obtain ⟨nf, hnf⟩ : ∃ x, x = Bs f := ⟨_, rfl⟩
        have enf : (f.body.getD 2 0).toNat = nf := hnf.symm
        rw [enf] at ix2
        have hbl := HBL.out
        rw [← hnf] at hN1 hN6 hbl hi
        have HNF := Aa hnf
        have wnf : IntKind.i64.wrap (nf : Int) = (nf : Int) := by rw [IntKind.wrap_i64]; omega
        clear hg0 enf hnf
        by_cases hlt : i < nf
        · have hlt' : (i : Int) < (nf : Int) := by omega
          have hCM : Hid (∀ W', Touch [] wr W' → Touch [] wr W' ∧ W'.cell? ⟨MB, 1, none⟩ = some (.int .u64 (f.set : Int)) ∧ W'.cell? ⟨MB, 2, none⟩ = some (.string (str f.body)) ∧ W'.cell? ⟨SB, 0, none⟩ = some (.int .i64 (bs : Int))) := Aa (fun W' hW => by
            refine ⟨hW, ?_, ?_, ?_⟩
            · rw [hW.cell (World.block_lt_of_cell? wr _ cm1) (by simp)]; exact cm1
            · rw [hW.cell (World.block_lt_of_cell? wr _ cm2) (by simp)]; exact cm2
            · rw [hW.cell (World.block_lt_of_cell? wr _ cs0) (by simp)]; exact cs0)
          have hNu := Aa (fun W => BF ((f.body.drop (3 + 8 * i)).take 8) (by rw [List.length_take]; omega) W)
          have hDe := fun W' (hW : Touch [] wr W') => IF l f.set i (Ex f i) (Aq f) al cl (by omega) (fun g hg => Nat.le_trans (hbody.out g hg) (by omega)) (by rw [← HBS.out]; omega) (by rw [← HBS.out]; omega) W' (by
            obtain ⟨a', c', e', hr⟩ := AE (Ac HOL.out hW (by simp))
            cases e'
            exact hr)
          have hdb := fun d (hd : Ec l f i = some d) => Hl (by rw [← HBS.out]; exact hS2) hd
          have hDA : Bl l f.set i (Ex f i) (Aq f) = Ec l f i := rfl
          rw [hDA, ← HBS.out] at hDe
          have hCH : C0 ((f.body.drop (3 + 8 * i)).take 8) = Ex f i := rfl
          rw [hCH] at hNu
          obtain ⟨hh, hhh⟩ : ∃ x, x = Ex f i := ⟨_, rfl⟩
          rw [← hhh] at hNu hDe
          have ex3 : (str f.body).extract (3 + 8 * i) (11 + 8 * i) = str ((f.body.drop (3 + 8 * i)).take 8) := by
            rw [AB, show 11 + 8 * i - (3 + 8 * i) = 8 from by omega]
          have w8 : IntKind.i64.wrap (8 * (i : Int)) = 8 * (i : Int) := by rw [IntKind.wrap_i64]; omega
          have w3 : IntKind.i64.wrap (3 + 8 * (i : Int)) = 3 + 8 * (i : Int) := by rw [IntKind.wrap_i64]; omega
          have w11 : IntKind.i64.wrap (11 + 8 * (i : Int)) = 11 + 8 * (i : Int) := by rw [IntKind.wrap_i64]; omega
          have g1 : (0 : Int) ≤ 3 + 8 * (i : Int) := by omega
          have g2 : 3 + 8 * (i : Int) ≤ 11 + 8 * (i : Int) := by omega
          have g3 : 11 + 8 * (i : Int) ≤ (mb : Int) := by omega
          have n3 : (3 + 8 * (i : Int)).toNat = 3 + 8 * i := by omega
          have n11 : (11 + 8 * (i : Int)).toNat = 11 + 8 * i := by omega
          clear hhh hDA hCH hbl
          cases hda : Ec l f i with
          | none =>
            rw [hda] at hDe
            have HDE := Aa hDe
            clear hDe hdb
            go_wp2_with fail
            refine Rq (P := fun _ W => Touch [] wr W) ?RestOf2 ?B2 ?A2
            case A2 =>
              intro key
              go_region_held3 (fun W' => Touch [] wr W' ∧ W'.cell? ⟨MB, 1, none⟩ = some (.int .u64 (f.set : Int)) ∧ W'.cell? ⟨MB, 2, none⟩ = some (.string (str f.body)) ∧ W'.cell? ⟨SB, 0, none⟩ = some (.int .i64 (bs : Int)))
                (first | assumption | (refine hCM.out _ ?_ ; first | exact Touch.refl _ _ | exact (Touch.refl _ _).drew | exact (Touch.refl _ _).drew.alloc _ | exact (Touch.refl _ _).drew.trans (Touch.of_below hb5 []) | exact ((Touch.refl _ _).drew.trans (Touch.of_below hb5 [])).alloc _ | exact ((Touch.refl _ _).drew.alloc _).trans (Touch.of_below hb5 []) | exact ((((((Touch.refl _ _).drew.alloc _).trans (Touch.of_below hb5 [])).setCell (Or.inr (Nat.le_refl _)) _).setCell (Or.inr (Nat.le_refl _)) _).setCell (Or.inr (Nat.le_refl _)) _).setCell (Or.inr (Nat.le_refl _)) _))
                (first | (go_at_call 87; refine (hNu.out _).mono ?_; rintro e w' ⟨rfl, rfl⟩) | (go_at_call 88; refine (HDE.out _ (by first | exact (Touch.refl _ _).drew | exact (Touch.refl _ _).drew.alloc _)).mono ?_; rintro e w5 ⟨hb5, rfl⟩; unfold Gw; first | (have hz := LC hb5; obtain ⟨⟨q0, q1, q2, q3⟩, ⟨z0, z1, z2, z3⟩, hq5⟩ := hz) | skip))
              all_goals
                first
                  | (obtain ⟨W, hW⟩ : ∃ W, W = w5.alloc (.cells #[.string ⟨#[]⟩, .int .i64 0, .int .u64 0, .slice none 0 0] 101) := ⟨_, rfl⟩
                     rw [← hW]
                     have h : Touch [] wr W := by rw [hW]; exact ((Touch.refl _ _).drew.trans (Touch.of_below hb5 [])).alloc _
                     clear hW
                     obtain ⟨DB, hDB⟩ : ∃ x, x = w5.heap.size := ⟨_, rfl⟩
                     rw [← hDB]
                     exact key DB W h)
                  | (obtain ⟨W, hW⟩ : ∃ W, W = (((w5.setCell ⟨wr.heap.size, 0, none⟩ (.string ⟨#[]⟩)).setCell ⟨wr.heap.size, 1, none⟩ (.int .i64 0)).setCell ⟨wr.heap.size, 2, none⟩ (.int .u64 0)).setCell ⟨wr.heap.size, 3, none⟩ (.slice none 0 0) := ⟨_, rfl⟩
                     rw [← hW]
                     have h : Touch [] wr W := by rw [hW]; exact (((((((Touch.refl _ _).drew.alloc _).trans (Touch.of_below hb5 [])).setCell (Or.inr (Nat.le_refl _)) _).setCell (Or.inr (Nat.le_refl _)) _).setCell (Or.inr (Nat.le_refl _)) _).setCell (Or.inr (Nat.le_refl _)) _)
                     clear hW
                     obtain ⟨DB, hDB⟩ : ∃ x, x = wr.heap.size := ⟨_, rfl⟩
                     rw [← hDB]
                     exact key DB W h)
            case B2 =>
              intro DB W hall
              have hres := HRB.out.res.touch hall (by simp)
              have hbel := HRB.out.below.trans (hall.below HRB.out.below.size (by simp))
              have q0 := (hres 0 _ rfl).1
              have q1 := (hres 1 _ rfl).1
              have q2 := (hres 2 _ rfl).1
              have z0 := (hres 0 _ rfl).2
              have z1 := (hres 1 _ rfl).2
              have z2 := (hres 2 _ rfl).2
              have hR4 : R = .inr 4 := by
                rw [HR.out]
                unfold EH
                rw [HCH.out]
                simp only
                have : GZ l f = false := by
                  unfold GZ
                  rw [Oh (by rw [← HNF.out]; exact hlt) hda]
                  rfl
                rw [this]
                rfl
              have HR4 := Aa hR4
              have HBE := Aa hbel
              clear hres hbel hR4 hall HR HCH hNu HDE hCM HRB HAL HOL HA cm1 cm2 cs0 cs1 zs1 ix2 ex3 w8 w3 w11 g1 g2 g3 n3 n11 hda hsum
              show Exit.then _ _ _ _ _
              go_wp2_with fail
              refine bodyPost_ret (v := .tuple #[GJ, .int .i64 4]) (by simp [results, Tryz.results43, go_sem, GJ, q0, q1, q2]) rfl ?_
              unfold EO
              rw [HR4.out]
              exact ⟨((HBE.out.setCell (p := ⟨w.heap.size, 0, none⟩) (Nat.le_refl _) (.int .i64 0)).setCell (p := ⟨w.heap.size, 1, none⟩) (Nat.le_refl _) (.slice none 0 0)).setCell (p := ⟨w.heap.size, 2, none⟩) (Nat.le_refl _) (.slice none 0 0), rfl⟩
          | some d =>
            rw [hda] at hDe
            have HDE := Aa hDe
            obtain ⟨hd1, hd2, hd3⟩ := hdb d hda
            have HSZ := Aa HRB.out.size
            clear hDe hdb
            go_wp2_with fail
            refine Re (P := fun x sa sc W => PD wr W b0 x d sa sc) ?RestOf3 ?B3 ?A3
            case A3 =>
              intro key
              go_region_held3 (fun W' => Touch [] wr W' ∧ W'.cell? ⟨MB, 1, none⟩ = some (.int .u64 (f.set : Int)) ∧ W'.cell? ⟨MB, 2, none⟩ = some (.string (str f.body)) ∧ W'.cell? ⟨SB, 0, none⟩ = some (.int .i64 (bs : Int)))
                (first | assumption | (refine hCM.out _ ?_ ; first | exact Touch.refl _ _ | exact (Touch.refl _ _).drew | exact (Touch.refl _ _).drew.alloc _ | exact (Touch.refl _ _).drew.trans (Touch.of_below hb5 []) | exact ((Touch.refl _ _).drew.trans (Touch.of_below hb5 [])).alloc _ | exact ((Touch.refl _ _).drew.alloc _).trans (Touch.of_below hb5 []) | exact ((((((Touch.refl _ _).drew.alloc _).trans (Touch.of_below hb5 [])).setCell (Or.inr (Nat.le_refl _)) _).setCell (Or.inr (Nat.le_refl _)) _).setCell (Or.inr (Nat.le_refl _)) _).setCell (Or.inr (Nat.le_refl _)) _))
                (first | (go_at_call 87; refine (hNu.out _).mono ?_; rintro e w' ⟨rfl, rfl⟩) | (go_at_call 88; refine (HDE.out _ (by first | exact (Touch.refl _ _).drew | exact (Touch.refl _ _).drew.alloc _)).mono ?_; rintro e w5 ⟨hb5, vs5, rfl, hv5⟩; (obtain ⟨sa, sc, rfl, _⟩ := AE hv5); first | (have hz := LC hb5; obtain ⟨⟨q0, q1, q2, q3⟩, ⟨z0, z1, z2, z3⟩, hq5⟩ := hz) | skip))
              all_goals
                first
                  | (obtain ⟨W, hW⟩ : ∃ W, W = w5.alloc (.cells #[.string (str d.name), .int .i64 (d.long : Int), .int .u64 (d.hash : Int), .slice sa d.slices.length sc] 101) := ⟨_, rfl⟩
                     rw [← hW]
                     have h := Oc HSZ.out hb5 hv5 hW
                     clear hW
                     obtain ⟨DB, hDB⟩ : ∃ x, x = w5.heap.size := ⟨_, rfl⟩
                     rw [← hDB] at h ⊢
                     exact key DB sa sc W h)
                  | (obtain ⟨W, hW⟩ : ∃ W, W = (((w5.setCell ⟨wr.heap.size, 0, none⟩ (.string (str d.name))).setCell ⟨wr.heap.size, 1, none⟩ (.int .i64 (d.long : Int))).setCell ⟨wr.heap.size, 2, none⟩ (.int .u64 (d.hash : Int))).setCell ⟨wr.heap.size, 3, none⟩ (.slice sa d.slices.length sc) := ⟨_, rfl⟩
                     rw [← hW]
                     have h := Om HSZ.out hb5 hv5 hW
                     clear hW
                     obtain ⟨DB, hDB⟩ : ∃ x, x = wr.heap.size := ⟨_, rfl⟩
                     rw [← hDB] at h ⊢
                     exact key DB sa sc W h)
            case B3 =>
              intro DB sa sc W hall
              obtain ⟨ht, hdB, hrow, hDB⟩ := hall
              have hsn := Mk l f i
              rw [hda] at hsn
              simp only [Option.getD_some] at hsn
              have hal : CN l f (i + 1) = true := by rw [LT, HA.out, hda]; rfl
              have c0 := (hdB 0 _ rfl).1
              have c1 := (hdB 1 _ rfl).1
              have c2 := (hdB 2 _ rfl).1
              have c3 := (hdB 3 _ rfl).1
              have hall := HAL.out.touch HNE.out ht
              have hf1 : fv.ownBlock ≠ some DB := fun e => by have := (HAL.out.files.lt DB e).2; omega
              have hn1 : u8.ownBlock ≠ some DB := fun e => by have := (HAL.out.names.lt DB e).2; omega
              have hbs0 := HSZ.out
              have hSD : SB ≠ DB := by omega
              have hln := GP l f i
              have cs1' := (hall.blk.s 1 _ rfl).1
              have hszW : b0 ≤ W.heap.size := hall.blk.size
              have hDBl : DB < W.heap.size := hdB.lt (by simp)
              obtain ⟨ds, hds⟩ : ∃ x, x = Bv l f i := ⟨_, rfl⟩
              rw [← hds] at hsn hall hln hsum ⊢
              have HS := Aa hsn
              have HAL1 := Aa hal
              have HALL := Aa hall
              have HDB := Aa hdB
              have HROW := Aa hrow
              have HF1 := Aa hf1
              have HN1 := Aa hn1
              have HDS := Aa hds
              have HSM := Aa (Lc ds d)
              obtain ⟨hs, hhs⟩ : ∃ x, x = Dc ds := ⟨_, rfl⟩
              rw [← hhs] at hsum HSM ⊢
              clear hsn hal hall hdB hrow hf1 hn1 HAL HRB HOL hNu HDE hCM cm1 cm2 cs0 cs1 zs1 ix2 ex3 w8 w3 w11 g1 g2 g3 n3 n11 hda ht hds hhs HA
              show Exit.then _ _ _ _ _
              go_wp2_with (at_builtin; refine wpList_append_own _ rfl (.tmp 66) (.tmp 68) 38 rfl b0 101 i0 (.agg #[.string ByteArray.empty, .int .i64 0, .int .u64 0, .slice none 0 0]) 4 56 Tryz.underlying38 hi0 hz0 hz1 hz2 rfl (by decide) _ _ _ rfl (HALL.out.files.alloc _) ⟨W.heap.size, 0, none⟩ 1 1 [.string (str d.name), .int .i64 (d.long : Int), .int .u64 (d.hash : Int), .slice sa d.slices.length sc] rfl rfl ?c1 ?c2 ?c3 ?c4 ?c5 ?_)
              case c1 => exact Ro W _ _ _ _ _
              case c2 =>
                intro u hu
                simp at hu
                rcases hu with rfl | rfl | rfl | rfl <;> rfl
              case c3 => unfold maxLen; omega
              case c4 => omega
              case c5 => simp; omega
              intro v6 w6 hown6 hg6 _
              obtain ⟨va, vc, rfl, _⟩ := AE hown6
              obtain ⟨⟨s1, z1⟩, hrb7, hf7, hr7, hm7, hl7, hd7⟩ := QG (HALL.out.touch HNE.out ((Touch.refl [] _).alloc _)) HNE.out (HDB.out.alloc _) HF1.out hSD (HROW.out.alloc _) hg6 (by rw [hln]; exact hown6)
              have hsz7 : b0 ≤ w6.heap.size := by simpa using hrb7.size
              have hDB7 : DB < w6.heap.size := by simpa using hd7.lt (by simp)
              have d0 := (hd7 0 _ rfl).1
              have d3 := (hd7 3 _ rfl).1
              rw [World.cell?_setCell_other _ _ _ _ (by simp)] at d0 d3
              have HRB7 := Aa hrb7
              have HF7 := Aa hf7
              have HR7 := Aa hr7
              have HM7 := Aa hm7
              have HL7 := Aa hl7
              have HD7 := Aa hd7
              have HAP := Aa HALL.out.apart
              clear hrb7 hf7 hr7 hm7 hl7 hd7 hown6 hg6 HALL HDB HROW HF1 c0 c1 c2 c3 cs1'
              go_wp2_with (at_builtin; refine wpList_append_own _ rfl (.tmp 71) (.tmp 75) 22 rfl b0 62 i1 (.agg #[.string ByteArray.empty, .string ByteArray.empty]) 2 32 Tryz.underlying22 hi1 hy0 hy1 hy2 rfl (by decide) _ _ _ rfl (HM7.out.alloc _) ⟨w6.heap.size, 0, none⟩ 1 1 [.string (str d.name), .string ⟨#[]⟩] rfl rfl ?c1' ?c2' ?c3' ?c4' ?c5' ?_)
              case c1' =>
                have := IN (w6.setCell ⟨SB, 1, none⟩ (.slice va (i + 1) vc)) (.string (str d.name)) (.string ⟨#[]⟩) 62
                simpa using this
              case c2' =>
                intro u hu
                simp at hu
                rcases hu with rfl | rfl <;> rfl
              case c3' => unfold maxLen; omega
              case c4' => omega
              case c5' => simp; omega
              intro v8 w8 hown8 hg8 _
              have ta : Touch [] (w6.setCell ⟨SB, 1, none⟩ (.slice va (i + 1) vc)) ((w6.setCell ⟨SB, 1, none⟩ (.slice va (i + 1) vc)).alloc (.cells #[.string (str d.name), .string ⟨#[]⟩] 62)) := (Touch.refl [] _).alloc _
              obtain ⟨hall8, hd8⟩ := Qb (d := d) (ds := ds) (HRB7.out.touch HNE.out ta (by simp)) HNE.out (HF7.out.alloc _) (HR7.out.touch ta (by simp)) (HM7.out.alloc _) (HL7.out.alloc _) HAP.out (HD7.out.alloc _) HN1.out hg8 (by rw [hln]; exact hown8)
              have e3 := (hd8 3 _ rfl).1
              have H8 := Aa hall8
              clear hall8 hd8 hown8 hg8 ta HRB7 HF7 HR7 HM7 HL7 HD7 HAP HN1 d0 d3 s1 z1
              have whs : IntKind.i64.wrap ((hs : Int) + (d.slices.length : Int)) = (hs : Int) + (d.slices.length : Int) := by rw [IntKind.wrap_i64]; omega
              go_wp2_with fail
              have hnf := HNF.out
              refine ⟨⟨i + 1, .slice va (i + 1) vc, _, by omega, ?_, by go_num, ?_, HAL1, Aa (by rw [HS.out]; exact H8.out)⟩, by simp [intOf]; omega⟩
              · rw [HS.out, HSM.out]
                push_cast
                rfl
              · rw [HS.out, HSM.out]
                omega
        · obtain rfl : i = nf := by omega
          have hln := GP l f i
          have hnL : (Df (Bv l f i)).length = i := by unfold Df; rw [List.length_map, hln]
          have hnm := HAL.out.names
          rw [hln] at hnm
          obtain ⟨na, nc, rfl, hnr⟩ := AE hnm
          have hT := Jz (Df (Bv l f i)) na nc (by omega) wr hnr
          rw [hnL] at hT
          have hR0 : R = if (!DT (Df (Bv l f i)) && decide (1 ≤ Dc (Bv l f i)) && decide (Dc (Bv l f i) ≤ 60)) = true then .inl ⟨Aq f, Bv l f i, FD l f⟩ else .inr 4 := by
            rw [HR.out]
            unfold EH
            rw [HCH.out]
            simp only
            unfold GZ
            rw [← HNF.out, HA.out, Bool.true_and]
          obtain ⟨T, hTT⟩ : ∃ x, x = DT (Df (Bv l f i)) := ⟨_, rfl⟩
          obtain ⟨ds, hds⟩ : ∃ x, x = Bv l f i := ⟨_, rfl⟩
          rw [← hTT] at hT hR0
          rw [← hds] at hR0 hsum HAL hln ⊢
          obtain ⟨hs, hhs⟩ : ∃ x, x = Dc ds := ⟨_, rfl⟩
          rw [← hhs] at hR0 hsum ⊢
          have HT := Aa hT
          have HR0 := Aa hR0
          clear hT hR0 hTT hds hhs HR HCH HA hnm hnr hnL cm1 cs0 cs1 zs1 HRB HOL
          have hlt' : ¬ (i : Int) < (i : Int) := by omega
          go_wp2_with fail
          refine HT.out.mono ?_
          rintro e w3 ⟨rfl, hb3⟩
          have HAL3 := Aa (HAL.out.touch HNE.out (Touch.of_below hb3 []))
          have hres := HAL3.out.blk.res
          have q0 := (hres 0 _ rfl).1
          have q1 := (hres 1 _ rfl).1
          have q2 := (hres 2 _ rfl).1
          have z0 := (hres 0 _ rfl).2
          have z1 := (hres 1 _ rfl).2
          have z2 := (hres 2 _ rfl).2
          have HEND : Hid (R = .inr 4 → EO R w (.returned (.tuple #[GJ, .int .i64 4])) (((w3.setCell ⟨w.heap.size, 0, none⟩ (.int .i64 0)).setCell ⟨w.heap.size, 1, none⟩ (.slice none 0 0)).setCell ⟨w.heap.size, 2, none⟩ (.slice none 0 0))) := Aa (fun hR4 => by
            unfold EO
            rw [hR4]
            exact ⟨((HAL3.out.blk.below.setCell (p := ⟨w.heap.size, 0, none⟩) (Nat.le_refl _) (.int .i64 0)).setCell (p := ⟨w.heap.size, 1, none⟩) (Nat.le_refl _) (.slice none 0 0)).setCell (p := ⟨w.heap.size, 2, none⟩) (Nat.le_refl _) (.slice none 0 0), rfl⟩)
          clear hb3 HAL HT hres ix2 wnf cm2
          cases T with
          | true =>
            have hR4 : R = .inr 4 := by rw [HR0.out]; rfl
            have HR4 := Aa hR4
            clear hR4 HR0 HAL3
            go_wp2_with fail
            exact bodyPost_ret (v := .tuple #[GJ, .int .i64 4]) (by simp [results, Tryz.results43, go_sem, GJ, q0, q1, q2]) rfl (HEND.out HR4.out)
          | false =>
            by_cases h1 : hs < 1
            · have hR4 : R = .inr 4 := by rw [HR0.out, decide_eq_false (by omega : ¬ 1 ≤ hs)]; rfl
              have HR4 := Aa hR4
              have h1' : (hs : Int) < 1 := by omega
              clear hR4 HR0 HAL3
              go_wp2_with fail
              exact bodyPost_ret (v := .tuple #[GJ, .int .i64 4]) (by simp [results, Tryz.results43, go_sem, GJ, q0, q1, q2]) rfl (HEND.out HR4.out)
            · have h1' : ¬ (hs : Int) < 1 := by omega
              by_cases h2 : 60 < hs
              · have hR4 : R = .inr 4 := by rw [HR0.out, decide_eq_false (by omega : ¬ hs ≤ 60), Bool.and_false]; rfl
                have HR4 := Aa hR4
                have h2' : (60 : Int) < (hs : Int) := by omega
                clear hR4 HR0 HAL3
                go_wp2_with fail
                exact bodyPost_ret (v := .tuple #[GJ, .int .i64 4]) (by simp [results, Tryz.results43, go_sem, GJ, q0, q1, q2]) rfl (HEND.out HR4.out)
              · have h2' : ¬ (60 : Int) < (hs : Int) := by omega
                have hR5 : R = .inl ⟨Aq f, ds, FD l f⟩ := by rw [HR0.out, decide_eq_true (by omega : 1 ≤ hs), decide_eq_true (by omega : hs ≤ 60)]; rfl
                have HR5 := Aa hR5
                clear hR5 HR0 HEND q0 q1 q2 z0 z1 z2
                have hex0 : List.replicate 20 [] = FD (l.take 0) f := by unfold FD; simp [KS, exL]; rfl
                have H2 : Hid (RTwo w w3 MB SB XB b0 f fv (.slice al l.length cl) ds svs l (FD (l.take 0) f)) := Aa (by rw [← hex0]; exact ⟨HAL3.out.blk, HAL3.out.files, HAL3.out.rows, HAL3.out.found, HAL3.out.apart⟩)
                clear hex0 HAL3
                go_wp2_with fail
                go_loopw [14, 15, 16] (fun ii _ _ W => ∃ k : Nat, k ≤ l.length ∧ ii = .int .i64 (k : Int) ∧ Hid (RTwo w W MB SB XB b0 f fv (.slice al l.length cl) ds svs l (FD (l.take k) f)))
                  (fun ii _ _ _ => l.length - (intOf ii).toNat)
                case atStart => exact ⟨0, by omega, rfl, H2⟩
                case round =>
                  clear H2
                  obtain ⟨k, hk, rfl, H2⟩ := hrel
                  by_cases hlt : k < l.length
                  · obtain ⟨al', cl', ee, hrl⟩ := AE H2.out.found
                    cases ee
                    obtain ⟨bb, off, rfl, c0, c1, c2⟩ := DN hrl k hlt
                    have hbl := hbody.out l[k] (List.getElem_mem hlt)
                    have htk : l.take (k + 1) = l.take k ++ [l[k]] := by rw [List.take_add_one, List.getElem?_eq_getElem hlt]; rfl
                    obtain ⟨g, hg⟩ : ∃ g, g = l[k] := ⟨_, rfl⟩
                    rw [← hg] at c0 c1 c2 hbl htk
                    have HTK := Aa htk
                    have hbs := Ae g.body
                    obtain ⟨mg, hmg⟩ : ∃ m, m = g.body.length := ⟨_, rfl⟩
                    rw [← hmg] at hbs hbl
                    have HMG := Aa hmg
                    have HSB := Aa H2.out.blk.s
                    have cm1 := (H2.out.blk.chief 1 _ rfl).1
                    have cs0 := (H2.out.blk.s 0 _ rfl).1
                    have cs2 := (H2.out.blk.s 2 _ rfl).1
                    rw [← HBS.out] at cs0
                    have hsz : b0 ≤ wr.heap.size := H2.out.blk.size
                    have hbb : bb < wr.heap.size := World.block_lt_of_cell? wr _ c0
                    have hMl : MB < wr.heap.size := by omega
                    have hSl : SB < wr.heap.size := by omega
                    have hXl : XB < wr.heap.size := Nat.lt_of_lt_of_le HNE.out.x' hsz
                    have wb2 : IntKind.i64.wrap (2 + (bs : Int)) = 2 + (bs : Int) := by rw [IntKind.wrap_i64]; omega
                    have HPASS : Hid (¬ (g.kind = 82 ∧ g.set = f.set ∧ g.body.length = 2 + Aq f) → RTwo w (wr.alloc (.cells #[.int .u8 (g.kind.toNat : Int), .int .u64 (g.set : Int), .string (str g.body)] 148)) MB SB XB b0 f fv (.slice (some ⟨bb, off, none⟩) l.length cl) ds svs l (FD (l.take (k + 1)) f)) := Aa (fun hno => by
                      rw [HTK.out, Pf hno]
                      exact H2.out.touch HNE.out ((Touch.refl _ _).alloc _))
                    clear hrl htk hmg hg
                    by_cases q1 : g.kind = 82
                    · have e1 : ((g.kind.toNat : Int) != 82) = false := by rw [q1]; rfl
                      by_cases q2 : g.set = f.set
                      · have e2 : ((g.set : Int) != (f.set : Int)) = false := by simp [q2]
                        by_cases q3 : mg = 2 + bs
                        · have e3 : ((mg : Int) != 2 + (bs : Int)) = false := by simp; omega
                          have hYES : g.kind = 82 ∧ g.set = f.set ∧ g.body.length = 2 + Aq f := ⟨q1, q2, by rw [← HMG.out, q3, ← HBS.out]⟩
                          have hNu := Aa (fun W => BF (g.body.take 2) (by rw [List.length_take]; omega) W)
                          have hN16 := CH (g.body.take 2) (by rw [List.length_take]; omega)
                          have ex2 : (str g.body).extract 0 2 = str (g.body.take 2) := by rw [AB]; rfl
                          have ex3 : (str g.body).extract 2 mg = str (g.body.drop 2) := by
                            rw [AB, HMG.out, List.take_of_length_le (by simp)]
                          have g2 : (2 : Int) ≤ (mg : Int) := by omega
                          obtain ⟨N, hN⟩ : ∃ x, x = C0 (g.body.take 2) := ⟨_, rfl⟩
                          rw [← hN] at hNu hN16
                          have wN : IntKind.i64.wrap (N : Int) = (N : Int) := by rw [IntKind.wrap_i64]; omega
                          have HY := Aa hYES
                          have HN := Aa hN
                          clear hYES hN HPASS
                          by_cases q4 : N < 20
                          · have q4' : (N : Int) < 20 := by omega
                            have hxj : (FD (l.take k) f)[N]? = some (KS (l.take k) f N) := by
                              unfold FD
                              rw [List.getElem?_map, List.getElem?_range q4]
                              rfl
                            obtain ⟨xc, xz⟩ := QC H2.out.blk N _ hxj
                            by_cases q5 : KS (l.take k) f N = []
                            · have HP : Hid (RTwo w ((wr.setCell ⟨XB, N, none⟩ (.string (str (g.body.drop 2)))).alloc (.cells #[.int .u8 (g.kind.toNat : Int), .int .u64 (g.set : Int), .string (str g.body)] 148)).drew MB SB XB b0 f fv (.slice (some ⟨bb, off, none⟩) l.length cl) ds svs l (FD (l.take (k + 1)) f)) := Aa (by
                                rw [HTK.out, Rg (by rw [← HBS.out]; omega) HY.out (by rw [← HN.out]; exact q5), ← HN.out]
                                exact (H2.out.put HNE.out N _).touch HNE.out ((Touch.refl _ _).alloc _).drew)
                              rw [q5] at xc
                              have et : (str []).toList.isEmpty = true := by rw [Au]; rfl
                              clear H2 HTK q5 hxj q1 q2 q3
                              go_wp2_with fail
                              refine (hNu.out _).mono ?_
                              rintro e w' ⟨rfl, hw'⟩
                              have hw' := hw'.symm
                              subst hw'
                              go_wp2_with fail
                              go_region
                              go_wp2_with fail
                              exact ⟨⟨k + 1, by omega, by go_num, HP⟩, by simp [intOf]; omega⟩
                            · have HP : Hid (RTwo w (wr.alloc (.cells #[.int .u8 (g.kind.toNat : Int), .int .u64 (g.set : Int), .string (str g.body)] 148)) MB SB XB b0 f fv (.slice (some ⟨bb, off, none⟩) l.length cl) ds svs l (FD (l.take (k + 1)) f)) := Aa (by
                                rw [HTK.out, NE (Or.inr (by rw [← HN.out]; exact q5))]
                                exact H2.out.touch HNE.out ((Touch.refl _ _).alloc _))
                              obtain ⟨t, ht⟩ : ∃ x, x = KS (l.take k) f N := ⟨_, rfl⟩
                              rw [← ht] at xc q5
                              have et : (str t).toList.isEmpty = false := by
                                rw [Au, List.isEmpty_eq_false_iff]
                                exact q5
                              clear H2 HTK hxj ht q1 q2 q3 q5
                              go_wp2_with fail
                              refine (hNu.out _).mono ?_
                              rintro e w' ⟨rfl, hw'⟩
                              have hw' := hw'.symm
                              subst hw'
                              go_wp2_with fail
                              exact ⟨⟨k + 1, by omega, by go_num, HP⟩, by simp [intOf]; omega⟩
                          · have q4' : ¬ (N : Int) < 20 := by omega
                            have HP : Hid (RTwo w (wr.alloc (.cells #[.int .u8 (g.kind.toNat : Int), .int .u64 (g.set : Int), .string (str g.body)] 148)) MB SB XB b0 f fv (.slice (some ⟨bb, off, none⟩) l.length cl) ds svs l (FD (l.take (k + 1)) f)) := Aa (by
                              rw [HTK.out, NE (Or.inl (by rw [← HN.out]; omega))]
                              exact H2.out.touch HNE.out ((Touch.refl _ _).alloc _))
                            clear H2 HTK q1 q2 q3
                            go_wp2_with fail
                            refine (hNu.out _).mono ?_
                            rintro e w' ⟨rfl, hw'⟩
                            have hw' := hw'.symm
                            subst hw'
                            go_wp2_with fail
                            exact ⟨⟨k + 1, by omega, by go_num, HP⟩, by simp [intOf]; omega⟩
                        · have e3 : ((mg : Int) != 2 + (bs : Int)) = true := by simp; omega
                          have HP := Aa (HPASS.out (fun h => q3 (by rw [HMG.out, h.2.2, ← HBS.out])))
                          clear HPASS H2 HTK q1 q2 q3
                          go_wp2_with fail
                          exact ⟨⟨k + 1, by omega, by go_num, HP⟩, by simp [intOf]; omega⟩
                      · have e2 : ((g.set : Int) != (f.set : Int)) = true := by simp; omega
                        have HP := Aa (HPASS.out (fun h => q2 h.2.1))
                        clear HPASS H2 HTK q1 q2
                        go_wp2_with fail
                        exact ⟨⟨k + 1, by omega, by go_num, HP⟩, by simp [intOf]; omega⟩
                    · have e1 : ((g.kind.toNat : Int) != 82) = true := by
                        simp only [bne_iff_ne, ne_eq]
                        intro e
                        exact q1 (UInt8.toNat_inj.1 (by simpa using (by exact_mod_cast e : g.kind.toNat = 82)))
                      have HP := Aa (HPASS.out (fun h => q1 h.1))
                      clear HPASS H2 HTK q1
                      go_wp2_with fail
                      exact ⟨⟨k + 1, by omega, by go_num, HP⟩, by simp [intOf]; omega⟩
                  · obtain rfl : l.length = k := by omega
                    have h2 := H2.out
                    rw [List.take_length] at h2
                    have s0 := (h2.blk.s 0 _ rfl).1
                    have s1 := (h2.blk.s 1 _ rfl).1
                    have s2 := (h2.blk.s 2 _ rfl).1
                    have q0 := (h2.blk.res 0 _ rfl).1
                    have q1 := (h2.blk.res 1 _ rfl).1
                    have q2 := (h2.blk.res 2 _ rfl).1
                    have z0 := (h2.blk.res 0 _ rfl).2
                    have z1 := (h2.blk.res 1 _ rfl).2
                    have z2 := (h2.blk.res 2 _ rfl).2
                    obtain ⟨fa, fc, rfl, _⟩ := AE h2.files
                    rw [hln] at s1
                    have HE := Aa h2
                    clear h2 H2
                    go_wp2_with fail
                    refine bodyPost_ret (v := .tuple #[.agg #[.int .i64 (Aq f : Int), .slice fa i fc, .slice (some ⟨XB, 0, none⟩) 20 20], .int .i64 0]) (by simp [results, Tryz.results43, go_sem, q0, q1, q2]) rfl ?_
                    unfold EO
                    rw [HR5.out]
                    have t1 : Touch [w.heap.size] wr (((wr.setCell ⟨w.heap.size, 0, none⟩ (.int .i64 (Aq f : Int))).setCell ⟨w.heap.size, 1, none⟩ (.slice fa i fc)).setCell ⟨w.heap.size, 2, none⟩ (.slice (some ⟨XB, 0, none⟩) 20 20)) := (((Touch.refl _ _).setCell (by simp) _).setCell (by simp) _).setCell (by simp) _
                    have hb0w : w.heap.size + 1 ≤ b0 := by omega
                    refine ⟨HE.out.blk.below.trans (t1.below HE.out.blk.below.size (by simp)), _, rfl, .slice fa i fc, _, svs, rfl, ?_, ?_, ?_⟩
                    · have h3 := HE.out.files
                      rw [hln] at h3 ⊢
                      exact Ad hb0w (Ac h3 t1 (by simp; omega))
                    · exact ⟨HE.out.rows.1, fun k d v h1 h2 => Ad hb0w ((HE.out.rows.touch t1 (by simp; omega)).2 k d v h1 h2)⟩
                    · rw [J0]
                      exact Ac HE.out.blk.ex t1 (by simp)
end Go.Proofs.YtonjphollmdicaaGreatDoor
