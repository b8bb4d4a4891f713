import Derived.Test.YtonjphollmdicaaGreatDoorB01
import Derived.Test.YtonjphollmdicaaGreatDoorB02
import Derived.Test.YtonjphollmdicaaGreatDoorB17
import Derived.Test.YtonjphollmdicaaGreatDoorB18
import Derived.Lib.ConvBytes
set_option maxRecDepth 100000
set_option maxHeartbeats 4000000
set_option linter.unusedSimpArgs false
namespace Go.Proofs.YtonjphollmdicaaGreatDoor
open Go.ChangeShapes Go.WideShapes Go.ChangeAt Go.RowKit
structure RdAt (B : Nat) (s : List UInt8 × Bool) (w : World) : Prop where
  c0 : w.cell? ⟨B, 0, none⟩ = some (.string (str s.1))
  c1 : w.cell? ⟨B, 1, none⟩ = some (.bool s.2)
  f0 : w.frozen? ⟨B, 0, none⟩ = false
  f1 : w.frozen? ⟨B, 1, none⟩ = false
theorem RdAt.lt {B : Nat} {s : List UInt8 × Bool} {w : World} (h : RdAt B s w) : B < w.heap.size := World.block_lt_of_cell? w _ h.c0
theorem RdAt.touch {B : Nat} {s : List UInt8 × Bool} {w w' : World} (h : RdAt B s w) {L : List Nat} (ht : Touch L w w') (hL : B ∉ L) : RdAt B s w' :=
  ⟨by rw [ht.cell (x := ⟨B, 0, none⟩) h.lt hL]; exact h.c0, by rw [ht.cell (x := ⟨B, 1, none⟩) h.lt hL]; exact h.c1, by rw [ht.frozen (x := ⟨B, 0, none⟩) h.lt hL]; exact h.f0, by rw [ht.frozen (x := ⟨B, 1, none⟩) h.lt hL]; exact h.f1⟩
theorem RdAt.set0 {B : Nat} {r r' : List UInt8} {sh : Bool} {w : World} (h : RdAt B (r, sh) w) : RdAt B (r', sh) (w.setCell ⟨B, 0, none⟩ (.string (str r'))) := by
  obtain ⟨c0, c1, f0, f1⟩ := h
  exact ⟨World.cell?_setCell_same _ _ _ c0, by rw [World.cell?_setCell_other _ _ _ _ (by simp)]; exact c1, by rw [World.frozen?_setCell]; exact f0, by rw [World.frozen?_setCell]; exact f1⟩
theorem RdAt.set1 {B : Nat} {r : List UInt8} {sh sh' : Bool} {w : World} (h : RdAt B (r, sh) w) : RdAt B (r, sh') (w.setCell ⟨B, 1, none⟩ (.bool sh')) := by
  obtain ⟨c0, c1, f0, f1⟩ := h
  exact ⟨by rw [World.cell?_setCell_other _ _ _ _ (by simp)]; exact c0, World.cell?_setCell_same _ _ _ c1, by rw [World.frozen?_setCell]; exact f0, by rw [World.frozen?_setCell]; exact f1⟩
theorem Fc (B : Nat) (s : List UInt8 × Bool) (n : Nat) (hs : s.1.length ≤ 1000000) (w : World) (h : RdAt B s w) :
    Calls Tryz.prog 139 #[.pointer (some ⟨B, 0, none⟩), .int .i64 (n : Int)] w fun e w' => e = .returned (.string (str (rdT s n))) ∧ RdAt B (rdS s n) w' ∧ Touch [B] w w' := by
  obtain ⟨r, sh⟩ := s
  have H := Aa h
  obtain ⟨c0, c1, f0, f1⟩ := h
  simp only at c0 c1 hs
  have hss := Ae r
  by_cases hc : n ≤ r.length
  · have a1 : ¬ ((r.length : Int) < (n : Int)) := by omega
    have e1 : rdT (r, sh) n = r.take n := CL hc
    have e2 : rdS (r, sh) n = (r.drop n, sh) := BI hc
    have ex1 : (str r).extract 0 n = str (r.take n) := by rw [AB]; simp
    have ex2 : (str r).extract n r.length = str (r.drop n) := by rw [AB]; rw [List.take_of_length_le (by simp)]
    rw [e1, e2]
    clear e1 e2
    go_enter Tryz.func139, Tryz.ntmps139
    go_wp2_with fail
    go_ret
    exact ⟨rfl, H.out.set0, (Touch.refl _ _).setCell (.inl (by simp)) _⟩
  · have a1 : (r.length : Int) < (n : Int) := by omega
    have e1 : rdT (r, sh) n = [] := Sw (by simpa using hc)
    have e2 : rdS (r, sh) n = ([], true) := DC (by simpa using hc)
    rw [e1, e2]
    clear e1 e2
    go_enter Tryz.func139, Tryz.ntmps139
    go_wp2_with fail
    go_ret
    exact ⟨rfl, H.out.set0.set1, ((Touch.refl _ _).setCell (.inl (by simp)) _).setCell (.inl (by simp)) _⟩
theorem Pu (n : Nat) (b : UInt8) : bits BinOp.or IntKind.u64 (IntKind.u64.wrap ((n : Int) * 256)) (IntKind.u64.wrap (b.toNat : Int)) = ((CV n b : Nat) : Int) := by
  have hb := b.toNat_lt
  have e1 : IntKind.u64.wrap ((n : Int) * 256) = ((2 ^ 8 * (n % 72057594037927936) : Nat) : Int) := by rw [IntKind.wrap_u64]; omega
  have e2 : IntKind.u64.wrap (b.toNat : Int) = (b.toNat : Int) := by rw [IntKind.wrap_u64]; omega
  rw [e1, e2, u64_or_nat _ b.toNat (by omega) (by omega), ← Nat.two_pow_add_eq_or_of_lt (i := 8) (b := b.toNat) (by omega)]
  unfold CV P64
  omega
theorem Bw (B : Nat) (s : List UInt8 × Bool) (n : Nat) (hs : s.1.length ≤ 1000000) (hn : n ≤ 1000000) (w : World) (h : RdAt B s w) :
    Calls Tryz.prog 140 #[.pointer (some ⟨B, 0, none⟩), .int .i64 (n : Int)] w fun e w' => e = .returned (.int .u64 ((CZ (rdT s n) : Nat) : Int)) ∧ RdAt B (rdS s n) w' ∧ Touch [B] w w' := by
  have HT := Aa (Fc B s n hs w h)
  obtain ⟨l, hl⟩ : ∃ l, l = rdT s n := ⟨_, rfl⟩
  have hll : l.length ≤ 1000000 := by rw [hl]; exact Nat.le_trans (Dp s n) hn
  rw [← hl] at HT ⊢
  clear hl h
  have hcv := fun W => Lib.run_convert_string_bytes (P := Tryz.prog) W 9 67 5 (str l) Tryz.underlying9 Tryz.underlying67 Tryz.underlying5
  go_enter Tryz.func140, Tryz.ntmps140
  go_wp2_with fail
  refine HT.out.mono ?_
  rintro e w1 ⟨rfl, hr1, ht1⟩
  have hss := Ae l
  have hcell := fun j (hj : j < l.length) => Lib.bytesWorld_cell w1 5 (str l) j (by rw [hss]; exact hj)
  have hbw : Below w1.heap.size w1 (Lib.bytesWorld w1 5 (str l)) := ⟨rfl, rfl, rfl, by rw [Lib.bytesWorld_size]; omega, fun k hk => Lib.bytesWorld_at_old _ _ _ _ hk⟩
  have HR : Hid (RdAt B (rdS s n) (Lib.bytesWorld w1 5 (str l))) := Aa (hr1.touch (Touch.of_below hbw []) (by simp))
  have HTT : Hid (Touch [B] w (Lib.bytesWorld w1 5 (str l))) := Aa (ht1.andThen (Touch.of_below hbw []) (by simp))
  go_wp2_with fail
  obtain ⟨W, hW⟩ : ∃ W, W = Lib.bytesWorld w1 5 (str l) := ⟨_, rfl⟩
  rw [← hW] at hcell HR HTT ⊢
  have HCELL := Aa hcell
  obtain ⟨g, hg⟩ : ∃ g, g = w1.heap.size := ⟨_, rfl⟩
  obtain ⟨cp, hcp⟩ : ∃ cp, cp = grownCap w1 l.length 0 5 := ⟨_, rfl⟩
  rw [← hg, ← hcp]
  rw [← hg] at HCELL
  clear hW hg hcp hcell hbw hr1 ht1 hcv HT
  go_loop [5, 13] (fun x i => ∃ k h' : Nat, k ≤ l.length ∧ h' < P64 ∧ Hid ((l.drop k).foldl CV h' = CZ l) ∧ x = .int .u64 (h' : Int) ∧ i = .int .i64 (k : Int))
                    (fun _ i => l.length - (intOf i).toNat)
  case atStart => exact ⟨0, 0, by omega, by decide, Aa rfl, rfl, rfl⟩
  case round =>
    obtain ⟨k, h', hk, hh', hm, rfl, rfl⟩ := hrel
    by_cases hlt : k < l.length
    · have hc := HCELL.out k hlt
      have e1 : (str l).data.toList.getD k 0 = l[k] := by simp [str, hlt]
      rw [e1] at hc
      have hsp := Pu h' l[k]
      obtain ⟨b, hb⟩ : ∃ b, b = l[k] := ⟨_, rfl⟩
      rw [← hb] at hc hsp
      have HB := Aa hb
      clear hb e1
      go_wp2_with fail
      refine ⟨⟨k + 1, CV h' b, by omega, GB _ _, Aa ?_, rfl, by go_num⟩, ?_⟩
      · have := hm.out
        rw [List.drop_eq_getElem_cons hlt, List.foldl_cons, ← HB.out] at this
        exact this
      · simp [intOf]; omega
    · have hk2 : k = l.length := by omega
      subst hk2
      go_wp2_with fail
      go_ret
      have := hm.out
      rw [List.drop_eq_nil_of_le (Nat.le_refl _)] at this
      simp only [List.foldl_nil] at this
      rw [← this]
      exact ⟨rfl, HR.out, HTT.out⟩
def Md (B : Nat) (W : World) : Nat := match W.cell? ⟨B, 0, none⟩ with | some (.string t) => t.size | _ => 0
theorem RdAt.rest {B : Nat} {s : List UInt8 × Bool} {w : World} (h : RdAt B s w) : Md B w = s.1.length := by
  unfold Md
  rw [h.c0]
  exact Ae _
theorem Tryz.infoU64 : (Tryz.prog.info? 63).map (fun i => (i.zero, i.size, i.bytes)) = some (some (.int .u64 0), 1, 8) := by kernel_rfl
theorem Ip (B : Nat) (s : List UInt8 × Bool) (hs : s.1.length ≤ 1000000) (w : World) (h : RdAt B s w) :
    Calls Tryz.prog 194 #[.pointer (some ⟨B, 0, none⟩)] w fun e w' => ∃ v, e = .returned v ∧ w'.ownsRow w.heap.size 63 1 v (KM s.1).length (Cv (KM s.1)) ∧ RdAt B (IW s) w' ∧ Touch [B] w w' := by
  obtain ⟨i0, hi, hz0, hz1, hz2⟩ := info_parts Tryz.infoU64
  have HR := Aa h
  clear h
  go_enter Tryz.func194, Tryz.ntmps194
  go_wp2_with fail
  have hlt := HR.out.lt
  go_loopw [3] (fun v W => ∃ (D : List Nat) (s' : List UInt8 × Bool), W.ownsRow w.heap.size 63 1 v D.length (Cv D) ∧ RdAt B s' W ∧ Touch [B] w W ∧ Hid (D ++ KM s'.1 = KM s.1) ∧ Hid (IW s' = IW s) ∧ s'.1.length ≤ s.1.length)
    (fun _ W => Md B W)
  case atStart =>
    refine ⟨[], s, World.ownsRow_made (base := w.heap.size) (e := 63) (size := 1) w #[] 0 (Nat.le_refl _) (by unfold maxLen; omega) rfl, ?_, (Touch.refl _ _).alloc _, Aa (by simp), Aa rfl, Nat.le_refl _⟩
    exact HR.out.touch ((Touch.refl [] _).alloc _) (by simp)
  case round =>
    obtain ⟨D, s', hown, hra, htc, HD, HS, hle⟩ := hrel
    have hrest := hra.rest
    have hbsz : B < wr.heap.size := hra.lt
    have hDl : D.length + (s'.1.length + 7) / 8 ≤ 1000000 := by
      have := congrArg List.length HD.out
      rw [List.length_append, Dk, Dk] at this
      omega
    have hss := Ae s'.1
    have HO := Aa hown
    have HRA := Aa hra
    have HT := Aa htc
    obtain ⟨c0, c1, f0, f1⟩ := hra
    by_cases hz : s'.1.length = 0
    · have hnil : s'.1 = [] := List.length_eq_zero_iff.1 hz
      have a1 : ¬ ((0 : Int) < (s'.1.length : Int)) := by omega
      clear hown htc
      go_wp2_with fail
      go_ret
      refine ⟨_, rfl, ?_, ?_, HT.out⟩
      · have := HD.out
        rw [hnil, QR, List.append_nil] at this
        rw [← this]
        exact HO.out
      · rw [← HS.out]
        have e : IW s' = s' := by
          unfold IW
          rw [hz, ← hnil]
          simp
        rw [e]
        exact HRA.out
    · have hne : s'.1 ≠ [] := fun e => hz (by rw [e]; rfl)
      have a1 : (0 : Int) < (s'.1.length : Int) := by omega
      have hN := Aa (Bw B s' 8 (by omega) (by omega) wr HRA.out)
      have h1 := Pm s' hne
      have h2 := Pw s' hne
      have H1 : Hid ((D ++ [CZ (rdT s' 8)]) ++ KM (rdS s' 8).1 = KM s.1) := Aa (by rw [← HD.out, h1]; simp)
      have H2 : Hid (IW (rdS s' 8) = IW s) := Aa (by rw [h2, HS.out])
      have hlen8 : (rdS s' 8).1.length < s'.1.length := by
        unfold rdS
        split
        · simp; omega
        · simp; omega
      have hle2 : (rdS s' 8).1.length ≤ s.1.length := by omega
      obtain ⟨x, hx⟩ : ∃ x, x = CZ (rdT s' 8) := ⟨_, rfl⟩
      rw [← hx] at hN H1
      obtain ⟨s2, hs2⟩ : ∃ x, x = rdS s' 8 := ⟨_, rfl⟩
      rw [← hs2] at hN H1 H2 hlen8 hle2
      clear hown htc hx hs2 h1 h2 HD HS
      go_wp2_with fail
      refine hN.out.mono ?_
      rintro e w2 ⟨rfl, hr2, ht2⟩
      have L1 := Aa (Ac HO.out ht2 (by simpa using hlt))
      have L2 := Aa (HT.out.trans ht2)
      have HR2 := Aa hr2
      have hsz2 : w.heap.size ≤ w2.heap.size := L2.out.size
      clear hr2 ht2 HO HT HRA
      go_wp2_with (at_builtin; refine wpList_append_own _ rfl (.tmp 11) (.tmp 14) 99 rfl w.heap.size 63 i0 (.int .u64 0) 1 8 Tryz.underlying99 hi hz0 hz1 hz2 rfl (by decide) _ _ _ rfl (L1.out.alloc _) ⟨w2.heap.size, 0, none⟩ 1 1 [.int .u64 (x : Int)] rfl rfl (cell_one_new _ _ _) ?c2 ?c3 ?c4 ?c5 ?_)
      case c2 =>
        intro u hu
        simp at hu
        subst hu
        rfl
      case c3 => unfold maxLen; omega
      case c4 => omega
      case c5 => simp; omega
      intro v6 w6 hown6 hg6 _
      have ht6 := (L2.out.alloc (.cells #[.int .u64 (x : Int)] 63)).row (L1.out.alloc _) (Nat.le_refl _) hg6
      have hr6 : RdAt B s2 w6 := by
        have h9 : RdAt B s2 (w2.alloc (.cells #[.int .u64 (x : Int)] 63)) := HR2.out.touch ((Touch.refl [] _).alloc _) (by simp)
        have hblk : w6.heap[B]? = (w2.alloc (.cells #[.int .u64 (x : Int)] 63)).heap[B]? := hg6.block B h9.lt (fun e => by
          have := (L1.out.lt B e.symm).1
          omega)
        exact ⟨by rw [World.cell?_of_block (a := ⟨B, 0, none⟩) hblk]; exact h9.c0, by rw [World.cell?_of_block (a := ⟨B, 1, none⟩) hblk]; exact h9.c1, by rw [World.frozen?_of_block (a := ⟨B, 0, none⟩) hblk]; exact h9.f0, by rw [World.frozen?_of_block (a := ⟨B, 1, none⟩) hblk]; exact h9.f1⟩
      have hrest6 := hr6.rest
      have K1 := Aa hown6
      have K2 := Aa ht6
      have K3 := Aa hr6
      clear hown6 hg6 ht6 hr6 L1 L2 HR2
      go_wp2_with fail
      refine ⟨⟨D ++ [x], s2, ?_, K3.out, K2.out, H1, H2, hle2⟩, by rw [hrest6, hrest]; exact hlen8⟩
      have e : Cv (D ++ [x]) = Cv D ++ [.int .u64 (x : Int)] := by simp [Cv]
      rw [List.length_append, e]
      exact K1.out
theorem JR (b : List UInt8) (hb : b.length ≤ 1000000) (w : World) :
  Calls Tryz.prog 188 #[.string (str b)] w fun e w' => ∃ v, e = .returned (.tuple #[.agg #[.int .i64 (Ak b : Int), v], .bool (Cm b)]) ∧ w'.ownsRow w.heap.size 63 1 v (Aw b).length (Cv (Aw b)) ∧ Below w.heap.size w w' := by
 have N1 := Aa (fun W h => Bw (w.heap.size + 1) (b, false) 2 hb (by omega) W h)
 have hl1 : (rdS (b, false) 2).1.length ≤ 1000000 := Nat.le_trans (Cf _ _) hb
 have N2 := Aa (fun W h => Bw (w.heap.size + 1) (rdS (b, false) 2) 1 hl1 (by omega) W h)
 have hl2 : (ER b).1.length ≤ 1000000 := Nat.le_trans (Cf _ _) hl1
 have N3 := Aa (fun W h => Ip (w.heap.size + 1) (ER b) hl2 W h)
 have hsz : Ak b < 65536 := CJ _ (Dp _ _)
 have hct : CQ b < 65536 := CJ _ (Nat.le_trans (Dp _ _) (by omega))
 have hmr : Cm b = (!(IW (ER b)).2 && Ax (Ak b : Int) && decide (1 ≤ CQ b) && decide (CQ b ≤ 6) && decide (CQ b = (Aw b).length)) := rfl
 have hfl : (Aw b).length ≤ 1000000 := by unfold Aw; rw [Dk]; omega
 change Hid (∀ W, RdAt _ _ W → Calls Tryz.prog 140 _ W fun e w' => e = .returned (.int .u64 ((Ak b : Nat) : Int)) ∧ _) at N1
 change Hid (∀ W, RdAt _ _ W → Calls Tryz.prog 140 _ W fun e w' => e = .returned (.int .u64 ((CQ b : Nat) : Int)) ∧ RdAt _ (ER b) w' ∧ _) at N2
 change Hid (∀ W, RdAt _ _ W → Calls Tryz.prog 194 _ W fun e w' => ∃ v, e = .returned v ∧ w'.ownsRow W.heap.size 63 1 v (Aw b).length (Cv (Aw b)) ∧ _) at N3
 have HMR := Aa hmr
 obtain ⟨sz, hsze⟩ : ∃ x, x = Ak b := ⟨_, rfl⟩
 obtain ⟨ct, hcte⟩ : ∃ x, x = CQ b := ⟨_, rfl⟩
 obtain ⟨fl, hfle⟩ : ∃ x, x = Aw b := ⟨_, rfl⟩
 obtain ⟨st, hste⟩ : ∃ x, x = ER b := ⟨_, rfl⟩
 obtain ⟨s1, hs1⟩ : ∃ x, x = rdS (b, false) 2 := ⟨_, rfl⟩
 obtain ⟨R, hRe⟩ : ∃ x, x = Cm b := ⟨_, rfl⟩
 rw [← hsze] at N1 hsz HMR ⊢
 rw [← hcte] at N2 hct HMR
 rw [← hfle] at N3 hfl HMR ⊢
 rw [← hste] at N2 N3 HMR
 rw [← hs1] at N1 N2
 rw [← hRe] at HMR ⊢
 clear hsze hcte hfle hste hs1 hRe hmr hl1 hl2
 have wsz : IntKind.i64.wrap (sz : Int) = (sz : Int) := by rw [IntKind.wrap_i64]; omega
 have wct : IntKind.i64.wrap (ct : Int) = (ct : Int) := by rw [IntKind.wrap_i64]; omega
 clear hsz hct
 have A1 : Hid (RdAt (w.heap.size + 1) (b, false) ((w.alloc (Obj.cells #[Value.int IntKind.i64 0, Value.slice none 0 0] 128)).alloc (Obj.cells #[Value.string (str b), Value.bool false] 226))) := Aa ⟨by simp, by simp, by simp, by simp⟩
 go_enter Tryz.func188, Tryz.ntmps188
 go_wp2_with fail
 refine (N1.out _ A1.out).mono ?_
 rintro e w1 ⟨rfl, hr1, ht1⟩
 have hsz1 : w.heap.size + 2 ≤ w1.heap.size := by have := ht1.size; simpa using this
 have hb1 : Below w.heap.size w w1 := Below.trans ((((Below.refl w.heap.size w).alloc (Nat.le_refl _) _).alloc (by simp) _)) (ht1.below (by simp; omega) (by simp))
 have k1 : Blk w1 w.heap.size [.int .i64 0, .slice none 0 0] := ((Blk.new w #[.int .i64 0, .slice none 0 0] 128).alloc _).touch ht1 (by simp)
 have A2 : Hid (RdAt (w.heap.size + 1) s1 (w1.alloc (Obj.cells #[Value.int IntKind.i64 (sz : Int), Value.slice none 0 0] 128))) := Aa (hr1.touch ((Touch.refl [] _).alloc _) (by simp))
 have K2 := Aa (k1.alloc (Obj.cells #[Value.int IntKind.i64 (sz : Int), Value.slice none 0 0] 128))
 have G2 := Aa (Blk.new w1 #[Value.int IntKind.i64 (sz : Int), Value.slice none 0 0] 128)
 have B2 := Aa (hb1.alloc (by omega) (Obj.cells #[Value.int IntKind.i64 (sz : Int), Value.slice none 0 0] 128))
 clear ht1 A1 N1 hr1 hb1 k1
 go_wp2_with fail
 refine (N2.out _ A2.out).mono ?_
 rintro e w2 ⟨rfl, hr2, ht2⟩
 go_wp2_with fail
 refine (N3.out _ hr2).mono ?_
 rintro e w3 ⟨v, rfl, hown, hr3, ht3⟩
 obtain ⟨av, cv, rfl, -⟩ := Av hown
 obtain ⟨g, hg⟩ : ∃ g, g = w1.heap.size := ⟨_, rfl⟩
 rw [← hg] at G2 hsz1 ⊢
 have hgs : (w1.alloc (Obj.cells #[Value.int IntKind.i64 (sz : Int), Value.slice none 0 0] 128)).heap.size = g + 1 := by simp [hg]
 have ht4 := ht2.trans ht3
 have kq := K2.out.touch ht4 (by simp)
 have kg := G2.out.touch ht4 (by simp; omega)
 have hb3 : Below w.heap.size w w3 := B2.out.trans (ht4.below (by rw [hgs]; omega) (by simp))
 have ho3 : w3.ownsRow w.heap.size 63 1 (.slice av fl.length cv) fl.length (Cv fl) := Ad (by have := ht2.size; rw [hgs] at this; omega) hown
 have hvg : (Value.slice av fl.length cv).ownBlock ≠ some g := fun e => by
  have h1 := (hown.lt g e).1
  have h2 := ht2.size
  rw [hgs] at h2
  omega
 have hvq : (Value.slice av fl.length cv).ownBlock ≠ some w.heap.size := fun e => by
  have h1 := (hown.lt _ e).1
  have h2 := ht2.size
  rw [hgs] at h2
  omega
 obtain ⟨r0, r1, _, _⟩ := hr3
 have B3 := Aa hb3
 have O3 := Aa ho3
 have g0 := (kg 0 _ rfl).1
 have g1 := (kg 1 _ rfl).1
 have y1 := (kg 1 _ rfl).2
 have q0 := (kq 0 _ rfl).1
 have q1 := (kq 1 _ rfl).1
 have z0 := (kq 0 _ rfl).2
 have z1 := (kq 1 _ rfl).2
 have hgw : g ≠ w.heap.size := by omega
 have hgw' : g ≠ w.heap.size + 1 := by omega
 have HVG := Aa hvg
 have HVQ := Aa hvq
 clear hown ht2 ht3 ht4 hr2 hb3 ho3 A2 K2 G2 B2 N2 N3 hgs hg hvg hvq
 go_wp2_with fail
 obtain ⟨sh, hsh⟩ : ∃ x, x = (IW st).2 := ⟨_, rfl⟩
 rw [← hsh] at HMR r1
 clear hsh
 have r1' : (w3.setCell { block := g, off := 1 } (Value.slice av fl.length cv)).cell? ⟨w.heap.size + 1, 1, none⟩ = some (.bool sh) := by rw [World.cell?_setCell_other _ _ _ _ (by simp)]; exact r1
 have g0' : (w3.setCell { block := g, off := 1 } (Value.slice av fl.length cv)).cell? ⟨g, 0, none⟩ = some (.int .i64 (sz : Int)) := by rw [World.cell?_setCell_other _ _ _ _ (by simp)]; exact g0
 have g1' : (w3.setCell { block := g, off := 1 } (Value.slice av fl.length cv)).cell? ⟨g, 1, none⟩ = some (.slice av fl.length cv) := World.cell?_setCell_same _ _ _ g1
 have kq' := kq.set_other (a := ⟨g, 1, none⟩) hgw (.slice av fl.length cv)
 have B4 := Aa (B3.out.setCell (show w.heap.size ≤ (⟨g, 1, none⟩ : Addr).block from by simp; omega) (.slice av fl.length cv))
 have O4 : Hid ((w3.setCell { block := g, off := 1 } (Value.slice av fl.length cv)).ownsRow w.heap.size 63 1 (.slice av fl.length cv) fl.length (Cv fl)) := Aa (AP O3.out ((Touch.refl [g] _).setCell (.inl (by simp)) _) (fun k hk => by
  simp only [List.mem_singleton]
  rintro rfl
  exact HVG.out hk))
 obtain ⟨W, hW⟩ : ∃ W, W = w3.setCell { block := g, off := 1 } (Value.slice av fl.length cv) := ⟨_, rfl⟩
 rw [← hW] at r1' g0' g1' kq' B4 O4 ⊢
 have q0' := (kq' 0 _ rfl).1
 have q1' := (kq' 1 _ rfl).1
 have z0' := (kq' 0 _ rfl).2
 have z1' := (kq' 1 _ rfl).2
 have hfin : ∀ X : World, X = (W.drew.setCell ⟨w.heap.size, 0, none⟩ (.int .i64 (sz : Int))).setCell ⟨w.heap.size, 1, none⟩ (.slice av fl.length cv) → X.ownsRow w.heap.size 63 1 (.slice av fl.length cv) fl.length (Cv fl) ∧ Below w.heap.size w X := by
  rintro X rfl
  refine ⟨AP O4.out (((Touch.refl [w.heap.size] _).drew.setCell (.inl (by simp)) _).setCell (.inl (by simp)) _) (fun k hk => ?_), ((B4.out.drew).setCell (Nat.le_refl _) _).setCell (Nat.le_refl _) _⟩
  simp only [List.mem_singleton]
  rintro rfl
  exact HVQ.out hk
 have HFIN := Aa hfin
 have S0 : W.drew.cell? ⟨w.heap.size + 1, 1, none⟩ = some (.bool sh) ∧ W.drew.cell? ⟨g, 0, none⟩ = some (.int .i64 (sz : Int)) ∧ W.drew.cell? ⟨g, 1, none⟩ = some (.slice av fl.length cv) := ⟨r1', g0', g1'⟩
 have S1 : ((W.drew.setCell ⟨w.heap.size, 0, none⟩ (.int .i64 (sz : Int))).setCell ⟨w.heap.size, 1, none⟩ (.slice av fl.length cv)).cell? ⟨w.heap.size + 1, 1, none⟩ = some (.bool sh) ∧ ((W.drew.setCell ⟨w.heap.size, 0, none⟩ (.int .i64 (sz : Int))).setCell ⟨w.heap.size, 1, none⟩ (.slice av fl.length cv)).cell? ⟨g, 0, none⟩ = some (.int .i64 (sz : Int)) ∧ ((W.drew.setCell ⟨w.heap.size, 0, none⟩ (.int .i64 (sz : Int))).setCell ⟨w.heap.size, 1, none⟩ (.slice av fl.length cv)).cell? ⟨g, 1, none⟩ = some (.slice av fl.length cv) := by
  refine ⟨?_, ?_, ?_⟩
  ·rw [World.cell?_setCell_other _ _ _ _ (by simp), World.cell?_setCell_other _ _ _ _ (by simp)]; exact r1'
  ·rw [World.cell?_setCell_other _ _ _ _ (by simp [Ne.symm hgw]), World.cell?_setCell_other _ _ _ _ (by simp [Ne.symm hgw])]; exact g0'
  ·rw [World.cell?_setCell_other _ _ _ _ (by simp [Ne.symm hgw]), World.cell?_setCell_other _ _ _ _ (by simp [Ne.symm hgw])]; exact g1'
 have S1' : (((W.setCell ⟨w.heap.size, 0, none⟩ (.int .i64 (sz : Int))).setCell ⟨w.heap.size, 1, none⟩ (.slice av fl.length cv)).drew).cell? ⟨w.heap.size + 1, 1, none⟩ = some (.bool sh) ∧ (((W.setCell ⟨w.heap.size, 0, none⟩ (.int .i64 (sz : Int))).setCell ⟨w.heap.size, 1, none⟩ (.slice av fl.length cv)).drew).cell? ⟨g, 0, none⟩ = some (.int .i64 (sz : Int)) ∧ (((W.setCell ⟨w.heap.size, 0, none⟩ (.int .i64 (sz : Int))).setCell ⟨w.heap.size, 1, none⟩ (.slice av fl.length cv)).drew).cell? ⟨g, 1, none⟩ = some (.slice av fl.length cv) := S1
 clear hW r0 r1 g0 g1 y1 q0 q1 z0 z1 kq kg kq' B3 O3 B4 O4 HVG HVQ hfin
 cases sh with
 | true =>
  have HR : Hid (R = false) := Aa (by rw [HMR.out]; rfl)
  clear HMR
  refine wp_region_held_drew (S := fun X => X.cell? ⟨w.heap.size + 1, 1, none⟩ = some (.bool true) ∧ X.cell? ⟨g, 0, none⟩ = some (.int .i64 (sz : Int)) ∧ X.cell? ⟨g, 1, none⟩ = some (.slice av fl.length cv)) (by kernel_rfl) S0 (fun hHeld => ?_)
  refine tY 0 16 ?_
  refine tY 1 17 ?_
  refine tY 2 18 ?_
  refine tY 3 19 ?_
  refine tY 4 20 ?_
  refine tN 5 21 ?_
  refine tN 6 22 ?_
  refine tN 7 23 ?_
  refine tY 8 24 ?_
  refine tY 9 25 ?_
  refine tN 10 26 ?_
  refine tN 11 27 ?_
  refine tY 12 28 ?_
  refine tY 13 29 ?_
  refine tN 14 30 ?_
  refine tN 15 31 ?_
  refine tY 16 32 ?_
  refine tY 17 33 ?_
  refine tN 18 34 ?_
  refine tN 19 35 ?_
  refine tN 20 36 ?_
  refine tN 21 37 ?_
  refine tN 22 38 ?_
  refine tY 23 39 ?_
  refine step_one (i := 24) (by kernel_rfl) (fun K o ho hK => ?_)
  simp only [gA, gB, gC, gE] at ho
  subst ho
  go_simp
  refine hK.out _ _ ?_ (fun hHeld => ?_)
  focus (first | exact S1 | exact S1')
  clear hK K
  try simp only [Act.put, sA, sB, sC]
  refine tY 25 3 ?_
  refine wpAnyH_done (by kernel_rfl) ?_ _
  go_wp2_with fail
  refine bodyPost_ret (v := .tuple #[.agg #[.int .i64 (sz : Int), .slice av fl.length cv], .bool false]) (by simp [results, Tryz.results188, go_sem, q0', q1']) rfl ?_
  exact ⟨_, by rw [HR.out], (HFIN.out _ rfl).1, (HFIN.out _ rfl).2⟩
 | false =>
  have hcall := fun W => Bm (sz : Int) W
  by_cases b1 : Ax (sz : Int) = true
  ·rw [b1] at hcall
   have HC := Aa hcall
   clear hcall
   by_cases b2 : 1 ≤ ct
   ·have e2 : (1 : Int) ≤ (ct : Int) := by omega
    by_cases b3 : ct ≤ 6
    ·have e3 : (ct : Int) ≤ 6 := by omega
     by_cases b4 : ct = fl.length
     ·have e4 : ((ct : Int) == (fl.length : Int)) = true := by simp [b4]
      have HR : Hid (R = true) := Aa (by rw [HMR.out, b1, decide_eq_true b2, decide_eq_true b3, decide_eq_true b4]; rfl)
      clear HMR b4
      refine wp_region_held_drew (S := fun X => X.cell? ⟨w.heap.size + 1, 1, none⟩ = some (.bool false) ∧ X.cell? ⟨g, 0, none⟩ = some (.int .i64 (sz : Int)) ∧ X.cell? ⟨g, 1, none⟩ = some (.slice av fl.length cv)) (by kernel_rfl) S0 (fun hHeld => ?_)
      refine tY 0 16 ?_
      refine tY 1 17 ?_
      refine tY 2 18 ?_
      refine tY 3 19 ?_
      refine tY 4 20 ?_
      refine tY 5 21 ?_
      refine tY 6 22 ?_
      refine step_one (i := 7) (by kernel_rfl) (fun K o ho hK => ?_)
      simp only [gA, gB, gC, gE] at ho
      subst ho
      go_simp
      refine (HC.out _).mono ?_
      rintro e w' ⟨rfl, rfl⟩
      refine hK.out _ _ ?_ (fun hHeld => ?_)
      focus (exact S0)
      clear hK K
      try simp only [Act.put, sA, sB, sC]
      refine tY 8 24 ?_
      refine tY 9 25 ?_
      refine tY 10 26 ?_
      refine tY 11 27 ?_
      refine tY 12 28 ?_
      refine tY 13 29 ?_
      refine tY 14 30 ?_
      refine tY 15 31 ?_
      refine tY 16 32 ?_
      refine tY 17 33 ?_
      refine tY 18 34 ?_
      refine tY 19 35 ?_
      refine tY 20 36 ?_
      refine tY 21 37 ?_
      refine tY 22 38 ?_
      refine tY 23 39 ?_
      refine step_one (i := 24) (by kernel_rfl) (fun K o ho hK => ?_)
      simp only [gA, gB, gC, gE] at ho
      subst ho
      go_simp
      refine hK.out _ _ ?_ (fun hHeld => ?_)
      focus (first | exact S1 | exact S1')
      clear hK K
      try simp only [Act.put, sA, sB, sC]
      refine tY 25 3 ?_
      refine wpAnyH_done (by kernel_rfl) ?_ _
      go_wp2_with fail
      refine bodyPost_ret (v := .tuple #[.agg #[.int .i64 (sz : Int), .slice av fl.length cv], .bool true]) (by simp [results, Tryz.results188, go_sem, q0', q1']) rfl ?_
      exact ⟨_, by rw [HR.out], (HFIN.out _ rfl).1, (HFIN.out _ rfl).2⟩
     ·have e4 : ((ct : Int) == (fl.length : Int)) = false := by simp; omega
      have HR : Hid (R = false) := Aa (by rw [HMR.out]; simp [b4])
      clear HMR
      refine wp_region_held_drew (S := fun X => X.cell? ⟨w.heap.size + 1, 1, none⟩ = some (.bool false) ∧ X.cell? ⟨g, 0, none⟩ = some (.int .i64 (sz : Int)) ∧ X.cell? ⟨g, 1, none⟩ = some (.slice av fl.length cv)) (by kernel_rfl) S0 (fun hHeld => ?_)
      refine tY 0 16 ?_
      refine tY 1 17 ?_
      refine tY 2 18 ?_
      refine tY 3 19 ?_
      refine tY 4 20 ?_
      refine tY 5 21 ?_
      refine tY 6 22 ?_
      refine step_one (i := 7) (by kernel_rfl) (fun K o ho hK => ?_)
      simp only [gA, gB, gC, gE] at ho
      subst ho
      go_simp
      refine (HC.out _).mono ?_
      rintro e w' ⟨rfl, rfl⟩
      refine hK.out _ _ ?_ (fun hHeld => ?_)
      focus (exact S0)
      clear hK K
      try simp only [Act.put, sA, sB, sC]
      refine tY 8 24 ?_
      refine tY 9 25 ?_
      refine tY 10 26 ?_
      refine tY 11 27 ?_
      refine tY 12 28 ?_
      refine tY 13 29 ?_
      refine tY 14 30 ?_
      refine tY 15 31 ?_
      refine tY 16 32 ?_
      refine tY 17 33 ?_
      refine tY 18 34 ?_
      refine tY 19 35 ?_
      refine tY 20 36 ?_
      refine tY 21 37 ?_
      refine tY 22 38 ?_
      refine tY 23 39 ?_
      refine step_one (i := 24) (by kernel_rfl) (fun K o ho hK => ?_)
      simp only [gA, gB, gC, gE] at ho
      subst ho
      go_simp
      refine hK.out _ _ ?_ (fun hHeld => ?_)
      focus (first | exact S1 | exact S1')
      clear hK K
      try simp only [Act.put, sA, sB, sC]
      refine tY 25 3 ?_
      refine wpAnyH_done (by kernel_rfl) ?_ _
      go_wp2_with fail
      refine bodyPost_ret (v := .tuple #[.agg #[.int .i64 (sz : Int), .slice av fl.length cv], .bool false]) (by simp [results, Tryz.results188, go_sem, q0', q1']) rfl ?_
      exact ⟨_, by rw [HR.out], (HFIN.out _ rfl).1, (HFIN.out _ rfl).2⟩
    ·have e3 : ¬ ((ct : Int) ≤ 6) := by omega
     have HR : Hid (R = false) := Aa (by rw [HMR.out]; simp [b3])
     clear HMR
     refine wp_region_held_drew (S := fun X => X.cell? ⟨w.heap.size + 1, 1, none⟩ = some (.bool false) ∧ X.cell? ⟨g, 0, none⟩ = some (.int .i64 (sz : Int)) ∧ X.cell? ⟨g, 1, none⟩ = some (.slice av fl.length cv)) (by kernel_rfl) S0 (fun hHeld => ?_)
     refine tY 0 16 ?_
     refine tY 1 17 ?_
     refine tY 2 18 ?_
     refine tY 3 19 ?_
     refine tY 4 20 ?_
     refine tY 5 21 ?_
     refine tY 6 22 ?_
     refine step_one (i := 7) (by kernel_rfl) (fun K o ho hK => ?_)
     simp only [gA, gB, gC, gE] at ho
     subst ho
     go_simp
     refine (HC.out _).mono ?_
     rintro e w' ⟨rfl, rfl⟩
     refine hK.out _ _ ?_ (fun hHeld => ?_)
     focus (exact S0)
     clear hK K
     try simp only [Act.put, sA, sB, sC]
     refine tY 8 24 ?_
     refine tY 9 25 ?_
     refine tY 10 26 ?_
     refine tY 11 27 ?_
     refine tY 12 28 ?_
     refine tY 13 29 ?_
     refine tY 14 30 ?_
     refine tY 15 31 ?_
     refine tY 16 32 ?_
     refine tY 17 33 ?_
     refine tN 18 34 ?_
     refine tN 19 35 ?_
     refine tN 20 36 ?_
     refine tN 21 37 ?_
     refine tN 22 38 ?_
     refine tY 23 39 ?_
     refine step_one (i := 24) (by kernel_rfl) (fun K o ho hK => ?_)
     simp only [gA, gB, gC, gE] at ho
     subst ho
     go_simp
     refine hK.out _ _ ?_ (fun hHeld => ?_)
     focus (first | exact S1 | exact S1')
     clear hK K
     try simp only [Act.put, sA, sB, sC]
     refine tY 25 3 ?_
     refine wpAnyH_done (by kernel_rfl) ?_ _
     go_wp2_with fail
     refine bodyPost_ret (v := .tuple #[.agg #[.int .i64 (sz : Int), .slice av fl.length cv], .bool false]) (by simp [results, Tryz.results188, go_sem, q0', q1']) rfl ?_
     exact ⟨_, by rw [HR.out], (HFIN.out _ rfl).1, (HFIN.out _ rfl).2⟩
   ·have e2 : ¬ ((1 : Int) ≤ (ct : Int)) := by omega
    have HR : Hid (R = false) := Aa (by rw [HMR.out]; simp [b2])
    clear HMR
    refine wp_region_held_drew (S := fun X => X.cell? ⟨w.heap.size + 1, 1, none⟩ = some (.bool false) ∧ X.cell? ⟨g, 0, none⟩ = some (.int .i64 (sz : Int)) ∧ X.cell? ⟨g, 1, none⟩ = some (.slice av fl.length cv)) (by kernel_rfl) S0 (fun hHeld => ?_)
    refine tY 0 16 ?_
    refine tY 1 17 ?_
    refine tY 2 18 ?_
    refine tY 3 19 ?_
    refine tY 4 20 ?_
    refine tY 5 21 ?_
    refine tY 6 22 ?_
    refine step_one (i := 7) (by kernel_rfl) (fun K o ho hK => ?_)
    simp only [gA, gB, gC, gE] at ho
    subst ho
    go_simp
    refine (HC.out _).mono ?_
    rintro e w' ⟨rfl, rfl⟩
    refine hK.out _ _ ?_ (fun hHeld => ?_)
    focus (exact S0)
    clear hK K
    try simp only [Act.put, sA, sB, sC]
    refine tY 8 24 ?_
    refine tY 9 25 ?_
    refine tY 10 26 ?_
    refine tY 11 27 ?_
    refine tY 12 28 ?_
    refine tY 13 29 ?_
    refine tN 14 30 ?_
    refine tN 15 31 ?_
    refine tY 16 32 ?_
    refine tY 17 33 ?_
    refine tN 18 34 ?_
    refine tN 19 35 ?_
    refine tN 20 36 ?_
    refine tN 21 37 ?_
    refine tN 22 38 ?_
    refine tY 23 39 ?_
    refine step_one (i := 24) (by kernel_rfl) (fun K o ho hK => ?_)
    simp only [gA, gB, gC, gE] at ho
    subst ho
    go_simp
    refine hK.out _ _ ?_ (fun hHeld => ?_)
    focus (first | exact S1 | exact S1')
    clear hK K
    try simp only [Act.put, sA, sB, sC]
    refine tY 25 3 ?_
    refine wpAnyH_done (by kernel_rfl) ?_ _
    go_wp2_with fail
    refine bodyPost_ret (v := .tuple #[.agg #[.int .i64 (sz : Int), .slice av fl.length cv], .bool false]) (by simp [results, Tryz.results188, go_sem, q0', q1']) rfl ?_
    exact ⟨_, by rw [HR.out], (HFIN.out _ rfl).1, (HFIN.out _ rfl).2⟩
  ·have b1' : Ax (sz : Int) = false := by simpa using b1
   rw [b1'] at hcall
   have HC := Aa hcall
   clear hcall
   have HR : Hid (R = false) := Aa (by rw [HMR.out]; simp [b1'])
   clear HMR
   refine wp_region_held_drew (S := fun X => X.cell? ⟨w.heap.size + 1, 1, none⟩ = some (.bool false) ∧ X.cell? ⟨g, 0, none⟩ = some (.int .i64 (sz : Int)) ∧ X.cell? ⟨g, 1, none⟩ = some (.slice av fl.length cv)) (by kernel_rfl) S0 (fun hHeld => ?_)
   refine tY 0 16 ?_
   refine tY 1 17 ?_
   refine tY 2 18 ?_
   refine tY 3 19 ?_
   refine tY 4 20 ?_
   refine tY 5 21 ?_
   refine tY 6 22 ?_
   refine step_one (i := 7) (by kernel_rfl) (fun K o ho hK => ?_)
   simp only [gA, gB, gC, gE] at ho
   subst ho
   go_simp
   refine (HC.out _).mono ?_
   rintro e w' ⟨rfl, rfl⟩
   refine hK.out _ _ ?_ (fun hHeld => ?_)
   focus (exact S0)
   clear hK K
   try simp only [Act.put, sA, sB, sC]
   refine tY 8 24 ?_
   refine tY 9 25 ?_
   refine tN 10 26 ?_
   refine tN 11 27 ?_
   refine tY 12 28 ?_
   refine tY 13 29 ?_
   refine tN 14 30 ?_
   refine tN 15 31 ?_
   refine tY 16 32 ?_
   refine tY 17 33 ?_
   refine tN 18 34 ?_
   refine tN 19 35 ?_
   refine tN 20 36 ?_
   refine tN 21 37 ?_
   refine tN 22 38 ?_
   refine tY 23 39 ?_
   refine step_one (i := 24) (by kernel_rfl) (fun K o ho hK => ?_)
   simp only [gA, gB, gC, gE] at ho
   subst ho
   go_simp
   refine hK.out _ _ ?_ (fun hHeld => ?_)
   focus (first | exact S1 | exact S1')
   clear hK K
   try simp only [Act.put, sA, sB, sC]
   refine tY 25 3 ?_
   refine wpAnyH_done (by kernel_rfl) ?_ _
   go_wp2_with fail
   refine bodyPost_ret (v := .tuple #[.agg #[.int .i64 (sz : Int), .slice av fl.length cv], .bool false]) (by simp [results, Tryz.results188, go_sem, q0', q1']) rfl ?_
   exact ⟨_, by rw [HR.out], (HFIN.out _ rfl).1, (HFIN.out _ rfl).2⟩
end Go.Proofs.YtonjphollmdicaaGreatDoor
