import Derived.Test.YtonjphollmdicaaGreatDoorB13
import Derived.Test.YtonjphollmdicaaGreatDoorB32
set_option maxRecDepth 100000
set_option maxHeartbeats 4000000
set_option linter.unusedSimpArgs false
namespace Go.Proofs.YtonjphollmdicaaGreatDoor
open Go.ChangeShapes Go.WideShapes Go.ChangeAt Go.RowKit
def Res3 (w W : World) : Prop := (W.cell? ⟨w.heap.size, 0, none⟩ = some (.int .u8 0) ∧ W.cell? ⟨w.heap.size, 1, none⟩ = some (.int .u64 0) ∧ W.cell? ⟨w.heap.size, 2, none⟩ = some (.string ⟨#[]⟩)) ∧
 (W.frozen? ⟨w.heap.size, 0, none⟩ = false ∧ W.frozen? ⟨w.heap.size, 1, none⟩ = false ∧ W.frozen? ⟨w.heap.size, 2, none⟩ = false) ∧ Below w.heap.size w W
theorem Res3.start (w : World) : Res3 w (w.alloc (.cells #[.int .u8 0, .int .u64 0, .string ⟨#[]⟩] 148)) :=
 ⟨⟨by simp, by simp, by simp⟩, ⟨by simp, by simp, by simp⟩, (Below.refl _ _).alloc (Nat.le_refl _) _⟩
theorem Ma (l : List FoundL) (a : Option Addr) (cap : Nat) (hn : l.length ≤ 1000000000) (hl : ∀ f ∈ l, f.body.length ≤ 1000000) (w : World) (hrd : Rd w a (A8 l)) :
  Calls Tryz.prog 86 #[.slice a l.length cap] w fun e w' => e = .returned (match AV l with | some f => .tuple #[EW f, .bool true] | none => .tuple #[EW GN, .bool false]) ∧ Below w.heap.size w w' := by
 have HRD := Aa hrd
 have HL := Aa hl
 clear hrd hl
 obtain ⟨R, hR⟩ : ∃ R, R = (match AV l with | some f => Value.tuple #[EW f, .bool true] | none => Value.tuple #[EW GN, .bool false]) := ⟨_, rfl⟩
 rw [← hR]
 have HR := Aa hR
 clear hR
 go_enter Tryz.func86, Tryz.ntmps86
 go_wp2_with fail
 go_loopw [4, 5, 6, 7] (fun i _ _ _ W => ∃ k : Nat, k ≤ l.length ∧ i = .int .i64 (k : Int) ∧ Hid (AV l = AV (l.drop k)) ∧ Res3 w W)
  (fun i _ _ _ _ => l.length - (intOf i).toNat)
 case atStart => exact ⟨0, by omega, rfl, Aa rfl, Res3.start w⟩
 case round =>
  obtain ⟨k, hk, rfl, HC, hal⟩ := hrel
  obtain ⟨⟨r0, r1, r2⟩, ⟨z0, z1, z2⟩, hbw⟩ := hal
  have HBW := Aa hbw
  have hal : Res3 w wr := ⟨⟨r0, r1, r2⟩, ⟨z0, z1, z2⟩, hbw⟩
  by_cases hlt : k < l.length
  ·obtain ⟨b, off, rfl, c0, c1, c2⟩ := DN HRD.out k hlt
   have hlb : b < w.heap.size := World.block_lt_of_cell? w _ c0
   have d0 : wr.cell? ⟨b, off + k * 3, none⟩ = some (.int .u8 (l[k].kind.toNat : Int)) := by rw [hbw.cell hlb]; exact c0
   have d1 : wr.cell? ⟨b, off + k * 3 + 1, none⟩ = some (.int .u64 (l[k].set : Int)) := by rw [hbw.cell hlb]; exact c1
   have d2 : wr.cell? ⟨b, off + k * 3 + 2, none⟩ = some (.string (str l[k].body)) := by rw [hbw.cell hlb]; exact c2
   have hbl := HL.out l[k] (List.getElem_mem hlt)
   have hdrop : AV (l.drop k) = if BW l[k] then some l[k] else AV (l.drop (k + 1)) := by
    rw [List.drop_eq_getElem_cons hlt]
    unfold AV
    rw [List.find?_cons]
    cases BW l[k] <;> rfl
   obtain ⟨f, hf⟩ : ∃ f, f = l[k] := ⟨_, rfl⟩
   rw [← hf] at d0 d1 d2 hbl hdrop
   have HD := Aa hdrop
   have HA := Aa hal
   clear hf hdrop hal hbw c0 c1 c2
   have hbs := Ae f.body
   obtain ⟨m, hm⟩ : ∃ m, m = f.body.length := ⟨_, rfl⟩
   rw [← hm] at hbs hbl
   by_cases q1 : f.kind = 77
   ·have e1 : ((f.kind.toNat : Int) != 77) = false := by rw [q1]; rfl
    by_cases q2 : 3 ≤ m
    ·have e2 : ¬ ((m : Int) < 3) := by omega
     have ex2 : (str f.body).extract 0 2 = str (f.body.take 2) := by rw [AB]; rfl
     have ix2 := CA f.body 2 2 rfl (by omega)
     have hg2 : f.body[2]?.getD 0 = f.body.getD 2 0 := by simp
     rw [hg2] at ix2
     have hN := Aa (BF (f.body.take 2) (by rw [List.length_take]; omega) wr)
     have hH := Aa (DS f.body (by omega) wr)
     have h64 := CH (f.body.take 2) (by rw [List.length_take]; omega)
     have wn : IntKind.i64.wrap ((C0 (f.body.take 2) : Nat) : Int) = ((C0 (f.body.take 2) : Nat) : Int) := by rw [IntKind.wrap_i64]; omega
     have hSz := Aa (Do ((C0 (f.body.take 2) : Nat) : Int) wr)
     obtain ⟨x, hx⟩ : ∃ x, x = f.body.getD 2 0 := ⟨_, rfl⟩
     rw [← hx] at ix2
     have hxl := x.toNat_lt
     obtain ⟨n2, hn2⟩ : ∃ x, x = C0 (f.body.take 2) := ⟨_, rfl⟩
     rw [← hn2] at hN wn hSz
     obtain ⟨t2, ht2⟩ : ∃ x, x = f.body.take 2 := ⟨_, rfl⟩
     rw [← ht2] at ex2 hN
     obtain ⟨hv, hhv⟩ : ∃ x, x = AC f.body := ⟨_, rfl⟩
     rw [← hhv] at hH
     have w8 : IntKind.i64.wrap (8 * (x.toNat : Int)) = 8 * (x.toNat : Int) := by rw [IntKind.wrap_i64]; omega
     have w38 : IntKind.i64.wrap (3 + 8 * (x.toNat : Int)) = 3 + 8 * (x.toNat : Int) := by rw [IntKind.wrap_i64]; omega
     have wx : IntKind.i64.wrap (x.toNat : Int) = (x.toNat : Int) := by rw [IntKind.wrap_i64]; omega
     have hall : BW f = (Ay (n2 : Int) && (hv == f.set) && decide (1 ≤ x.toNat) && decide (x.toNat ≤ 6) && decide (m = 3 + 8 * x.toNat)) := by
      unfold BW
      rw [q1, ← hm, decide_eq_true q2, ← hx, hn2, hhv]
      rfl
     have HALL := Aa hall
     have HX := Aa hx
     clear hall hx hn2 ht2 hhv h64 hg2 hm
     go_wp2_with fail
     refine hN.out.mono ?_
     rintro e w' ⟨rfl, hw'⟩
     have hw' := hw'.symm
     subst hw'
     go_wp2_with fail
     refine hSz.out.mono ?_
     rintro e w' ⟨rfl, hw'⟩
     have hw' := hw'.symm
     subst hw'
     go_wp2_with fail
     refine hH.out.mono ?_
     rintro e w' ⟨rfl, hw'⟩
     have hw' := hw'.symm
     subst hw'
     by_cases b1 : Ay (n2 : Int) = true
     ·by_cases b2 : hv = f.set
      ·have g2 : ((hv : Int) == (f.set : Int)) = true := by simp [b2]
       by_cases b3 : 1 ≤ x.toNat
       ·have g3 : (1 : Int) ≤ (x.toNat : Int) := by omega
        by_cases b4 : x.toNat ≤ 6
        ·have g4 : (x.toNat : Int) ≤ 6 := by omega
         by_cases b5 : m = 3 + 8 * x.toNat
         ·have g5 : ((m : Int) == 3 + 8 * (x.toNat : Int)) = true := by simp; omega
          have hyes : BW f = true := by rw [HALL.out]; simp [b1, b2, b3, b4, b5]
          have HY : Hid (AV l = some f) := Aa (by rw [HC.out, HD.out, hyes]; rfl)
          clear HD HC hyes HALL b5 b2
          go_wp2_with fail
          refine bodyPost_ret (v := .tuple #[.agg #[.int .u8 77, .int .u64 (f.set : Int), .string (str f.body)], .bool true]) (by simp [results, Tryz.results86, go_sem, *]) rfl ?_
          exact ⟨by rw [HR.out, HY.out]; simp only [EW, q1]; rfl, ((HBW.out.setCell (Nat.le_refl _) _).setCell (Nat.le_refl _) _).setCell (Nat.le_refl _) _⟩
         ·have g5 : ((m : Int) == 3 + 8 * (x.toNat : Int)) = false := by simp; omega
          have hno : BW f = false := by rw [HALL.out]; simp [b5]
          have H1 : Hid (AV l = AV (l.drop (k + 1))) := Aa (by rw [HC.out, HD.out, hno]; rfl)
          clear HD HC hno HALL HR
          go_wp2_with fail
          exact ⟨⟨k + 1, by omega, by go_num, H1, HA.out⟩, by simp [intOf]; omega⟩
        ·have g4 : ¬ ((x.toNat : Int) ≤ 6) := by omega
         have hno : BW f = false := by rw [HALL.out]; simp [b4]
         have H1 : Hid (AV l = AV (l.drop (k + 1))) := Aa (by rw [HC.out, HD.out, hno]; rfl)
         clear HD HC hno HALL HR
         go_wp2_with fail
         exact ⟨⟨k + 1, by omega, by go_num, H1, HA.out⟩, by simp [intOf]; omega⟩
       ·have g3 : ¬ ((1 : Int) ≤ (x.toNat : Int)) := by omega
        have hno : BW f = false := by rw [HALL.out]; simp [b3]
        have H1 : Hid (AV l = AV (l.drop (k + 1))) := Aa (by rw [HC.out, HD.out, hno]; rfl)
        clear HD HC hno HALL HR
        go_wp2_with fail
        exact ⟨⟨k + 1, by omega, by go_num, H1, HA.out⟩, by simp [intOf]; omega⟩
      ·have g2 : ((hv : Int) == (f.set : Int)) = false := by simp; omega
       have hno : BW f = false := by rw [HALL.out]; simp [b2]
       have H1 : Hid (AV l = AV (l.drop (k + 1))) := Aa (by rw [HC.out, HD.out, hno]; rfl)
       clear HD HC hno HALL HR
       go_wp2_with fail
       exact ⟨⟨k + 1, by omega, by go_num, H1, HA.out⟩, by simp [intOf]; omega⟩
     ·have b1' : Ay (n2 : Int) = false := by simpa using b1
      have hno : BW f = false := by rw [HALL.out]; simp [b1']
      have H1 : Hid (AV l = AV (l.drop (k + 1))) := Aa (by rw [HC.out, HD.out, hno]; rfl)
      clear HD HC hno HALL HR
      go_wp2_with fail
      exact ⟨⟨k + 1, by omega, by go_num, H1, HA.out⟩, by simp [intOf]; omega⟩
    ·have e2 : (m : Int) < 3 := by omega
     have hno : BW f = false := by
      unfold BW
      rw [← hm, decide_eq_false q2]
      simp
     have H1 : Hid (AV l = AV (l.drop (k + 1))) := Aa (by rw [HC.out, HD.out, hno]; rfl)
     clear HD HC hno
     go_wp2_with fail
     exact ⟨⟨k + 1, by omega, by go_num, H1, HA.out⟩, by simp [intOf]; omega⟩
   ·have e1 : ((f.kind.toNat : Int) != 77) = true := by
     simp only [bne_iff_ne, ne_eq]
     intro e
     exact q1 (UInt8.toNat_inj.1 (by simpa using (by exact_mod_cast e : f.kind.toNat = 77)))
    have hno : BW f = false := by
     unfold BW
     rw [beq_eq_false_iff_ne.2 q1]
     rfl
    have H1 : Hid (AV l = AV (l.drop (k + 1))) := Aa (by rw [HC.out, HD.out, hno]; rfl)
    clear HD HC hno q1
    go_wp2_with fail
    exact ⟨⟨k + 1, by omega, by go_num, H1, HA.out⟩, by simp [intOf]; omega⟩
  ·obtain rfl : l.length = k := by omega
   have hnone : AV l = none := by rw [HC.out, List.drop_length]; rfl
   have HNO := Aa hnone
   clear hal hnone hbw
   go_wp2_with fail
   refine bodyPost_ret (v := .tuple #[.agg #[.int .u8 0, .int .u64 0, .string ⟨#[]⟩], .bool false]) (by simp [results, Tryz.results86, go_sem, *]) rfl ?_
   exact ⟨by rw [HR.out, HNO.out]; rfl, ((HBW.out.setCell (Nat.le_refl _) _).setCell (Nat.le_refl _) _).setCell (Nat.le_refl _) _⟩
def Gw : Value := .tuple #[.agg #[.string ⟨#[]⟩, .int .i64 0, .int .u64 0, .slice none 0 0], .bool false]
theorem QT (s : List UInt8) (m : Nat) (b : Int) (hm : m < 2) (hss : (str s).size = m) (w : World) :
    Calls Tryz.prog 115 #[.string (str s), .int .i64 b] w fun e w' => e = .returned Gw ∧ Below w.heap.size w w' := by
  have a1 : (m : Int) < 2 := by omega
  go_enter Tryz.func115, Tryz.ntmps115
  go_wp2_with fail
  refine bodyPost_ret (v := .tuple #[.agg #[.string ⟨#[]⟩, .int .i64 0, .int .u64 0, .slice none 0 0], .bool false]) (by simp [results, Tryz.results115, go_sem]) rfl ?_
  exact ⟨rfl, (Below.refl _ _).alloc (Nat.le_refl _) _⟩
theorem Rv (s : List UInt8) (m n : Nat) (b : Int) (hm1 : m ≤ 1000000) (hm : 2 ≤ m) (hss : (str s).size = m) (hn : n < 256) (ix1 : ∀ W : World, (Instr.index 9 (.string (str s)) (.int .i64 1)).run Tryz.prog W = .ok (.int .u8 (n : Int)) W) (h : n < 1 ∨ 20 < n ∨ m < 12 + n) (w : World) :
    Calls Tryz.prog 115 #[.string (str s), .int .i64 b] w fun e w' => e = .returned Gw ∧ Below w.heap.size w w' := by
  have a1 : ¬ ((m : Int) < 2) := by omega
  have wn : IntKind.i64.wrap (n : Int) = (n : Int) := by rw [IntKind.wrap_i64]; omega
  have w12 : IntKind.i64.wrap (12 + (n : Int)) = 12 + (n : Int) := by rw [IntKind.wrap_i64]; omega
  by_cases h1 : n < 1
  · have a2 : (n : Int) < 1 := by omega
    clear h
    go_enter Tryz.func115, Tryz.ntmps115
    go_wp2_with fail
    refine bodyPost_ret (v := .tuple #[.agg #[.string ⟨#[]⟩, .int .i64 0, .int .u64 0, .slice none 0 0], .bool false]) (by simp [results, Tryz.results115, go_sem]) rfl ?_
    exact ⟨rfl, (Below.refl _ _).alloc (Nat.le_refl _) _⟩
  · have a2 : ¬ ((n : Int) < 1) := by omega
    by_cases h2 : 20 < n
    · have a3 : (20 : Int) < (n : Int) := by omega
      clear h
      go_enter Tryz.func115, Tryz.ntmps115
      go_wp2_with fail
      refine bodyPost_ret (v := .tuple #[.agg #[.string ⟨#[]⟩, .int .i64 0, .int .u64 0, .slice none 0 0], .bool false]) (by simp [results, Tryz.results115, go_sem]) rfl ?_
      exact ⟨rfl, (Below.refl _ _).alloc (Nat.le_refl _) _⟩
    · have a3 : ¬ ((20 : Int) < (n : Int)) := by omega
      have a4 : (m : Int) < 12 + (n : Int) := by omega
      clear h
      go_enter Tryz.func115, Tryz.ntmps115
      go_wp2_with fail
      refine bodyPost_ret (v := .tuple #[.agg #[.string ⟨#[]⟩, .int .i64 0, .int .u64 0, .slice none 0 0], .bool false]) (by simp [results, Tryz.results115, go_sem]) rfl ?_
      exact ⟨rfl, (Below.refl _ _).alloc (Nat.le_refl _) _⟩
structure FormIn (s : List UInt8) (m n b L H : Nat) (t1 t2 t3 : List UInt8) : Prop where
  hm1 : m ≤ 1000000
  hss : (str s).size = m
  ix1 : ∀ W : World, (Instr.index 9 (.string (str s)) (.int .i64 1)).run Tryz.prog W = .ok (.int .u8 (n : Int)) W
  hn1 : 1 ≤ n
  hn2 : n ≤ 20
  hmn : 12 + n ≤ m
  hb0 : 0 < b
  hb1 : b ≤ 32
  hL : L < 65536
  ex1 : (str s).extract 2 (2 + n) = str t1
  ex2 : (str s).extract (2 + n) (4 + n) = str t2
  ex3 : (str s).extract (4 + n) (12 + n) = str t3
  num2 : ∀ W : World, Calls Tryz.prog 87 #[.string (str t2)] W fun e w' => e = .returned (.int .u64 (L : Int)) ∧ w' = W
  num3 : ∀ W : World, Calls Tryz.prog 87 #[.string (str t3)] W fun e w' => e = .returned (.int .u64 (H : Int)) ∧ w' = W
theorem RA (s : List UInt8) (m n b L H : Nat) (t1 t2 t3 : List UInt8) (h : FormIn s m n b L H t1 t2 t3) (hc : 400 < L ∨ m ≠ 12 + n + 8 * Aj L b) (w : World) :
    Calls Tryz.prog 115 #[.string (str s), .int .i64 (b : Int)] w fun e w' => e = .returned Gw ∧ Below w.heap.size w w' := by
  obtain ⟨hm1, hss, ix1, hn1, hn2, hmn, hb0, hb1, hL, ex1, ex2, ex3, num2, num3⟩ := h
  have N2 := Aa num2
  have N3 := Aa num3
  clear num2 num3
  have a1 : ¬ ((m : Int) < 2) := by omega
  have a2 : ¬ ((n : Int) < 1) := by omega
  have a3 : ¬ ((20 : Int) < (n : Int)) := by omega
  have a4 : ¬ ((m : Int) < 12 + (n : Int)) := by omega
  have wn : IntKind.i64.wrap (n : Int) = (n : Int) := by rw [IntKind.wrap_i64]; omega
  have wL : IntKind.i64.wrap (L : Int) = (L : Int) := by rw [IntKind.wrap_i64]; omega
  have w2 : IntKind.i64.wrap (2 + (n : Int)) = 2 + (n : Int) := by rw [IntKind.wrap_i64]; omega
  have w4 : IntKind.i64.wrap (4 + (n : Int)) = 4 + (n : Int) := by rw [IntKind.wrap_i64]; omega
  have w12 : IntKind.i64.wrap (12 + (n : Int)) = 12 + (n : Int) := by rw [IntKind.wrap_i64]; omega
  have g1 : (0 : Int) ≤ 2 + (n : Int) := by omega
  have g2 : (2 : Int) ≤ 2 + (n : Int) := by omega
  have g3 : 2 + (n : Int) ≤ (m : Int) := by omega
  have g4 : 2 + (n : Int) ≤ 4 + (n : Int) := by omega
  have g5 : 4 + (n : Int) ≤ (m : Int) := by omega
  have g6 : 4 + (n : Int) ≤ 12 + (n : Int) := by omega
  have g7 : 12 + (n : Int) ≤ (m : Int) := by omega
  have g8 : (0 : Int) ≤ 4 + (n : Int) := by omega
  have n2 : (2 + (n : Int)).toNat = 2 + n := by omega
  have n4 : (4 + (n : Int)).toNat = 4 + n := by omega
  have n12 : (12 + (n : Int)).toNat = 12 + n := by omega
  have hB : Below w.heap.size w (w.alloc (.cells #[.string ⟨#[]⟩, .int .i64 0, .int .u64 0, .slice none 0 0] 101)) := (Below.refl _ _).alloc (Nat.le_refl _) _
  obtain ⟨k, hk⟩ : ∃ k, k = Aj L b := ⟨_, rfl⟩
  have hkl := Bu L b hb0
  have ek : ((L : Int) + (b : Int) - 1) / (b : Int) = (k : Int) := by
    rw [hk]
    unfold Aj
    rw [Int.natCast_ediv]
    congr 1
    omega
  rw [← hk] at hkl hc
  have HK := Aa hk
  clear hk
  have wLb : IntKind.i64.wrap ((L : Int) + (b : Int)) = (L : Int) + (b : Int) := by rw [IntKind.wrap_i64]; omega
  have wLb1 : IntKind.i64.wrap ((L : Int) + (b : Int) - 1) = (L : Int) + (b : Int) - 1 := by rw [IntKind.wrap_i64]; omega
  have wk : IntKind.i64.wrap (k : Int) = (k : Int) := by rw [IntKind.wrap_i64]; omega
  have w8 : IntKind.i64.wrap (8 * (k : Int)) = 8 * (k : Int) := by rw [IntKind.wrap_i64]; omega
  have w128 : IntKind.i64.wrap (12 + (n : Int) + 8 * (k : Int)) = 12 + (n : Int) + 8 * (k : Int) := by rw [IntKind.wrap_i64]; omega
  have hbz : ¬ (b : Int) = 0 := by omega
  by_cases h4 : 400 < L
  · have a5 : (400 : Int) < (L : Int) := by omega
    clear hc
    go_enter Tryz.func115, Tryz.ntmps115
    go_wp2_with fail
    go_region_held3 (fun W => Below w.heap.size w W) (first | assumption | exact hB.drew | exact (hB.alloc hB.size _).drew)
      (first | (go_at_call 87; first | with_reducible refine (N2.out _).mono ?_ | with_reducible refine (N3.out _).mono ?_
                rintro e w' ⟨rfl, rfl⟩))
    all_goals
      clear g1 g2 g3 g4 g5 g6 g7 g8 n2 n4 n12 w2 w4 ix1 ex1 ex2 ex3 N2 N3 a1 a2 a3 a4 wn wL hmn hn1 hn2 hm1
      go_wp2_with fail
      refine bodyPost_ret (v := .tuple #[.agg #[.string ⟨#[]⟩, .int .i64 0, .int .u64 0, .slice none 0 0], .bool false]) (by simp [results, Tryz.results115, go_sem]) rfl ?_
      exact ⟨rfl, (hB.alloc hB.size _).drew⟩
  · have a5 : ¬ ((400 : Int) < (L : Int)) := by omega
    have a6 : ((m : Int) != 12 + (n : Int) + 8 * (k : Int)) = true := by simp; omega
    clear hc
    go_enter Tryz.func115, Tryz.ntmps115
    go_wp2_with fail
    go_region_held3 (fun W => Below w.heap.size w W) (first | assumption | exact hB.drew | exact (hB.alloc hB.size _).drew)
      (first | (go_at_call 87; first | with_reducible refine (N2.out _).mono ?_ | with_reducible refine (N3.out _).mono ?_
                rintro e w' ⟨rfl, rfl⟩))
    all_goals
      clear g1 g2 g3 g4 g5 g6 g7 g8 n2 n4 n12 w2 w4 ix1 ex1 ex2 ex3 N2 N3 a1 a2 a3 a4 wn wL hmn hn1 hn2 hm1
      go_wp2_with fail
      refine bodyPost_ret (v := .tuple #[.agg #[.string ⟨#[]⟩, .int .i64 0, .int .u64 0, .slice none 0 0], .bool false]) (by simp [results, Tryz.results115, go_sem]) rfl ?_
      exact ⟨rfl, (hB.alloc hB.size _).drew⟩
structure FormSt (w W : World) (t1 : List UInt8) (L H : Nat) (v : Value) (xs : List Value) (q : Nat) : Prop where
  c0 : W.cell? ⟨w.heap.size + 1, 0, none⟩ = some (.string (str t1))
  c1 : W.cell? ⟨w.heap.size + 1, 1, none⟩ = some (.int .i64 (L : Int))
  c2 : W.cell? ⟨w.heap.size + 1, 2, none⟩ = some (.int .u64 (H : Int))
  c3 : W.cell? ⟨w.heap.size + 1, 3, none⟩ = some v
  r0 : W.cell? ⟨w.heap.size, 0, none⟩ = some (.string ⟨#[]⟩)
  r1 : W.cell? ⟨w.heap.size, 1, none⟩ = some (.int .i64 0)
  r2 : W.cell? ⟨w.heap.size, 2, none⟩ = some (.int .u64 0)
  r3 : W.cell? ⟨w.heap.size, 3, none⟩ = some (.slice none 0 0)
  z3 : W.frozen? ⟨w.heap.size + 1, 3, none⟩ = false
  y0 : W.frozen? ⟨w.heap.size, 0, none⟩ = false
  y1 : W.frozen? ⟨w.heap.size, 1, none⟩ = false
  y2 : W.frozen? ⟨w.heap.size, 2, none⟩ = false
  y3 : W.frozen? ⟨w.heap.size, 3, none⟩ = false
  own : W.ownsRow (w.heap.size + 2) 63 1 v q xs
  below : Below w.heap.size w W
  size : w.heap.size + 2 ≤ W.heap.size
theorem FormSt.grown {w W W' : World} {t1 : List UInt8} {L H : Nat} {v v' : Value} {xs xs' : List Value} {q q' : Nat} (h : FormSt w W t1 L H v xs q) (hg : W.grownBy W' v.ownBlock) (ho : W'.ownsRow (w.heap.size + 2) 63 1 v' q' xs') :
    W'.cell? ⟨w.heap.size + 1, 3, none⟩ = some v ∧ W'.frozen? ⟨w.heap.size + 1, 3, none⟩ = false ∧ FormSt w (W'.setCell ⟨w.heap.size + 1, 3, none⟩ v') t1 L H v' xs' q' := by
  have hne : ∀ k, k < w.heap.size + 2 → some k ≠ v.ownBlock := fun k hk e => by have := (h.own.lt k e.symm).1; omega
  have hb : ∀ k, k < w.heap.size + 2 → W'.heap[k]? = W.heap[k]? := fun k hk => hg.block k (by have := h.size; omega) (hne k hk)
  have hc : ∀ k o, k < w.heap.size + 2 → W'.cell? ⟨k, o, none⟩ = W.cell? ⟨k, o, none⟩ := fun k o hk => World.cell?_of_block (w := W) (hb k hk)
  have hf : ∀ k o, k < w.heap.size + 2 → W'.frozen? ⟨k, o, none⟩ = W.frozen? ⟨k, o, none⟩ := fun k o hk => World.frozen?_of_block (w := W) (hb k hk)
  have e3 : W'.cell? ⟨w.heap.size + 1, 3, none⟩ = some v := by rw [hc _ _ (by omega)]; exact h.c3
  have ez : W'.frozen? ⟨w.heap.size + 1, 3, none⟩ = false := by rw [hf _ _ (by omega)]; exact h.z3
  have other : ∀ k o, (k ≠ w.heap.size + 1 ∨ o ≠ 3) → (W'.setCell ⟨w.heap.size + 1, 3, none⟩ v').cell? ⟨k, o, none⟩ = W'.cell? ⟨k, o, none⟩ := by
    intro k o hko
    apply World.cell?_setCell_other
    intro e
    cases e
    rcases hko with h1 | h1 <;> exact h1 rfl
  have fo : ∀ p, (W'.setCell ⟨w.heap.size + 1, 3, none⟩ v').frozen? p = W'.frozen? p := fun p => by simp
  refine ⟨e3, ez, ⟨?_, ?_, ?_, ?_, ?_, ?_, ?_, ?_, ?_, ?_, ?_, ?_, ?_, ?_, ?_, ?_⟩⟩
  · rw [other _ _ (.inr (by omega)), hc _ _ (by omega)]; exact h.c0
  · rw [other _ _ (.inr (by omega)), hc _ _ (by omega)]; exact h.c1
  · rw [other _ _ (.inr (by omega)), hc _ _ (by omega)]; exact h.c2
  · exact World.cell?_setCell_same _ _ _ e3
  · rw [other _ _ (.inl (by omega)), hc _ _ (by omega)]; exact h.r0
  · rw [other _ _ (.inl (by omega)), hc _ _ (by omega)]; exact h.r1
  · rw [other _ _ (.inl (by omega)), hc _ _ (by omega)]; exact h.r2
  · rw [other _ _ (.inl (by omega)), hc _ _ (by omega)]; exact h.r3
  · rw [fo]; exact ez
  · rw [fo, hf _ _ (by omega)]; exact h.y0
  · rw [fo, hf _ _ (by omega)]; exact h.y1
  · rw [fo, hf _ _ (by omega)]; exact h.y2
  · rw [fo, hf _ _ (by omega)]; exact h.y3
  · exact ho.kept (CQ W' ⟨w.heap.size + 1, 3, none⟩ v') (by
      cases hv : v'.ownBlock with
      | none => exact .inl rfl
      | some k =>
        right
        intro e
        have := (ho.lt k hv).1
        simp only [Option.some.injEq] at e
        omega)
  · exact (h.below.grown hg (by have := h.size; omega) (fun k hk => by have := (h.own.lt k hk).1; omega)).setCell (show w.heap.size ≤ w.heap.size + 1 from by omega) _
  · have h1 := h.size
    have h2 := hg.size
    simp only [World.size_setCell]
    omega
theorem FormSt.alloc {w W : World} {t1 : List UInt8} {L H : Nat} {v : Value} {xs : List Value} {q : Nat} (h : FormSt w W t1 L H v xs q) (o : Obj) : FormSt w (W.alloc o) t1 L H v xs q := by
  have hs := h.size
  exact ⟨by rw [An (by simp only; omega)]; exact h.c0, by rw [An (by simp only; omega)]; exact h.c1, by rw [An (by simp only; omega)]; exact h.c2, by rw [An (by simp only; omega)]; exact h.c3,
    by rw [An (by simp only; omega)]; exact h.r0, by rw [An (by simp only; omega)]; exact h.r1, by rw [An (by simp only; omega)]; exact h.r2, by rw [An (by simp only; omega)]; exact h.r3,
    by rw [AK (by simp only; omega)]; exact h.z3, by rw [AK (by simp only; omega)]; exact h.y0, by rw [AK (by simp only; omega)]; exact h.y1, by rw [AK (by simp only; omega)]; exact h.y2, by rw [AK (by simp only; omega)]; exact h.y3,
    h.own.alloc _, h.below.alloc h.below.size _, by simp; omega⟩
theorem FormSt.start (w : World) (t1 : List UInt8) (L H : Nat) : FormSt w ((w.alloc (.cells #[.string ⟨#[]⟩, .int .i64 0, .int .u64 0, .slice none 0 0] 101)).alloc (.cells #[.string (str t1), .int .i64 (L : Int), .int .u64 (H : Int), .slice none 0 0] 101)).drew t1 L H (.slice none 0 0) [] 0 := by
  obtain ⟨W1, hW1⟩ : ∃ X, X = w.alloc (.cells #[.string ⟨#[]⟩, .int .i64 0, .int .u64 0, .slice none 0 0] 101) := ⟨_, rfl⟩
  rw [← hW1]
  have hs : W1.heap.size = w.heap.size + 1 := by rw [hW1]; simp
  have hb1 : Below w.heap.size w W1 := by rw [hW1]; exact (Below.refl _ _).alloc (Nat.le_refl _) _
  have q0 : W1.cell? ⟨w.heap.size, 0, none⟩ = some (.string ⟨#[]⟩) := by rw [hW1]; simp
  have q1 : W1.cell? ⟨w.heap.size, 1, none⟩ = some (.int .i64 0) := by rw [hW1]; simp
  have q2 : W1.cell? ⟨w.heap.size, 2, none⟩ = some (.int .u64 0) := by rw [hW1]; simp
  have q3 : W1.cell? ⟨w.heap.size, 3, none⟩ = some (.slice none 0 0) := by rw [hW1]; simp
  have f0 : ∀ o, W1.frozen? ⟨w.heap.size, o, none⟩ = false := fun o => by rw [hW1]; simp
  have hl : w.heap.size < W1.heap.size := by omega
  exact ⟨by rw [← hs]; simp, by rw [← hs]; simp, by rw [← hs]; simp, by rw [← hs]; simp, by rw [World.cell?_drew, An hl]; exact q0, by rw [World.cell?_drew, An hl]; exact q1, by rw [World.cell?_drew, An hl]; exact q2, by rw [World.cell?_drew, An hl]; exact q3,
    by rw [← hs]; simp, by show (W1.alloc _).frozen? _ = false; rw [AK hl]; exact f0 0, by show (W1.alloc _).frozen? _ = false; rw [AK hl]; exact f0 1, by show (W1.alloc _).frozen? _ = false; rw [AK hl]; exact f0 2, by show (W1.alloc _).frozen? _ = false; rw [AK hl]; exact f0 3,
    World.ownsRow_nil _ _ _ _, (hb1.alloc (by omega) _).drew, by simp; omega⟩
theorem QY (s : List UInt8) (m n b L H : Nat) (t1 t2 t3 : List UInt8) (h : FormIn s m n b L H t1 t2 t3) (hc : L ≤ 400 ∧ m = 12 + n + 8 * Aj L b) (S : Nat → Nat)
    (hS : ∀ i, i < Aj L b → ∃ u : List UInt8, (str s).extract (12 + n + 8 * i) (20 + n + 8 * i) = str u ∧ ∀ W : World, Calls Tryz.prog 87 #[.string (str u)] W fun e w' => e = .returned (.int .u64 (S i : Int)) ∧ w' = W) (w : World) :
    Calls Tryz.prog 115 #[.string (str s), .int .i64 (b : Int)] w fun e w' => ∃ vs, e = .returned (.tuple #[.agg #[.string (str t1), .int .i64 (L : Int), .int .u64 (H : Int), vs], .bool true]) ∧ w'.ownsRow w.heap.size 63 1 vs (Aj L b) (Cz ((List.range (Aj L b)).map S)) ∧ Below w.heap.size w w' := by
  obtain ⟨i0, hi, hz0, hz1, hz2⟩ := info_parts Tryz.info64
  have HS := Aa hS
  clear hS
  obtain ⟨hm1, hss, ix1, hn1, hn2, hmn, hb0, hb1, hL, ex1, ex2, ex3, num2, num3⟩ := h
  have N2 := Aa num2
  have N3 := Aa num3
  clear num2 num3
  have a1 : ¬ ((m : Int) < 2) := by omega
  have a2 : ¬ ((n : Int) < 1) := by omega
  have a3 : ¬ ((20 : Int) < (n : Int)) := by omega
  have a4 : ¬ ((m : Int) < 12 + (n : Int)) := by omega
  have wn : IntKind.i64.wrap (n : Int) = (n : Int) := by rw [IntKind.wrap_i64]; omega
  have wL : IntKind.i64.wrap (L : Int) = (L : Int) := by rw [IntKind.wrap_i64]; omega
  have w2 : IntKind.i64.wrap (2 + (n : Int)) = 2 + (n : Int) := by rw [IntKind.wrap_i64]; omega
  have w4 : IntKind.i64.wrap (4 + (n : Int)) = 4 + (n : Int) := by rw [IntKind.wrap_i64]; omega
  have w12 : IntKind.i64.wrap (12 + (n : Int)) = 12 + (n : Int) := by rw [IntKind.wrap_i64]; omega
  have g1 : (0 : Int) ≤ 2 + (n : Int) := by omega
  have g2 : (2 : Int) ≤ 2 + (n : Int) := by omega
  have g3 : 2 + (n : Int) ≤ (m : Int) := by omega
  have g4 : 2 + (n : Int) ≤ 4 + (n : Int) := by omega
  have g5 : 4 + (n : Int) ≤ (m : Int) := by omega
  have g6 : 4 + (n : Int) ≤ 12 + (n : Int) := by omega
  have g7 : 12 + (n : Int) ≤ (m : Int) := by omega
  have g8 : (0 : Int) ≤ 4 + (n : Int) := by omega
  have n2 : (2 + (n : Int)).toNat = 2 + n := by omega
  have n4 : (4 + (n : Int)).toNat = 4 + n := by omega
  have n12 : (12 + (n : Int)).toNat = 12 + n := by omega
  have hB : Below w.heap.size w (w.alloc (.cells #[.string ⟨#[]⟩, .int .i64 0, .int .u64 0, .slice none 0 0] 101)) := (Below.refl _ _).alloc (Nat.le_refl _) _
  obtain ⟨k, hk⟩ : ∃ k, k = Aj L b := ⟨_, rfl⟩
  have hkl := Bu L b hb0
  have ek : ((L : Int) + (b : Int) - 1) / (b : Int) = (k : Int) := by
    rw [hk]
    unfold Aj
    rw [Int.natCast_ediv]
    congr 1
    omega
  rw [← hk] at hkl hc HS ⊢
  have HK := Aa hk
  clear hk
  have wLb : IntKind.i64.wrap ((L : Int) + (b : Int)) = (L : Int) + (b : Int) := by rw [IntKind.wrap_i64]; omega
  have wLb1 : IntKind.i64.wrap ((L : Int) + (b : Int) - 1) = (L : Int) + (b : Int) - 1 := by rw [IntKind.wrap_i64]; omega
  have wk : IntKind.i64.wrap (k : Int) = (k : Int) := by rw [IntKind.wrap_i64]; omega
  have w8 : IntKind.i64.wrap (8 * (k : Int)) = 8 * (k : Int) := by rw [IntKind.wrap_i64]; omega
  have w128 : IntKind.i64.wrap (12 + (n : Int) + 8 * (k : Int)) = 12 + (n : Int) + 8 * (k : Int) := by rw [IntKind.wrap_i64]; omega
  have hbz : ¬ (b : Int) = 0 := by omega
  have a5 : ¬ ((400 : Int) < (L : Int)) := by omega
  have a6 : ((m : Int) != 12 + (n : Int) + 8 * (k : Int)) = false := by simp; omega
  have HC : Hid (k ≤ 1000 ∧ m = 12 + n + 8 * k) := Aa ⟨by omega, hc.2⟩
  clear hc
  go_enter Tryz.func115, Tryz.ntmps115
  go_wp2_with fail
  refine (fun (key : Unit → ?RestOf) => ?A : (Unit → ?RestOf) → _) (fun _ => ?B)
  case A =>
    go_region_held3 (fun W => Below w.heap.size w W) (first | assumption | exact hB.drew | exact (hB.alloc hB.size _).drew)
      (first | (go_at_call 87; first | with_reducible refine (N2.out _).mono ?_ | with_reducible refine (N3.out _).mono ?_
                rintro e w' ⟨rfl, rfl⟩))
    all_goals exact key ()
  case B =>
    clear g1 g2 g3 g4 g5 g6 g7 g8 n2 n4 n12 w2 w4 ix1 ex1 ex2 ex3 N2 N3 a1 a2 a3 a4 wn wL
    go_wp2_with fail
    go_loopw [9, 10] (fun i _ W => ∃ (q : Nat) (v : Value), q ≤ k ∧ i = .int .i64 (q : Int) ∧ Hid (FormSt w W t1 L H v (Cz ((List.range q).map S)) q))
      (fun i _ _ => k - (intOf i).toNat)
    case atStart => exact ⟨0, _, by omega, rfl, Aa (FormSt.start w t1 L H)⟩
    case round =>
      clear hB
      obtain ⟨q, v, hq, rfl, HST⟩ := hrel
      by_cases hlt : q < k
      · obtain ⟨u, ex, hnum⟩ := HS.out q hlt
        have HNUM := Aa hnum
        have mq := HC.out.2
        have wq : IntKind.i64.wrap (8 * (q : Int)) = 8 * (q : Int) := by rw [IntKind.wrap_i64]; omega
        have w12' : IntKind.i64.wrap (12 + (n : Int)) = 12 + (n : Int) := by rw [IntKind.wrap_i64]; omega
        have w20' : IntKind.i64.wrap (20 + (n : Int)) = 20 + (n : Int) := by rw [IntKind.wrap_i64]; omega
        have w12q : IntKind.i64.wrap (12 + (n : Int) + 8 * (q : Int)) = 12 + (n : Int) + 8 * (q : Int) := by rw [IntKind.wrap_i64]; omega
        have w20q : IntKind.i64.wrap (20 + (n : Int) + 8 * (q : Int)) = 20 + (n : Int) + 8 * (q : Int) := by rw [IntKind.wrap_i64]; omega
        have j1 : (0 : Int) ≤ 12 + (n : Int) + 8 * (q : Int) := by omega
        have j2 : 12 + (n : Int) + 8 * (q : Int) ≤ 20 + (n : Int) + 8 * (q : Int) := by omega
        have j3 : 20 + (n : Int) + 8 * (q : Int) ≤ (m : Int) := by omega
        have j4 : (12 + (n : Int) + 8 * (q : Int)).toNat = 12 + n + 8 * q := by omega
        have j5 : (20 + (n : Int) + 8 * (q : Int)).toNat = 20 + n + 8 * q := by omega
        have hc3 := HST.out.c3
        have hkb : k ≤ 1000 := HC.out.1
        have hrange : Cz ((List.range (q + 1)).map S) = Cz ((List.range q).map S) ++ [.int .u64 (S q : Int)] := by simp [Cz, List.range_succ]
        have HRG := Aa hrange
        have hsz := HST.out.size
        clear mq hrange hnum hm1 hn1 hn2 hmn hb0 hb1 hL hkl ek wLb wLb1 wk w8 w128 hbz a5 a6
        go_wp2_with fail
        refine (HNUM.out _).mono ?_
        rintro e w' ⟨rfl, hw'⟩
        have hw' := hw'.symm
        subst hw'
        clear j1 j2 j3 j4 j5 wq w12' w20' w12q w20q ex HNUM
        go_wp2_with (at_builtin; refine wpList_append_own _ rfl (.tmp 92) (.tmp 94) 99 rfl (w.heap.size + 2) 63 i0 (.int .u64 0) 1 8 Tryz.underlying99 hi hz0 hz1 hz2 rfl (by decide) _ _ _ rfl (HST.out.own.alloc _) ⟨wr.heap.size, 0, none⟩ 1 1 [.int .u64 (S q : Int)] rfl rfl (cell_one_new _ _ _) ?d2 ?d3 ?d4 ?d5 ?_)
        case d2 => intro u hu; simp at hu; subst hu; rfl
        case d3 => unfold maxLen; have := HC.out.1; omega
        case d4 => have := HC.out.1; omega
        case d5 => simp; omega
        intro v6 w6 hown6 hg6 _
        rw [← HRG.out] at hown6
        obtain ⟨a6, c6, rfl, _, _, _⟩ := Aw hown6
        obtain ⟨k1, k2, k3⟩ := (HST.out.alloc _).grown hg6 hown6
        have K3 := Aa k3
        clear k3 hown6 hg6 hc3
        go_wp2_with fail
        exact ⟨⟨q + 1, _, by omega, by go_num, K3⟩, by simp [intOf]; omega⟩
      · obtain rfl : k = q := by omega
        obtain ⟨c0, c1, c2, c3, r0, r1, r2, r3, z3, y0, y1, y2, y3, hown, hbl, hsz⟩ := HST.out
        obtain ⟨aa, cc, rfl, _, _, _⟩ := Aw hown
        have KO := Aa hown
        have KB := Aa hbl
        have hkb : k ≤ 1000 := HC.out.1
        clear hown hbl HS hm1 hn1 hn2 hmn hb0 hb1 hL hkl ek wLb wLb1 wk w8 w128 hbz a5 a6
        go_wp2_with fail
        refine bodyPost_ret (v := .tuple #[.agg #[.string (str t1), .int .i64 (L : Int), .int .u64 (H : Int), .slice aa k cc], .bool true]) (by simp [results, Tryz.results115, go_sem, r0, r1, r2, r3]) rfl ?_
        refine ⟨_, rfl, ?_, (((KB.out.setCell (Nat.le_refl _) _).setCell (Nat.le_refl _) _).setCell (Nat.le_refl _) _).setCell (Nat.le_refl _) _⟩
        have hne : ∀ o u, ∀ X : World, X.ownsRow (w.heap.size + 2) 63 1 (.slice aa k cc) k (Cz ((List.range k).map S)) → (X.setCell ⟨w.heap.size, o, none⟩ u).ownsRow (w.heap.size + 2) 63 1 (.slice aa k cc) k (Cz ((List.range k).map S)) := by
          intro o u X hX
          refine hX.kept (CQ X ⟨w.heap.size, o, none⟩ u) ?_
          cases hv : (Value.slice aa k cc).ownBlock with
          | none => exact .inl rfl
          | some kk =>
            right
            intro e
            have := (hX.lt kk hv).1
            simp only [Option.some.injEq] at e
            omega
        exact Ad (by omega) (hne _ _ _ (hne _ _ _ (hne _ _ _ (hne _ _ _ KO.out))))
theorem Oa (s : List UInt8) (b : Nat) (hs : s.length ≤ 1000000) (hb0 : 0 < b) (hb1 : b ≤ 32) (w : World) :
    Calls Tryz.prog 115 #[.string (str s), .int .i64 (b : Int)] w fun e w' => Below w.heap.size w w' ∧ match Hn s b with
      | some d => ∃ vs, e = .returned (.tuple #[.agg #[.string (str d.name), .int .i64 (d.long : Int), .int .u64 (d.hash : Int), vs], .bool true]) ∧ w'.ownsRow w.heap.size 63 1 vs d.slices.length (Cz d.slices)
      | none => e = .returned Gw := by
  have hss : (str s).size = s.length := Ae s
  have no : Dj s b = false → (Calls Tryz.prog 115 #[.string (str s), .int .i64 (b : Int)] w fun e w' => e = .returned Gw ∧ Below w.heap.size w w') → Calls Tryz.prog 115 #[.string (str s), .int .i64 (b : Int)] w fun e w' => Below w.heap.size w w' ∧ match Hn s b with
      | some d => ∃ vs, e = .returned (.tuple #[.agg #[.string (str d.name), .int .i64 (d.long : Int), .int .u64 (d.hash : Int), vs], .bool true]) ∧ w'.ownsRow w.heap.size 63 1 vs d.slices.length (Cz d.slices)
      | none => e = .returned Gw := by
    intro hno hc
    refine hc.mono ?_
    rintro e w' ⟨rfl, hbl⟩
    unfold Hn
    rw [hno]
    exact ⟨hbl, rfl⟩
  by_cases c1 : 2 ≤ s.length
  · have ix1 := CA s 1 1 rfl (by omega)
    have hg1 : s[1]?.getD 0 = s.getD 1 0 := by simp
    rw [hg1] at ix1
    have hn256 : Bp s < 256 := (s.getD 1 0).toNat_lt
    by_cases c2 : 1 ≤ Bp s ∧ Bp s ≤ 20 ∧ 12 + Bp s ≤ s.length
    · have hin : FormIn s s.length (Bp s) b (BA s) (EG s) ((s.drop 2).take (Bp s)) ((s.drop (2 + Bp s)).take 2) ((s.drop (4 + Bp s)).take 8) := by
        refine ⟨hs, hss, ix1, c2.1, c2.2.1, c2.2.2, hb0, hb1, CH _ (by rw [List.length_take]; omega), ?_, ?_, ?_, BF _ (by rw [List.length_take]; omega), BF _ (by rw [List.length_take]; omega)⟩
        · rw [AB, Nat.add_sub_cancel_left]
        · rw [AB, show 4 + Bp s - (2 + Bp s) = 2 from by omega]
        · rw [AB, show 12 + Bp s - (4 + Bp s) = 8 from by omega]
      by_cases c3 : BA s ≤ 400 ∧ s.length = 12 + Bp s + 8 * Aj (BA s) b
      · have hyes : Dj s b = true := by
          unfold Dj
          rw [decide_eq_true c1, decide_eq_true c2.1, decide_eq_true c2.2.1, decide_eq_true c2.2.2, decide_eq_true c3.1, decide_eq_true c3.2]
          rfl
        refine (QY s s.length (Bp s) b (BA s) (EG s) _ _ _ hin c3 (Is s) (fun i hi => ⟨(s.drop (12 + Bp s + 8 * i)).take 8, ?_, BF _ (by rw [List.length_take]; omega)⟩) w).mono ?_
        · rw [AB, show 20 + Bp s + 8 * i - (12 + Bp s + 8 * i) = 8 from by omega]
        · rintro e w' ⟨vs, rfl, hown, hbl⟩
          unfold Hn
          rw [hyes]
          refine ⟨hbl, vs, rfl, ?_⟩
          simpa [Hh] using hown
      · refine no ?_ (RA s s.length (Bp s) b (BA s) (EG s) _ _ _ hin (by omega) w)
        unfold Dj
        by_cases h4 : BA s ≤ 400
        · rw [decide_eq_false (show ¬ s.length = 12 + Bp s + 8 * Aj (BA s) b from fun e => c3 ⟨h4, e⟩), Bool.and_false]
        · rw [decide_eq_false h4, Bool.and_false, Bool.false_and]
    · refine no ?_ (Rv s s.length (Bp s) b hs c1 hss hn256 ix1 (by omega) w)
      unfold Dj
      by_cases h1 : 1 ≤ Bp s
      · by_cases h2 : Bp s ≤ 20
        · rw [decide_eq_false (show ¬ 12 + Bp s ≤ s.length from fun e => c2 ⟨h1, h2, e⟩), Bool.and_false, Bool.false_and, Bool.false_and]
        · rw [decide_eq_false h2, Bool.and_false, Bool.false_and, Bool.false_and, Bool.false_and]
      · rw [decide_eq_false h1, Bool.and_false, Bool.false_and, Bool.false_and, Bool.false_and, Bool.false_and]
  · refine no ?_ (QT s s.length b (by omega) hss w)
    unfold Dj
    rw [decide_eq_false c1]
    rfl
end Go.Proofs.YtonjphollmdicaaGreatDoor
