import Derived.Test.YtonjphollmdicaaGreatDoorB17
import Derived.Test.YtonjphollmdicaaGreatDoorB19
import Derived.Laws.EntriesVeiled
set_option maxRecDepth 100000
set_option maxHeartbeats 4000000
set_option linter.unusedSimpArgs false
namespace Go.Proofs.YtonjphollmdicaaGreatDoor
open Go.ChangeShapes Go.WideShapes Go.ChangeAt Go.RowKit
theorem I6 (b : List UInt8) (size : Nat) (hb : b.length ≤ 1000000) (w : World) :
  Calls Tryz.prog 192 #[.string (str b), .int .i64 (size : Int)] w fun e w' => e = .returned (.tuple #[.agg #[.int .i64 (AY b : Int), .string (str (Ce b size))], .bool (FP b size)]) ∧ Below w.heap.size w w' := by
 have N1 := Aa (fun W h => Bx (w.heap.size + 1) (b, false) 2 hb (by omega) W h)
 have hl1 : (eS1 b).1.length ≤ 1000000 := Nat.le_trans (Cj _ _) hb
 have N2 := Aa (fun W h => E5 (w.heap.size + 1) (eS1 b) size hl1 W h)
 have hnm : AY b < 65536 := CH _ (Dl _ _)
 have hmr : FP b size = (!(eS2 b size).2 && decide ((eS2 b size).1 = []) && decide (AY b < 20)) := rfl
 change Hid (∀ W, RdAt _ _ W → Calls Tryz.prog 140 _ W fun e w' => e = .returned (.int .u64 ((AY b : Nat) : Int)) ∧ RdAt _ (eS1 b) w' ∧ _) at N1
 change Hid (∀ W, RdAt _ _ W → Calls Tryz.prog 139 _ W fun e w' => e = .returned (.string (str (Ce b size))) ∧ RdAt _ (eS2 b size) w' ∧ _) at N2
 have HMR := Aa hmr
 have hl2 : (eS2 b size).1.length ≤ 1000000 := Nat.le_trans (Cj _ _) hl1
 obtain ⟨nm, hnme⟩ : ∃ x, x = AY b := ⟨_, rfl⟩
 obtain ⟨sl, hsle⟩ : ∃ x, x = Ce b size := ⟨_, rfl⟩
 obtain ⟨st, hste⟩ : ∃ x, x = eS2 b size := ⟨_, rfl⟩
 obtain ⟨s1, hs1⟩ : ∃ x, x = eS1 b := ⟨_, rfl⟩
 obtain ⟨R, hRe⟩ : ∃ x, x = FP b size := ⟨_, rfl⟩
 rw [← hnme] at N1 hnm HMR ⊢
 rw [← hsle] at N2 ⊢
 rw [← hste] at N2 HMR hl2
 rw [← hs1] at N1 N2
 rw [← hRe] at HMR ⊢
 clear hnme hsle hste hs1 hRe hmr hl1
 have wnm : IntKind.i64.wrap (nm : Int) = (nm : Int) := by rw [IntKind.wrap_i64]; omega
 have A1 : Hid (RdAt (w.heap.size + 1) (b, false) ((w.alloc (Obj.cells #[Value.int IntKind.i64 0, Value.string ⟨#[]⟩] 192)).alloc (Obj.cells #[Value.string (str b), Value.bool false] 226))) := Aa ⟨by simp, by simp, by simp, by simp⟩
 go_enter Tryz.func192, Tryz.ntmps192
 go_wp2_with fail
 refine (N1.out _ A1.out).mono ?_
 rintro e w1 ⟨rfl, hr1, ht1⟩
 have hsz1 : w.heap.size + 2 ≤ w1.heap.size := by have := ht1.size; simpa using this
 have hb1 : Below w.heap.size w w1 := Below.trans ((((Below.refl w.heap.size w).alloc (Nat.le_refl _) _).alloc (by simp) _)) (ht1.below (by simp; omega) (by simp))
 have k1 : Blk w1 w.heap.size [.int .i64 0, .string ⟨#[]⟩] := ((Blk.new w #[.int .i64 0, .string ⟨#[]⟩] 192).alloc _).touch ht1 (by simp)
 go_wp2_with fail
 refine (N2.out _ hr1).mono ?_
 rintro e w2 ⟨rfl, hr2, ht2⟩
 have k2 := k1.touch ht2 (by simp)
 have hb2 : Below w.heap.size w w2 := hb1.trans (ht2.below (by omega) (by simp))
 have hs2 := ht2.size
 clear N1 N2 A1 hr1 ht1 k1 hb1 ht2
 go_wp2_with fail
 obtain ⟨g, hg⟩ : ∃ g, g = w2.heap.size := ⟨_, rfl⟩
 have hgw : w.heap.size ≠ g := by omega
 have kg := Blk.new w2 #[.int .i64 (nm : Int), .string (str sl)] 192
 have kq := k2.alloc (Obj.cells #[Value.int IntKind.i64 (nm : Int), Value.string (str sl)] 192)
 have hr3 := hr2.touch ((Touch.refl [] _).alloc (Obj.cells #[Value.int IntKind.i64 (nm : Int), Value.string (str sl)] 192)) (by simp)
 have hb3 := hb2.alloc (by omega) (Obj.cells #[Value.int IntKind.i64 (nm : Int), Value.string (str sl)] 192)
 rw [← hg] at kg ⊢
 obtain ⟨W, hW⟩ : ∃ W, W = w2.alloc (Obj.cells #[Value.int IntKind.i64 (nm : Int), Value.string (str sl)] 192) := ⟨_, rfl⟩
 rw [← hW] at kg kq hr3 hb3 ⊢
 have hfin : ∀ X : World, X = (W.drew.setCell ⟨w.heap.size, 0, none⟩ (.int .i64 (nm : Int))).setCell ⟨w.heap.size, 1, none⟩ (.string (str sl)) → Below w.heap.size w X := by
  rintro X rfl
  exact ((hb3.drew).setCell (Nat.le_refl _) _).setCell (Nat.le_refl _) _
 have HFIN := Aa hfin
 obtain ⟨r0', r1', _, _⟩ := hr3
 have g0' := (kg 0 _ rfl).1
 have g1' := (kg 1 _ rfl).1
 have q0' := (kq 0 _ rfl).1
 have q1' := (kq 1 _ rfl).1
 have z0' := (kq 0 _ rfl).2
 have z1' := (kq 1 _ rfl).2
 have s0' : ((W.drew.setCell ⟨w.heap.size, 0, none⟩ (.int .i64 (nm : Int))).setCell ⟨w.heap.size, 1, none⟩ (.string (str sl))).cell? ⟨w.heap.size + 1, 0, none⟩ = some (.string (str st.1)) := by
  rw [World.cell?_setCell_other _ _ _ _ (by simp), World.cell?_setCell_other _ _ _ _ (by simp)]; exact r0'
 have s1' : ((W.drew.setCell ⟨w.heap.size, 0, none⟩ (.int .i64 (nm : Int))).setCell ⟨w.heap.size, 1, none⟩ (.string (str sl))).cell? ⟨w.heap.size + 1, 1, none⟩ = some (.bool st.2) := by
  rw [World.cell?_setCell_other _ _ _ _ (by simp), World.cell?_setCell_other _ _ _ _ (by simp)]; exact r1'
 have s2' : ((W.drew.setCell ⟨w.heap.size, 0, none⟩ (.int .i64 (nm : Int))).setCell ⟨w.heap.size, 1, none⟩ (.string (str sl))).cell? ⟨g, 0, none⟩ = some (.int .i64 (nm : Int)) := by
  rw [World.cell?_setCell_other _ _ _ _ (fun e => hgw (congrArg Addr.block e)), World.cell?_setCell_other _ _ _ _ (fun e => hgw (congrArg Addr.block e))]; exact g0'
 have s3' : ((W.drew.setCell ⟨w.heap.size, 0, none⟩ (.int .i64 (nm : Int))).setCell ⟨w.heap.size, 1, none⟩ (.string (str sl))).cell? ⟨g, 1, none⟩ = some (.string (str sl)) := by
  rw [World.cell?_setCell_other _ _ _ _ (fun e => hgw (congrArg Addr.block e)), World.cell?_setCell_other _ _ _ _ (fun e => hgw (congrArg Addr.block e))]; exact g1'
 obtain ⟨rl, sh⟩ := st
 simp only at r0' r1' s0' s1' HMR hl2
 clear hW kg kq hfin hb3 hb2 hr2 k2 hg hs2 hsz1 hgw
 cases sh with
 | true =>
  have HR : Hid (R = false) := Aa (by rw [HMR.out]; rfl)
  clear HMR
  refine wp_region_held_drew (S := fun X => X.cell? ⟨w.heap.size + 1, 0, none⟩ = some (.string (str rl)) ∧ X.cell? ⟨w.heap.size + 1, 1, none⟩ = some (.bool true) ∧ X.cell? ⟨g, 0, none⟩ = some (.int .i64 (nm : Int)) ∧ X.cell? ⟨g, 1, none⟩ = some (.string (str sl))) (by kernel_rfl) ⟨r0', r1', g0', g1'⟩ (fun hHeld => ?_)
  refine tY 0 15 ?_
  refine tY 1 16 ?_
  refine tY 2 17 ?_
  refine tY 3 18 ?_
  refine tY 4 19 ?_
  refine tN 5 20 ?_
  refine tN 6 21 ?_
  refine tN 7 22 ?_
  refine tY 8 23 ?_
  refine tY 9 24 ?_
  refine tN 10 25 ?_
  refine tN 11 26 ?_
  refine tN 12 27 ?_
  refine tY 13 28 ?_
  refine Ah (i := 14) (by kernel_rfl) (fun K o ho hK => ?_)
  simp only [gA, gB, gC, gE] at ho
  subst ho
  go_simp
  refine hK.out _ _ ?_ (fun hHeld => ?_)
  focus exact ⟨s0', s1', s2', s3'⟩
  clear hK K
  try simp only [Act.put, sA, sB, sC]
  refine tY 15 5 ?_
  refine wpAnyH_done (by kernel_rfl) ?_ _
  go_wp2_with fail
  refine bodyPost_ret (v := .tuple #[.agg #[.int .i64 (nm : Int), .string (str sl)], .bool false]) (by simp [results, Tryz.results192, go_sem, q0', q1']) rfl ?_
  exact ⟨by rw [HR.out], HFIN.out _ rfl⟩
 | false =>
  by_cases b1 : rl = []
  ·subst b1
   have e1 : (str []).toList.isEmpty = true := by rw [Au]; rfl
   by_cases b2 : nm < 20
   ·have e2 : (nm : Int) < 20 := by omega
    have HR : Hid (R = true) := Aa (by rw [HMR.out]; simp [b2])
    clear HMR
    refine wp_region_held_drew (S := fun X => X.cell? ⟨w.heap.size + 1, 0, none⟩ = some (.string (str [])) ∧ X.cell? ⟨w.heap.size + 1, 1, none⟩ = some (.bool false) ∧ X.cell? ⟨g, 0, none⟩ = some (.int .i64 (nm : Int)) ∧ X.cell? ⟨g, 1, none⟩ = some (.string (str sl))) (by kernel_rfl) ⟨r0', r1', g0', g1'⟩ (fun hHeld => ?_)
    refine tY 0 15 ?_
    refine tY 1 16 ?_
    refine tY 2 17 ?_
    refine tY 3 18 ?_
    refine tY 4 19 ?_
    refine tY 5 20 ?_
    refine tY 6 21 ?_
    refine tY 7 22 ?_
    refine tY 8 23 ?_
    refine tY 9 24 ?_
    refine tY 10 25 ?_
    refine tY 11 26 ?_
    refine tY 12 27 ?_
    refine tY 13 28 ?_
    refine Ah (i := 14) (by kernel_rfl) (fun K o ho hK => ?_)
    simp only [gA, gB, gC, gE] at ho
    subst ho
    go_simp
    refine hK.out _ _ ?_ (fun hHeld => ?_)
    focus exact ⟨s0', s1', s2', s3'⟩
    clear hK K
    try simp only [Act.put, sA, sB, sC]
    refine tY 15 5 ?_
    refine wpAnyH_done (by kernel_rfl) ?_ _
    go_wp2_with fail
    refine bodyPost_ret (v := .tuple #[.agg #[.int .i64 (nm : Int), .string (str sl)], .bool true]) (by simp [results, Tryz.results192, go_sem, q0', q1']) rfl ?_
    exact ⟨by rw [HR.out], HFIN.out _ rfl⟩
   ·have e2 : ¬ ((nm : Int) < 20) := by omega
    have HR : Hid (R = false) := Aa (by rw [HMR.out]; simp [b2])
    clear HMR
    refine wp_region_held_drew (S := fun X => X.cell? ⟨w.heap.size + 1, 0, none⟩ = some (.string (str [])) ∧ X.cell? ⟨w.heap.size + 1, 1, none⟩ = some (.bool false) ∧ X.cell? ⟨g, 0, none⟩ = some (.int .i64 (nm : Int)) ∧ X.cell? ⟨g, 1, none⟩ = some (.string (str sl))) (by kernel_rfl) ⟨r0', r1', g0', g1'⟩ (fun hHeld => ?_)
    refine tY 0 15 ?_
    refine tY 1 16 ?_
    refine tY 2 17 ?_
    refine tY 3 18 ?_
    refine tY 4 19 ?_
    refine tY 5 20 ?_
    refine tY 6 21 ?_
    refine tY 7 22 ?_
    refine tY 8 23 ?_
    refine tY 9 24 ?_
    refine tY 10 25 ?_
    refine tY 11 26 ?_
    refine tY 12 27 ?_
    refine tY 13 28 ?_
    refine Ah (i := 14) (by kernel_rfl) (fun K o ho hK => ?_)
    simp only [gA, gB, gC, gE] at ho
    subst ho
    go_simp
    refine hK.out _ _ ?_ (fun hHeld => ?_)
    focus exact ⟨s0', s1', s2', s3'⟩
    clear hK K
    try simp only [Act.put, sA, sB, sC]
    refine tY 15 5 ?_
    refine wpAnyH_done (by kernel_rfl) ?_ _
    go_wp2_with fail
    refine bodyPost_ret (v := .tuple #[.agg #[.int .i64 (nm : Int), .string (str sl)], .bool false]) (by simp [results, Tryz.results192, go_sem, q0', q1']) rfl ?_
    exact ⟨by rw [HR.out], HFIN.out _ rfl⟩
  ·have e1 : (str rl).toList.isEmpty = false := by rw [Au]; cases rl with | nil => exact absurd rfl b1 | cons x r => rfl
   have HR : Hid (R = false) := Aa (by rw [HMR.out]; simp [b1])
   clear HMR
   refine wp_region_held_drew (S := fun X => X.cell? ⟨w.heap.size + 1, 0, none⟩ = some (.string (str rl)) ∧ X.cell? ⟨w.heap.size + 1, 1, none⟩ = some (.bool false) ∧ X.cell? ⟨g, 0, none⟩ = some (.int .i64 (nm : Int)) ∧ X.cell? ⟨g, 1, none⟩ = some (.string (str sl))) (by kernel_rfl) ⟨r0', r1', g0', g1'⟩ (fun hHeld => ?_)
   refine tY 0 15 ?_
   refine tY 1 16 ?_
   refine tY 2 17 ?_
   refine tY 3 18 ?_
   refine tY 4 19 ?_
   refine tY 5 20 ?_
   refine tY 6 21 ?_
   refine tY 7 22 ?_
   refine tY 8 23 ?_
   refine tY 9 24 ?_
   refine tN 10 25 ?_
   refine tN 11 26 ?_
   refine tN 12 27 ?_
   refine tY 13 28 ?_
   refine Ah (i := 14) (by kernel_rfl) (fun K o ho hK => ?_)
   simp only [gA, gB, gC, gE] at ho
   subst ho
   go_simp
   refine hK.out _ _ ?_ (fun hHeld => ?_)
   focus exact ⟨s0', s1', s2', s3'⟩
   clear hK K
   try simp only [Act.put, sA, sB, sC]
   refine tY 15 5 ?_
   refine wpAnyH_done (by kernel_rfl) ?_ _
   go_wp2_with fail
   refine bodyPost_ret (v := .tuple #[.agg #[.int .i64 (nm : Int), .string (str sl)], .bool false]) (by simp [results, Tryz.results192, go_sem, q0', q1']) rfl ?_
   exact ⟨by rw [HR.out], HFIN.out _ rfl⟩
structure Kinds (w : World) : Prop where
  c0 : w.cell? ⟨0, 0, none⟩ = some (.int .u8 77)
  c1 : w.cell? ⟨0, 1, none⟩ = some (.func (.func 185) #[] #[])
  c2 : w.cell? ⟨0, 2, none⟩ = some (.int .u8 70)
  c3 : w.cell? ⟨0, 3, none⟩ = some (.func (.func 186) #[] #[])
  c4 : w.cell? ⟨0, 4, none⟩ = some (.int .u8 82)
  c5 : w.cell? ⟨0, 5, none⟩ = some (.func (.func 187) #[] #[])
theorem Kinds.lt {w : World} (h : Kinds w) : 0 < w.heap.size := World.block_lt_of_cell? w _ h.c0
theorem Kinds.touch {w w' : World} (h : Kinds w) {L : List Nat} (ht : Touch L w w') (hL : 0 ∉ L) : Kinds w' := by
  have e : ∀ o, w'.cell? ⟨0, o, none⟩ = w.cell? ⟨0, o, none⟩ := fun o => ht.cell (x := ⟨0, o, none⟩) h.lt hL
  exact ⟨by rw [e]; exact h.c0, by rw [e]; exact h.c1, by rw [e]; exact h.c2, by rw [e]; exact h.c3, by rw [e]; exact h.c4, by rw [e]; exact h.c5⟩
theorem Kinds.later {w w' : World} (h : Kinds w) {B : Nat} (hb : Below B w w') (hB : 0 < B) : Kinds w' := by
  have e : ∀ o, w'.cell? ⟨0, o, none⟩ = w.cell? ⟨0, o, none⟩ := fun o => hb.cell hB
  exact ⟨by rw [e]; exact h.c0, by rw [e]; exact h.c1, by rw [e]; exact h.c2, by rw [e]; exact h.c3, by rw [e]; exact h.c4, by rw [e]; exact h.c5⟩
def Lm : Value := .agg #[.int .u8 77, .func (.func 185) #[] #[], .int .u8 70, .func (.func 186) #[] #[], .int .u8 82, .func (.func 187) #[] #[]]
theorem Lj (W : World) : (Instr.index 179 Lm (.int .i64 0)).run Tryz.prog W = .ok (.agg #[.int .u8 77, .func (.func 185) #[] #[]]) W := by kernel_rfl
theorem Le (W : World) : (Instr.index 179 Lm (.int .i64 1)).run Tryz.prog W = .ok (.agg #[.int .u8 70, .func (.func 186) #[] #[]]) W := by kernel_rfl
theorem LV (W : World) : (Instr.index 179 Lm (.int .i64 2)).run Tryz.prog W = .ok (.agg #[.int .u8 82, .func (.func 187) #[] #[]]) W := by kernel_rfl
theorem MD (k : UInt8) (w : World) (h : Kinds w) :
    Calls Tryz.prog 127 #[.int .u8 (k.toNat : Int)] w fun e w' => e = .returned (.bool (Gu k)) ∧ Below w.heap.size w w' := by
  obtain ⟨c0, c1, c2, c3, c4, c5⟩ := h
  obtain ⟨R, hR⟩ : ∃ R, R = Gu k := ⟨_, rfl⟩
  rw [← hR]
  have HR := Aa hR
  have hl0 : R = ([77, 70, 82] : List UInt8).contains k := by
    rw [hR]
    unfold Gu
    simp only [List.contains_cons, List.contains_nil, Bool.or_false, Bool.or_assoc]
  have HL0 := Aa hl0
  clear hR hl0
  have ix0 := Lj
  have ix1 := Le
  have ix2 := LV
  unfold Lm at ix0 ix1 ix2
  go_enter Tryz.func127, Tryz.ntmps127
  go_wp2_with fail
  go_loopw [4, 6] (fun _ i W => ∃ j : Nat, j ≤ 3 ∧ i = .int .i64 (j : Int) ∧ Hid (R = (([77, 70, 82] : List UInt8).drop j).contains k) ∧ Below w.heap.size w W)
    (fun _ i _ => 3 - (intOf i).toNat)
  case atStart => exact ⟨0, by omega, rfl, HL0, Below.refl _ _⟩
  case round =>
    obtain ⟨j, hj, rfl, HL, hbl⟩ := hrel
    have HB := Aa hbl
    have hsz := hbl.size
    clear hbl c0 c1 c2 c3 c4 c5 HL0
    have hj4 : j = 0 ∨ j = 1 ∨ j = 2 ∨ j = 3 := by omega
    rcases hj4 with rfl | rfl | rfl | rfl
    · by_cases q : k = 77
      · subst q
        have HK : Hid (R = true) := Aa (by rw [HR.out]; rfl)
        clear HR HL
        go_wp2_with fail
        go_ret
        exact ⟨by rw [HK.out]; rfl, HB.out.alloc HB.out.size _⟩
      · have e1 : ((77 : Int) == (k.toNat : Int)) = false := by
          rw [beq_eq_false_iff_ne]
          intro e
          exact q (UInt8.toNat_inj.1 (by have : k.toNat = 77 := by omega
                                         rw [this]; rfl))
        have H2 : Hid (R = ([70, 82] : List UInt8).contains k) := Aa (by rw [HL.out]; simp [q])
        clear HL HR q
        go_wp2_with fail
        exact ⟨⟨1, by omega, rfl, H2, HB.out.alloc HB.out.size _⟩, by simp [intOf]⟩
    · by_cases q : k = 70
      · subst q
        have HK : Hid (R = true) := Aa (by rw [HR.out]; rfl)
        clear HR HL
        go_wp2_with fail
        go_ret
        exact ⟨by rw [HK.out]; rfl, HB.out.alloc HB.out.size _⟩
      · have e1 : ((70 : Int) == (k.toNat : Int)) = false := by
          rw [beq_eq_false_iff_ne]
          intro e
          exact q (UInt8.toNat_inj.1 (by have : k.toNat = 70 := by omega
                                         rw [this]; rfl))
        have H2 : Hid (R = ([82] : List UInt8).contains k) := Aa (by rw [HL.out]; simp [q])
        clear HL HR q
        go_wp2_with fail
        exact ⟨⟨2, by omega, rfl, H2, HB.out.alloc HB.out.size _⟩, by simp [intOf]⟩
    · by_cases q : k = 82
      · subst q
        have HK : Hid (R = true) := Aa (by rw [HR.out]; rfl)
        clear HR HL
        go_wp2_with fail
        go_ret
        exact ⟨by rw [HK.out]; rfl, HB.out.alloc HB.out.size _⟩
      · have e1 : ((82 : Int) == (k.toNat : Int)) = false := by
          rw [beq_eq_false_iff_ne]
          intro e
          exact q (UInt8.toNat_inj.1 (by have : k.toNat = 82 := by omega
                                         rw [this]; rfl))
        have H2 : Hid (R = ([] : List UInt8).contains k) := Aa (by rw [HL.out]; simp [q])
        clear HL HR q
        go_wp2_with fail
        exact ⟨⟨3, by omega, rfl, H2, HB.out.alloc HB.out.size _⟩, by simp [intOf]⟩
    · have HK : Hid (R = false) := Aa (by rw [HL.out]; rfl)
      clear HR HL
      go_wp2_with fail
      go_ret
      exact ⟨by rw [HK.out]; rfl, HB.out⟩
def CC (k s : Nat) (b : List UInt8) : Value := .agg #[.int .u8 (k : Int), .int .u64 (s : Int), .string (str b)]
def N8 (t : List UInt8) : Value := if FM t then .tuple #[CC (Ft t) (Ny t) (GS t), .int .i64 (((CS t).length + 8 : Nat) : Int)] else .tuple #[CC 0 0 [], .int .i64 0]
theorem HU (l : List UInt8) (h : l.length ≤ 1) : C0 l < 256 := by
 match l, h with
 | [], _ => decide
 | [x], _ => rw [FH]; exact x.toNat_lt
theorem Pa (b : List UInt8) (hb : b.length ≤ 1000000) (w : World) :
  Calls Tryz.prog 126 #[.string (str b)] w fun e w' => e = .returned (N8 b) ∧ Below w.heap.size w w' := by
 have A1 : Hid (RdAt (w.heap.size + 1) (b, false) ((w.alloc (Obj.cells #[.int .u8 0, .int .u64 0, .string ⟨#[]⟩] 181)).alloc (Obj.cells #[Value.string (str b), Value.bool false] 226))) := Aa ⟨by simp, by simp, by simp, by simp⟩
 have l1 : (oS1 b).1.length ≤ 1000000 := Nat.le_trans (Cj _ _) hb
 have l2 : (oS2 b).1.length ≤ 1000000 := Nat.le_trans (Cj _ _) l1
 have l3 : (oS3 b).1.length ≤ 1000000 := Nat.le_trans (Cj _ _) l2
 have l4 : (oS4 b).1.length ≤ 1000000 := Nat.le_trans (Cj _ _) l3
 have l5 : (oS5 b).1.length ≤ 1000000 := Nat.le_trans (Cj _ _) l4
 have l5' : (oS5 b).1.length ≤ b.length := Nat.le_trans (Cj _ _) (Nat.le_trans (Cj _ _) (Nat.le_trans (Cj _ _) (Nat.le_trans (Cj _ _) (Cj _ _))))
 have hk : Ft b < 256 := HU _ (Dl _ _)
 have hn : NI b < 65536 := CH _ (Dl _ _)
 have N1 : Hid (∀ W, RdAt (w.heap.size + 1) (b, false) W → Calls Tryz.prog 139 #[.pointer (some ⟨w.heap.size + 1, 0, none⟩), .int .i64 ((3 : Nat) : Int)] W fun e w' => e = .returned (.string (str (rdT (b, false) 3))) ∧ RdAt (w.heap.size + 1) (oS1 b) w' ∧ Touch [w.heap.size + 1] W w') := Aa (fun W h => E5 (w.heap.size + 1) (b, false) 3 hb W h)
 have N2 : Hid (∀ W, RdAt (w.heap.size + 1) (oS1 b) W → Calls Tryz.prog 140 #[.pointer (some ⟨w.heap.size + 1, 0, none⟩), .int .i64 ((1 : Nat) : Int)] W fun e w' => e = .returned (.int .u64 ((Ft b : Nat) : Int)) ∧ RdAt (w.heap.size + 1) (oS2 b) w' ∧ Touch [w.heap.size + 1] W w') := Aa (fun W h => Bx (w.heap.size + 1) (oS1 b) 1 l1 (by omega) W h)
 have N3 : Hid (∀ W, RdAt (w.heap.size + 1) (oS2 b) W → Calls Tryz.prog 140 #[.pointer (some ⟨w.heap.size + 1, 0, none⟩), .int .i64 ((8 : Nat) : Int)] W fun e w' => e = .returned (.int .u64 ((Ny b : Nat) : Int)) ∧ RdAt (w.heap.size + 1) (oS3 b) w' ∧ Touch [w.heap.size + 1] W w') := Aa (fun W h => Bx (w.heap.size + 1) (oS2 b) 8 l2 (by omega) W h)
 have N4 : Hid (∀ W, RdAt (w.heap.size + 1) (oS3 b) W → Calls Tryz.prog 140 #[.pointer (some ⟨w.heap.size + 1, 0, none⟩), .int .i64 ((2 : Nat) : Int)] W fun e w' => e = .returned (.int .u64 ((NI b : Nat) : Int)) ∧ RdAt (w.heap.size + 1) (oS4 b) w' ∧ Touch [w.heap.size + 1] W w') := Aa (fun W h => Bx (w.heap.size + 1) (oS3 b) 2 l3 (by omega) W h)
 have N5 : Hid (∀ W, RdAt (w.heap.size + 1) (oS4 b) W → Calls Tryz.prog 139 #[.pointer (some ⟨w.heap.size + 1, 0, none⟩), .int .i64 ((NI b : Nat) : Int)] W fun e w' => e = .returned (.string (str (GS b))) ∧ RdAt (w.heap.size + 1) (oS5 b) w' ∧ Touch [w.heap.size + 1] W w') := Aa (fun W h => E5 (w.heap.size + 1) (oS4 b) (NI b) l4 W h)
 have N6 : Hid (∀ W, RdAt (w.heap.size + 1) (oS5 b) W → Calls Tryz.prog 140 #[.pointer (some ⟨w.heap.size + 1, 0, none⟩), .int .i64 ((8 : Nat) : Int)] W fun e w' => e = .returned (.int .u64 ((NN b : Nat) : Int)) ∧ RdAt (w.heap.size + 1) (oS6 b) w' ∧ Touch [w.heap.size + 1] W w') := Aa (fun W h => Bx (w.heap.size + 1) (oS5 b) 8 l5 (by omega) W h)
 have hal : (CS b).length ≤ 1000000 := by unfold CS; rw [List.length_take]; omega
 have NH : Hid (∀ W, Calls Tryz.prog 92 #[.string (str (CS b))] W fun e w' => e = .returned (.int .u64 ((AC (CS b) : Nat) : Int)) ∧ w' = W) := Aa (fun W => by simpa [str] using Ix (str (CS b)) (by rw [Ae]; exact hal) W)
 have hahl : (CS b).length = b.length - (oS5 b).1.length := by unfold CS; rw [List.length_take]; omega
 have hex : (str b).extract 0 (b.length - (oS5 b).1.length) = str (CS b) := by rw [AB]; simp [CS]
 have hop : FM b = ((rdT (b, false) 3 == [83, 65, 76]) && !(oS6 b).2 && (NN b == AC (CS b))) := rfl
 obtain ⟨R, hR⟩ : ∃ R, R = N8 b := ⟨_, rfl⟩
 have hR' : R = if FM b then .tuple #[CC (Ft b) (Ny b) (GS b), .int .i64 (((CS b).length + 8 : Nat) : Int)] else .tuple #[CC 0 0 [], .int .i64 0] := hR
 have HR := Aa hR'
 have HOP := Aa hop
 rw [← hR]
 clear hR hR' hop l1 l2 l3 l4
 have wk : IntKind.u8.wrap (Ft b : Int) = (Ft b : Int) := by rw [IntKind.wrap_u8']; omega
 have wn : IntKind.i64.wrap (NI b : Int) = (NI b : Int) := by rw [IntKind.wrap_i64]; omega
 go_enter Tryz.func126, Tryz.ntmps126
 go_wp2_with fail
 refine (N1.out _ A1.out).mono ?_
 rintro e w1 ⟨rfl, hr1, ht1⟩
 have hsz1 : w.heap.size + 2 ≤ w1.heap.size := by have := ht1.size; simpa using this
 have hb1 : Below w.heap.size w w1 := Below.trans ((((Below.refl w.heap.size w).alloc (Nat.le_refl _) _).alloc (by simp) _)) (ht1.below (by simp; omega) (by simp))
 have k1 : Blk w1 w.heap.size [.int .u8 0, .int .u64 0, .string ⟨#[]⟩] := ((Blk.new w #[.int .u8 0, .int .u64 0, .string ⟨#[]⟩] 181).alloc _).touch ht1 (by simp)
 have HB1 := Aa hb1
 have HR1 := Aa hr1
 clear hb1 hr1 ht1 A1 N1
 by_cases c1 : rdT (b, false) 3 = [83, 65, 76]
 ·have e1 : ((str (rdT (b, false) 3)).toList == [83, 65, 76]) = true := by rw [Au, c1]; rfl
  have HOP2 : Hid (FM b = (!(oS6 b).2 && (NN b == AC (CS b)))) := Aa (by rw [HOP.out, c1]; rfl)
  clear HOP c1
  have K1 := Aa k1
  clear k1
  go_wp2_with fail
  refine (N2.out _ HR1.out).mono ?_
  rintro e w2 ⟨rfl, hr2, ht2⟩
  go_wp2_with fail
  refine (N3.out _ hr2).mono ?_
  rintro e w3 ⟨rfl, hr3, ht3⟩
  have ht13 := ht2.trans ht3
  have hb3 : Below w.heap.size w w3 := HB1.out.trans (ht13.below (by omega) (by simp))
  have hs3 : w.heap.size + 2 ≤ w3.heap.size := Nat.le_trans hsz1 ht13.size
  have k3 := K1.out.touch ht13 (by simp)
  obtain ⟨V, hV⟩ : ∃ V, V = Obj.cells #[.int .u8 (Ft b : Int), .int .u64 (Ny b : Int), .string ⟨#[]⟩] 181 := ⟨_, rfl⟩
  have A4 : Hid (RdAt (w.heap.size + 1) (oS3 b) (w3.alloc (Obj.cells #[.int .u8 (Ft b : Int), .int .u64 (Ny b : Int), .string ⟨#[]⟩] 181))) := Aa (hr3.touch ((Touch.refl [] _).alloc _) (by simp))
  have K4 := Aa (k3.alloc (Obj.cells #[.int .u8 (Ft b : Int), .int .u64 (Ny b : Int), .string ⟨#[]⟩] 181))
  have G4 := Aa (Blk.new w3 #[.int .u8 (Ft b : Int), .int .u64 (Ny b : Int), .string ⟨#[]⟩] 181)
  have B4 := Aa (hb3.alloc (by omega) (Obj.cells #[.int .u8 (Ft b : Int), .int .u64 (Ny b : Int), .string ⟨#[]⟩] 181))
  clear ht2 ht3 ht13 hr2 hr3 hb3 k3 HB1 HR1 K1 N2 N3 hV V hsz1
  go_wp2_with fail
  refine (N4.out _ A4.out).mono ?_
  rintro e w5 ⟨rfl, hr5, ht5⟩
  go_wp2_with fail
  refine (N5.out _ hr5).mono ?_
  rintro e w6 ⟨rfl, hr6, ht6⟩
  obtain ⟨g, hg⟩ : ∃ g, g = w3.heap.size := ⟨_, rfl⟩
  have hgs : (w3.alloc (Obj.cells #[.int .u8 (Ft b : Int), .int .u64 (Ny b : Int), .string ⟨#[]⟩] 181)).heap.size = g + 1 := by simp [hg]
  rw [← hg] at G4 hs3 ⊢
  have ht46 := ht5.trans ht6
  have kq := K4.out.touch ht46 (by simp)
  have kg := G4.out.touch ht46 (by simp; omega)
  have hb6 : Below w.heap.size w w6 := B4.out.trans (ht46.below (by rw [hgs]; omega) (by simp))
  have hgw : g ≠ w.heap.size := by omega
  have hgw' : w.heap.size + 1 ≠ g := by omega
  have g2 := (kg 2 _ rfl).1
  have y2 := (kg 2 _ rfl).2
  have kg' := kg.set 2 (.string (str (GS b)))
  have kq' := kq.set_other (a := ⟨g, 2, none⟩) hgw (.string (str (GS b)))
  have hr' : RdAt (w.heap.size + 1) (oS5 b) (w6.setCell ⟨g, 2, none⟩ (.string (str (GS b)))) := hr6.touch ((Touch.refl [g] _).setCell (.inl (by simp)) _) (by simpa using hgw')
  have hb' := hb6.setCell (show w.heap.size ≤ (⟨g, 2, none⟩ : Addr).block from by simp; omega) (.string (str (GS b)))
  have hs' : g + 1 ≤ (w6.setCell ⟨g, 2, none⟩ (.string (str (GS b)))).heap.size := by
   have := ht46.size
   rw [hgs] at this
   simpa using this
  simp only [List.set_cons_succ, List.set_cons_zero] at kg'
  have HRX := Aa hr'
  obtain ⟨c0', c1', _, _⟩ := hr'
  have KG' := Aa kg'
  have KQ' := Aa kq'
  have HB' := Aa hb'
  have HS' := Aa hs'
  clear kg' kq' hb' hs'
  clear hr5 hr6 ht5 ht6 ht46 kq kg hb6 K4 G4 B4 A4 N4 N5 hgs hg
  have hbs := Ae b
  have h5s := Ae (oS5 b).1
  have wsub : IntKind.i64.wrap ((b.length : Int) - ((oS5 b).1.length : Int)) = ((b.length - (oS5 b).1.length : Nat) : Int) := by rw [IntKind.wrap_i64]; omega
  go_wp2_with fail
  refine (N6.out _ HRX.out).mono ?_
  rintro e w7 ⟨rfl, hr7, ht7⟩
  have kq := KQ'.out.touch ht7 (by simp)
  have kg := KG'.out.touch ht7 (by simpa using Ne.symm hgw')
  have hb7 : Below w.heap.size w w7 := HB'.out.trans (ht7.below (by have := HS'.out; omega) (by simp))
  obtain ⟨_, r1, _, _⟩ := hr7
  obtain ⟨g0, y0⟩ := kg 0 _ rfl
  obtain ⟨g1, y1⟩ := kg 1 _ rfl
  obtain ⟨g2', y2'⟩ := kg 2 _ rfl
  obtain ⟨q0, z0⟩ := kq 0 _ rfl
  obtain ⟨q1, z1⟩ := kq 1 _ rfl
  obtain ⟨q2, z2⟩ := kq 2 _ rfl
  have HB7 := Aa hb7
  clear hb7 kq kg ht7 HRX KQ' KG' HB' HS' N6 c0' c1' g2 y2 hex wsub h5s hbs
  have w8 : IntKind.i64.wrap (((CS b).length : Int) + 8) = ((CS b).length : Int) + 8 := by rw [IntKind.wrap_i64]; omega
  have hahs := Ae (CS b)
  obtain ⟨k, hke⟩ : ∃ x, x = Ft b := ⟨_, rfl⟩
  obtain ⟨s, hse⟩ : ∃ x, x = Ny b := ⟨_, rfl⟩
  obtain ⟨bd, hbde⟩ : ∃ x, x = GS b := ⟨_, rfl⟩
  obtain ⟨ah, hahe⟩ : ∃ x, x = CS b := ⟨_, rfl⟩
  obtain ⟨hs, hhse⟩ : ∃ x, x = NN b := ⟨_, rfl⟩
  obtain ⟨sh, hshe⟩ : ∃ x, x = (oS6 b).2 := ⟨_, rfl⟩
  obtain ⟨hv, hhve⟩ : ∃ x, x = AC ah := ⟨_, rfl⟩
  rw [← hahe] at NH w8 hahs HR HOP2 ⊢
  rw [← hhve] at NH HOP2
  rw [← hke] at g0 HR ⊢
  rw [← hse] at g1 HR ⊢
  rw [← hbde] at g2' HR ⊢
  rw [← hhse] at HOP2 ⊢
  rw [← hshe] at r1 HOP2
  clear hke hse hbde hahe hhse hshe hhve hk hn hal hahl wk wn l5 l5' hb hs3 e1
  cases sh with
  | true =>
   have HRR : Hid (R = .tuple #[CC 0 0 [], .int .i64 0]) := Aa (by rw [HR.out, if_neg]; rw [HOP2.out]; simp)
   clear HR HOP2
   go_wp2_with fail
   refine bodyPost_ret (v := .tuple #[.agg #[.int .u8 0, .int .u64 0, .string ⟨#[]⟩], .int .i64 0]) (by simp [results, Tryz.results126, go_sem, *]) rfl ?_
   exact ⟨by rw [HRR.out]; rfl, ((HB7.out.setCell (Nat.le_refl _) _).setCell (Nat.le_refl _) _).setCell (Nat.le_refl _) _⟩
  | false =>
   by_cases c2 : hs = hv
   ·have e2 : ((hs : Int) != (hv : Int)) = false := by simp [c2]
    have e3 : ((hs : Int) == (hv : Int)) = true := by simp [c2]
    have HRR : Hid (R = .tuple #[CC k s bd, .int .i64 ((ah.length : Int) + 8)]) := Aa (by rw [HR.out, if_pos]; rfl; rw [HOP2.out, c2]; simp)
    clear HR HOP2 c2
    go_wp2_with fail
    refine (NH.out _).mono ?_
    rintro e w' ⟨rfl, hw'⟩
    have hw' := hw'.symm
    subst hw'
    go_wp2_with fail
    refine bodyPost_ret (v := .tuple #[.agg #[.int .u8 (k : Int), .int .u64 (s : Int), .string (str bd)], .int .i64 ((ah.length : Int) + 8)]) (by simp [results, Tryz.results126, go_sem, *]) rfl ?_
    exact ⟨by rw [HRR.out]; rfl, ((HB7.out.setCell (Nat.le_refl _) _).setCell (Nat.le_refl _) _).setCell (Nat.le_refl _) _⟩
   ·have e2 : ((hs : Int) != (hv : Int)) = true := by simp; omega
    have e3 : ((hs : Int) == (hv : Int)) = false := by simp; omega
    have HRR : Hid (R = .tuple #[CC 0 0 [], .int .i64 0]) := Aa (by rw [HR.out, if_neg]; rw [HOP2.out, beq_eq_false_iff_ne.2 c2]; simp)
    clear HR HOP2 c2
    go_wp2_with fail
    refine (NH.out _).mono ?_
    rintro e w' ⟨rfl, hw'⟩
    have hw' := hw'.symm
    subst hw'
    go_wp2_with fail
    refine bodyPost_ret (v := .tuple #[.agg #[.int .u8 0, .int .u64 0, .string ⟨#[]⟩], .int .i64 0]) (by simp [results, Tryz.results126, go_sem, *]) rfl ?_
    exact ⟨by rw [HRR.out]; rfl, ((HB7.out.setCell (Nat.le_refl _) _).setCell (Nat.le_refl _) _).setCell (Nat.le_refl _) _⟩
 ·have e1 : ((str (rdT (b, false) 3)).toList == [83, 65, 76]) = false := by rw [Au, beq_eq_false_iff_ne]; exact c1
  have q0 := (k1 0 _ rfl).1
  have q1 := (k1 1 _ rfl).1
  have q2 := (k1 2 _ rfl).1
  have z0 := (k1 0 _ rfl).2
  have z1 := (k1 1 _ rfl).2
  have z2 := (k1 2 _ rfl).2
  have HRR : Hid (R = .tuple #[CC 0 0 [], .int .i64 0]) := Aa (by rw [HR.out, if_neg]; rw [HOP.out, beq_eq_false_iff_ne.2 c1]; simp)
  clear HR HOP k1 c1
  go_wp2_with fail
  refine bodyPost_ret (v := .tuple #[.agg #[.int .u8 0, .int .u64 0, .string ⟨#[]⟩], .int .i64 0]) (by simp [results, Tryz.results126, go_sem, *]) rfl ?_
  exact ⟨by rw [HRR.out]; rfl, ((HB1.out.setCell (Nat.le_refl _) _).setCell (Nat.le_refl _) _).setCell (Nat.le_refl _) _⟩
end Go.Proofs.YtonjphollmdicaaGreatDoor
