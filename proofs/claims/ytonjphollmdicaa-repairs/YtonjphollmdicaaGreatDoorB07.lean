import Derived.Test.YtonjphollmdicaaGreatDoorB04
import Derived.Test.YtonjphollmdicaaGreatDoorB05
namespace Go.Proofs.YtonjphollmdicaaGreatDoor
open Go.ChangeShapes Go.WideShapes Go.ChangeAt Go.RowKit
set_option linter.unusedSimpArgs false in
set_option maxRecDepth 100000 in
set_option maxHeartbeats 1000000 in
theorem ReadExtra_walk (b : List UInt8) (size : Nat) (hb : b.length ≤ 1000000) (w : World) :
  Calls Tryz.prog 192 #[.string (str b), .int .i64 (size : Int)] w fun e w' => e = .returned (.tuple #[.agg #[.int .i64 (eNumber b : Int), .string (str (eSlice b size))], .bool (eRight b size)]) ∧ Below w.heap.size w w' := by
 have N1 := hid_of (fun W h => number_walk (w.heap.size + 1) (b, false) 2 hb (by omega) W h)
 have hl1 : (eS1 b).1.length ≤ 1000000 := Nat.le_trans (rdS_len _ _) hb
 have N2 := hid_of (fun W h => text_walk (w.heap.size + 1) (eS1 b) size hl1 W h)
 have hnm : eNumber b < 65536 := numL_two _ (rdT_len _ _)
 have hmr : eRight b size = (!(eS2 b size).2 && decide ((eS2 b size).1 = []) && decide (eNumber b < 20)) := rfl
 change Hid (∀ W, RdAt _ _ W → Calls Tryz.prog 140 _ W fun e w' => e = .returned (.int .u64 ((eNumber b : Nat) : Int)) ∧ RdAt _ (eS1 b) w' ∧ _) at N1
 change Hid (∀ W, RdAt _ _ W → Calls Tryz.prog 139 _ W fun e w' => e = .returned (.string (str (eSlice b size))) ∧ RdAt _ (eS2 b size) w' ∧ _) at N2
 have HMR := hid_of hmr
 have hl2 : (eS2 b size).1.length ≤ 1000000 := Nat.le_trans (rdS_len _ _) hl1
 obtain ⟨nm, hnme⟩ : ∃ x, x = eNumber b := ⟨_, rfl⟩
 obtain ⟨sl, hsle⟩ : ∃ x, x = eSlice b size := ⟨_, rfl⟩
 obtain ⟨st, hste⟩ : ∃ x, x = eS2 b size := ⟨_, rfl⟩
 obtain ⟨s1, hs1⟩ : ∃ x, x = eS1 b := ⟨_, rfl⟩
 obtain ⟨R, hRe⟩ : ∃ x, x = eRight b size := ⟨_, rfl⟩
 rw [← hnme] at N1 hnm HMR ⊢
 rw [← hsle] at N2 ⊢
 rw [← hste] at N2 HMR hl2
 rw [← hs1] at N1 N2
 rw [← hRe] at HMR ⊢
 clear hnme hsle hste hs1 hRe hmr hl1
 have wnm : IntKind.i64.wrap (nm : Int) = (nm : Int) := by rw [IntKind.wrap_i64]; omega
 have A1 : Hid (RdAt (w.heap.size + 1) (b, false) ((w.alloc (Obj.cells #[Value.int IntKind.i64 0, Value.string ⟨#[]⟩] 192)).alloc (Obj.cells #[Value.string (str b), Value.bool false] 226))) := hid_of ⟨by simp, by simp, by simp, by simp⟩
 go_enter Tryz.func192, Tryz.ntmps192
 go_wp2_with fail
 refine (N1.out _ A1.out).mono ?_
 rintro e w1 ⟨rfl, hr1, ht1⟩
 have hsz1 : w.heap.size + 2 ≤ w1.heap.size := by have := ht1.size; simpa using this
 have hb1 : Below w.heap.size w w1 := Below.trans ((((Below.refl w.heap.size w).alloc (Nat.le_refl _) _).alloc (by simp) _)) (ht1.below (by simp; omega) (by simp))
 have k1 : Blk w1 w.heap.size [.int .i64 0, .string ⟨#[]⟩] := ((Blk.new w #[.int .i64 0, .string ⟨#[]⟩] 192).alloc _).touch ht1 (by simp)
 go_wp2_with fail
 refine (N2.out _ hr1).mono ?_
 rintro e w2 ⟨rfl, hr2, ht2⟩
 have k2 := k1.touch ht2 (by simp)
 have hb2 : Below w.heap.size w w2 := hb1.trans (ht2.below (by omega) (by simp))
 have hs2 := ht2.size
 clear N1 N2 A1 hr1 ht1 k1 hb1 ht2
 go_wp2_with fail
 obtain ⟨g, hg⟩ : ∃ g, g = w2.heap.size := ⟨_, rfl⟩
 have hgw : w.heap.size ≠ g := by omega
 have kg := Blk.new w2 #[.int .i64 (nm : Int), .string (str sl)] 192
 have kq := k2.alloc (Obj.cells #[Value.int IntKind.i64 (nm : Int), Value.string (str sl)] 192)
 have hr3 := hr2.touch ((Touch.refl [] _).alloc (Obj.cells #[Value.int IntKind.i64 (nm : Int), Value.string (str sl)] 192)) (by simp)
 have hb3 := hb2.alloc (by omega) (Obj.cells #[Value.int IntKind.i64 (nm : Int), Value.string (str sl)] 192)
 rw [← hg] at kg ⊢
 obtain ⟨W, hW⟩ : ∃ W, W = w2.alloc (Obj.cells #[Value.int IntKind.i64 (nm : Int), Value.string (str sl)] 192) := ⟨_, rfl⟩
 rw [← hW] at kg kq hr3 hb3 ⊢
 have hfin : ∀ X : World, X = (W.drew.setCell ⟨w.heap.size, 0, none⟩ (.int .i64 (nm : Int))).setCell ⟨w.heap.size, 1, none⟩ (.string (str sl)) → Below w.heap.size w X := by
  rintro X rfl
  exact ((hb3.drew).setCell (Nat.le_refl _) _).setCell (Nat.le_refl _) _
 have HFIN := hid_of hfin
 obtain ⟨r0', r1', _, _⟩ := hr3
 have g0' := (kg 0 _ rfl).1
 have g1' := (kg 1 _ rfl).1
 have q0' := (kq 0 _ rfl).1
 have q1' := (kq 1 _ rfl).1
 have z0' := (kq 0 _ rfl).2
 have z1' := (kq 1 _ rfl).2
 have s0' : ((W.drew.setCell ⟨w.heap.size, 0, none⟩ (.int .i64 (nm : Int))).setCell ⟨w.heap.size, 1, none⟩ (.string (str sl))).cell? ⟨w.heap.size + 1, 0, none⟩ = some (.string (str st.1)) := by
  rw [World.cell?_setCell_other _ _ _ _ (by simp), World.cell?_setCell_other _ _ _ _ (by simp)]; exact r0'
 have s1' : ((W.drew.setCell ⟨w.heap.size, 0, none⟩ (.int .i64 (nm : Int))).setCell ⟨w.heap.size, 1, none⟩ (.string (str sl))).cell? ⟨w.heap.size + 1, 1, none⟩ = some (.bool st.2) := by
  rw [World.cell?_setCell_other _ _ _ _ (by simp), World.cell?_setCell_other _ _ _ _ (by simp)]; exact r1'
 have s2' : ((W.drew.setCell ⟨w.heap.size, 0, none⟩ (.int .i64 (nm : Int))).setCell ⟨w.heap.size, 1, none⟩ (.string (str sl))).cell? ⟨g, 0, none⟩ = some (.int .i64 (nm : Int)) := by
  rw [World.cell?_setCell_other _ _ _ _ (fun e => hgw (congrArg Addr.block e)), World.cell?_setCell_other _ _ _ _ (fun e => hgw (congrArg Addr.block e))]; exact g0'
 have s3' : ((W.drew.setCell ⟨w.heap.size, 0, none⟩ (.int .i64 (nm : Int))).setCell ⟨w.heap.size, 1, none⟩ (.string (str sl))).cell? ⟨g, 1, none⟩ = some (.string (str sl)) := by
  rw [World.cell?_setCell_other _ _ _ _ (fun e => hgw (congrArg Addr.block e)), World.cell?_setCell_other _ _ _ _ (fun e => hgw (congrArg Addr.block e))]; exact g1'
 obtain ⟨rl, sh⟩ := st
 simp only at r0' r1' s0' s1' HMR hl2
 clear hW kg kq hfin hb3 hb2 hr2 k2 hg hs2 hsz1 hgw
 cases sh with
 | true =>
  have HR : Hid (R = false) := hid_of (by rw [HMR.out]; rfl)
  clear HMR
  refine wp_region_held_drew (S := fun X => X.cell? ⟨w.heap.size + 1, 0, none⟩ = some (.string (str rl)) ∧ X.cell? ⟨w.heap.size + 1, 1, none⟩ = some (.bool true) ∧ X.cell? ⟨g, 0, none⟩ = some (.int .i64 (nm : Int)) ∧ X.cell? ⟨g, 1, none⟩ = some (.string (str sl))) (by kernel_rfl) ⟨r0', r1', g0', g1'⟩ (fun hHeld => ?_)
  (refine tY 0 15 ?v1 ?a1 rfl (by kernel_rfl) (by rfl) (fun _ _ _ h => h) ?y1 (by assumption) rfl ?p1 ?_; (case y1 => (intro w hSw; (try dsimp only at hSw); simp only [gA, gB, gC, gD, gE]; go_simp; (try with_reducible rfl))); (case p1 => (simp only [Act.put, sA, sB, sC]; try rfl)))
  (refine tY 1 16 ?v2 ?a2 rfl (by kernel_rfl) (by rfl) (fun _ _ _ h => h) ?y2 (by assumption) rfl ?p2 ?_; (case y2 => (intro w hSw; (try dsimp only at hSw); simp only [gA, gB, gC, gD, gE]; go_simp; (try with_reducible rfl))); (case p2 => (simp only [Act.put, sA, sB, sC]; try rfl)))
  (refine tY 2 17 ?v3 ?a3 rfl (by kernel_rfl) (by rfl) (fun _ _ _ h => h) ?y3 (by assumption) rfl ?p3 ?_; (case y3 => (intro w hSw; (try dsimp only at hSw); simp only [gA, gB, gC, gD, gE]; go_simp; (try with_reducible rfl))); (case p3 => (simp only [Act.put, sA, sB, sC]; try rfl)))
  (refine tY 3 18 ?v4 ?a4 rfl (by kernel_rfl) (by rfl) (fun _ _ _ h => h) ?y4 (by assumption) rfl ?p4 ?_; (case y4 => (intro w hSw; (try dsimp only at hSw); simp only [gA, gB, gC, gD, gE]; go_simp; (try with_reducible rfl))); (case p4 => (simp only [Act.put, sA, sB, sC]; try rfl)))
  (refine tY 4 19 ?v5 ?a5 rfl (by kernel_rfl) (by rfl) (fun _ _ _ h => h) ?y5 (by assumption) rfl ?p5 ?_; (case y5 => (intro w hSw; (try dsimp only at hSw); simp only [gA, gB, gC, gD, gE]; go_simp; (try with_reducible rfl))); (case p5 => (simp only [Act.put, sA, sB, sC]; try rfl)))
  (refine tN 5 20 ?a6 rfl (by kernel_rfl) (by rfl) (fun _ _ _ h => h) (by assumption) rfl ?p6 ?_; (case p6 => (simp only [Act.put, sA, sB, sC]; try rfl)))
  (refine tN 6 21 ?a7 rfl (by kernel_rfl) (by rfl) (fun _ _ _ h => h) (by assumption) rfl ?p7 ?_; (case p7 => (simp only [Act.put, sA, sB, sC]; try rfl)))
  (refine tN 7 22 ?a8 rfl (by kernel_rfl) (by rfl) (fun _ _ _ h => h) (by assumption) rfl ?p8 ?_; (case p8 => (simp only [Act.put, sA, sB, sC]; try rfl)))
  (refine tY 8 23 ?v9 ?a9 rfl (by kernel_rfl) (by rfl) (fun _ _ _ h => h) ?y9 (by assumption) rfl ?p9 ?_; (case y9 => (intro w hSw; (try dsimp only at hSw); simp only [gA, gB, gC, gD, gE]; go_simp; (try with_reducible rfl))); (case p9 => (simp only [Act.put, sA, sB, sC]; try rfl)))
  (refine tY 9 24 ?v10 ?a10 rfl (by kernel_rfl) (by rfl) (fun _ _ _ h => h) ?y10 (by assumption) rfl ?p10 ?_; (case y10 => (intro w hSw; (try dsimp only at hSw); simp only [gA, gB, gC, gD, gE]; go_simp; (try with_reducible rfl))); (case p10 => (simp only [Act.put, sA, sB, sC]; try rfl)))
  (refine tN 10 25 ?a11 rfl (by kernel_rfl) (by rfl) (fun _ _ _ h => h) (by assumption) rfl ?p11 ?_; (case p11 => (simp only [Act.put, sA, sB, sC]; try rfl)))
  (refine tN 11 26 ?a12 rfl (by kernel_rfl) (by rfl) (fun _ _ _ h => h) (by assumption) rfl ?p12 ?_; (case p12 => (simp only [Act.put, sA, sB, sC]; try rfl)))
  (refine tN 12 27 ?a13 rfl (by kernel_rfl) (by rfl) (fun _ _ _ h => h) (by assumption) rfl ?p13 ?_; (case p13 => (simp only [Act.put, sA, sB, sC]; try rfl)))
  (refine tY 13 28 ?v14 ?a14 rfl (by kernel_rfl) (by rfl) (fun _ _ _ h => h) ?y14 (by assumption) rfl ?p14 ?_; (case y14 => (intro w hSw; (try dsimp only at hSw); simp only [gA, gB, gC, gD, gE]; go_simp; (try with_reducible rfl))); (case p14 => (simp only [Act.put, sA, sB, sC]; try rfl)))
  refine step_one (i := 14) (by kernel_rfl) (fun K o ho hK => ?_)
  simp only [List.getElem?_toArray, List.getElem?_cons_succ, List.getElem?_cons_zero, Option.some.injEq] at ho
  subst ho
  go_simp
  refine hK.out _ _ ?_ (fun hHeld => ?_)
  focus exact ⟨s0', s1', s2', s3'⟩
  clear hK K
  try simp only [Act.put, List.setIfInBounds_toArray, List.set_cons_zero, List.set_cons_succ]
  (refine tY 15 5 ?v15 ?a15 rfl (by kernel_rfl) (by rfl) (fun _ _ _ h => h) ?y15 (by assumption) rfl ?p15 ?_; (case y15 => (intro w hSw; (try dsimp only at hSw); simp only [gA, gB, gC, gD, gE]; go_simp; (try with_reducible rfl))); (case p15 => (simp only [Act.put, sA, sB, sC]; try rfl)))
  refine wpAnyH_done (by kernel_rfl) ?_ _
  go_wp2_with fail
  refine bodyPost_ret (v := .tuple #[.agg #[.int .i64 (nm : Int), .string (str sl)], .bool false]) (by simp [results, Tryz.results192, go_sem, q0', q1']) rfl ?_
  exact ⟨by rw [HR.out], HFIN.out _ rfl⟩
 | false =>
  by_cases b1 : rl = []
  ·subst b1
   have e1 : (str []).toList.isEmpty = true := by rw [str_toList]; rfl
   by_cases b2 : nm < 20
   ·have e2 : (nm : Int) < 20 := by omega
    have HR : Hid (R = true) := hid_of (by rw [HMR.out]; simp [b2])
    clear HMR
    refine wp_region_held_drew (S := fun X => X.cell? ⟨w.heap.size + 1, 0, none⟩ = some (.string (str [])) ∧ X.cell? ⟨w.heap.size + 1, 1, none⟩ = some (.bool false) ∧ X.cell? ⟨g, 0, none⟩ = some (.int .i64 (nm : Int)) ∧ X.cell? ⟨g, 1, none⟩ = some (.string (str sl))) (by kernel_rfl) ⟨r0', r1', g0', g1'⟩ (fun hHeld => ?_)
    (refine tY 0 15 ?v16 ?a16 rfl (by kernel_rfl) (by rfl) (fun _ _ _ h => h) ?y16 (by assumption) rfl ?p16 ?_; (case y16 => (intro w hSw; (try dsimp only at hSw); simp only [gA, gB, gC, gD, gE]; go_simp; (try with_reducible rfl))); (case p16 => (simp only [Act.put, sA, sB, sC]; try rfl)))
    (refine tY 1 16 ?v17 ?a17 rfl (by kernel_rfl) (by rfl) (fun _ _ _ h => h) ?y17 (by assumption) rfl ?p17 ?_; (case y17 => (intro w hSw; (try dsimp only at hSw); simp only [gA, gB, gC, gD, gE]; go_simp; (try with_reducible rfl))); (case p17 => (simp only [Act.put, sA, sB, sC]; try rfl)))
    (refine tY 2 17 ?v18 ?a18 rfl (by kernel_rfl) (by rfl) (fun _ _ _ h => h) ?y18 (by assumption) rfl ?p18 ?_; (case y18 => (intro w hSw; (try dsimp only at hSw); simp only [gA, gB, gC, gD, gE]; go_simp; (try with_reducible rfl))); (case p18 => (simp only [Act.put, sA, sB, sC]; try rfl)))
    (refine tY 3 18 ?v19 ?a19 rfl (by kernel_rfl) (by rfl) (fun _ _ _ h => h) ?y19 (by assumption) rfl ?p19 ?_; (case y19 => (intro w hSw; (try dsimp only at hSw); simp only [gA, gB, gC, gD, gE]; go_simp; (try with_reducible rfl))); (case p19 => (simp only [Act.put, sA, sB, sC]; try rfl)))
    (refine tY 4 19 ?v20 ?a20 rfl (by kernel_rfl) (by rfl) (fun _ _ _ h => h) ?y20 (by assumption) rfl ?p20 ?_; (case y20 => (intro w hSw; (try dsimp only at hSw); simp only [gA, gB, gC, gD, gE]; go_simp; (try with_reducible rfl))); (case p20 => (simp only [Act.put, sA, sB, sC]; try rfl)))
    (refine tY 5 20 ?v21 ?a21 rfl (by kernel_rfl) (by rfl) (fun _ _ _ h => h) ?y21 (by assumption) rfl ?p21 ?_; (case y21 => (intro w hSw; (try dsimp only at hSw); simp only [gA, gB, gC, gD, gE]; go_simp; (try with_reducible rfl))); (case p21 => (simp only [Act.put, sA, sB, sC]; try rfl)))
    (refine tY 6 21 ?v22 ?a22 rfl (by kernel_rfl) (by rfl) (fun _ _ _ h => h) ?y22 (by assumption) rfl ?p22 ?_; (case y22 => (intro w hSw; (try dsimp only at hSw); simp only [gA, gB, gC, gD, gE]; go_simp; (try with_reducible rfl))); (case p22 => (simp only [Act.put, sA, sB, sC]; try rfl)))
    (refine tY 7 22 ?v23 ?a23 rfl (by kernel_rfl) (by rfl) (fun _ _ _ h => h) ?y23 (by assumption) rfl ?p23 ?_; (case y23 => (intro w hSw; (try dsimp only at hSw); simp only [gA, gB, gC, gD, gE]; go_simp; (try with_reducible rfl))); (case p23 => (simp only [Act.put, sA, sB, sC]; try rfl)))
    (refine tY 8 23 ?v24 ?a24 rfl (by kernel_rfl) (by rfl) (fun _ _ _ h => h) ?y24 (by assumption) rfl ?p24 ?_; (case y24 => (intro w hSw; (try dsimp only at hSw); simp only [gA, gB, gC, gD, gE]; go_simp; (try with_reducible rfl))); (case p24 => (simp only [Act.put, sA, sB, sC]; try rfl)))
    (refine tY 9 24 ?v25 ?a25 rfl (by kernel_rfl) (by rfl) (fun _ _ _ h => h) ?y25 (by assumption) rfl ?p25 ?_; (case y25 => (intro w hSw; (try dsimp only at hSw); simp only [gA, gB, gC, gD, gE]; go_simp; (try with_reducible rfl))); (case p25 => (simp only [Act.put, sA, sB, sC]; try rfl)))
    (refine tY 10 25 ?v26 ?a26 rfl (by kernel_rfl) (by rfl) (fun _ _ _ h => h) ?y26 (by assumption) rfl ?p26 ?_; (case y26 => (intro w hSw; (try dsimp only at hSw); simp only [gA, gB, gC, gD, gE]; go_simp; (try with_reducible rfl))); (case p26 => (simp only [Act.put, sA, sB, sC]; try rfl)))
    (refine tY 11 26 ?v27 ?a27 rfl (by kernel_rfl) (by rfl) (fun _ _ _ h => h) ?y27 (by assumption) rfl ?p27 ?_; (case y27 => (intro w hSw; (try dsimp only at hSw); simp only [gA, gB, gC, gD, gE]; go_simp; (try with_reducible rfl))); (case p27 => (simp only [Act.put, sA, sB, sC]; try rfl)))
    (refine tY 12 27 ?v28 ?a28 rfl (by kernel_rfl) (by rfl) (fun _ _ _ h => h) ?y28 (by assumption) rfl ?p28 ?_; (case y28 => (intro w hSw; (try dsimp only at hSw); simp only [gA, gB, gC, gD, gE]; go_simp; (try with_reducible rfl))); (case p28 => (simp only [Act.put, sA, sB, sC]; try rfl)))
    (refine tY 13 28 ?v29 ?a29 rfl (by kernel_rfl) (by rfl) (fun _ _ _ h => h) ?y29 (by assumption) rfl ?p29 ?_; (case y29 => (intro w hSw; (try dsimp only at hSw); simp only [gA, gB, gC, gD, gE]; go_simp; (try with_reducible rfl))); (case p29 => (simp only [Act.put, sA, sB, sC]; try rfl)))
    refine step_one (i := 14) (by kernel_rfl) (fun K o ho hK => ?_)
    simp only [List.getElem?_toArray, List.getElem?_cons_succ, List.getElem?_cons_zero, Option.some.injEq] at ho
    subst ho
    go_simp
    refine hK.out _ _ ?_ (fun hHeld => ?_)
    focus exact ⟨s0', s1', s2', s3'⟩
    clear hK K
    try simp only [Act.put, List.setIfInBounds_toArray, List.set_cons_zero, List.set_cons_succ]
    (refine tY 15 5 ?v30 ?a30 rfl (by kernel_rfl) (by rfl) (fun _ _ _ h => h) ?y30 (by assumption) rfl ?p30 ?_; (case y30 => (intro w hSw; (try dsimp only at hSw); simp only [gA, gB, gC, gD, gE]; go_simp; (try with_reducible rfl))); (case p30 => (simp only [Act.put, sA, sB, sC]; try rfl)))
    refine wpAnyH_done (by kernel_rfl) ?_ _
    go_wp2_with fail
    refine bodyPost_ret (v := .tuple #[.agg #[.int .i64 (nm : Int), .string (str sl)], .bool true]) (by simp [results, Tryz.results192, go_sem, q0', q1']) rfl ?_
    exact ⟨by rw [HR.out], HFIN.out _ rfl⟩
   ·have e2 : ¬ ((nm : Int) < 20) := by omega
    have HR : Hid (R = false) := hid_of (by rw [HMR.out]; simp [b2])
    clear HMR
    refine wp_region_held_drew (S := fun X => X.cell? ⟨w.heap.size + 1, 0, none⟩ = some (.string (str [])) ∧ X.cell? ⟨w.heap.size + 1, 1, none⟩ = some (.bool false) ∧ X.cell? ⟨g, 0, none⟩ = some (.int .i64 (nm : Int)) ∧ X.cell? ⟨g, 1, none⟩ = some (.string (str sl))) (by kernel_rfl) ⟨r0', r1', g0', g1'⟩ (fun hHeld => ?_)
    (refine tY 0 15 ?v31 ?a31 rfl (by kernel_rfl) (by rfl) (fun _ _ _ h => h) ?y31 (by assumption) rfl ?p31 ?_; (case y31 => (intro w hSw; (try dsimp only at hSw); simp only [gA, gB, gC, gD, gE]; go_simp; (try with_reducible rfl))); (case p31 => (simp only [Act.put, sA, sB, sC]; try rfl)))
    (refine tY 1 16 ?v32 ?a32 rfl (by kernel_rfl) (by rfl) (fun _ _ _ h => h) ?y32 (by assumption) rfl ?p32 ?_; (case y32 => (intro w hSw; (try dsimp only at hSw); simp only [gA, gB, gC, gD, gE]; go_simp; (try with_reducible rfl))); (case p32 => (simp only [Act.put, sA, sB, sC]; try rfl)))
    (refine tY 2 17 ?v33 ?a33 rfl (by kernel_rfl) (by rfl) (fun _ _ _ h => h) ?y33 (by assumption) rfl ?p33 ?_; (case y33 => (intro w hSw; (try dsimp only at hSw); simp only [gA, gB, gC, gD, gE]; go_simp; (try with_reducible rfl))); (case p33 => (simp only [Act.put, sA, sB, sC]; try rfl)))
    (refine tY 3 18 ?v34 ?a34 rfl (by kernel_rfl) (by rfl) (fun _ _ _ h => h) ?y34 (by assumption) rfl ?p34 ?_; (case y34 => (intro w hSw; (try dsimp only at hSw); simp only [gA, gB, gC, gD, gE]; go_simp; (try with_reducible rfl))); (case p34 => (simp only [Act.put, sA, sB, sC]; try rfl)))
    (refine tY 4 19 ?v35 ?a35 rfl (by kernel_rfl) (by rfl) (fun _ _ _ h => h) ?y35 (by assumption) rfl ?p35 ?_; (case y35 => (intro w hSw; (try dsimp only at hSw); simp only [gA, gB, gC, gD, gE]; go_simp; (try with_reducible rfl))); (case p35 => (simp only [Act.put, sA, sB, sC]; try rfl)))
    (refine tY 5 20 ?v36 ?a36 rfl (by kernel_rfl) (by rfl) (fun _ _ _ h => h) ?y36 (by assumption) rfl ?p36 ?_; (case y36 => (intro w hSw; (try dsimp only at hSw); simp only [gA, gB, gC, gD, gE]; go_simp; (try with_reducible rfl))); (case p36 => (simp only [Act.put, sA, sB, sC]; try rfl)))
    (refine tY 6 21 ?v37 ?a37 rfl (by kernel_rfl) (by rfl) (fun _ _ _ h => h) ?y37 (by assumption) rfl ?p37 ?_; (case y37 => (intro w hSw; (try dsimp only at hSw); simp only [gA, gB, gC, gD, gE]; go_simp; (try with_reducible rfl))); (case p37 => (simp only [Act.put, sA, sB, sC]; try rfl)))
    (refine tY 7 22 ?v38 ?a38 rfl (by kernel_rfl) (by rfl) (fun _ _ _ h => h) ?y38 (by assumption) rfl ?p38 ?_; (case y38 => (intro w hSw; (try dsimp only at hSw); simp only [gA, gB, gC, gD, gE]; go_simp; (try with_reducible rfl))); (case p38 => (simp only [Act.put, sA, sB, sC]; try rfl)))
    (refine tY 8 23 ?v39 ?a39 rfl (by kernel_rfl) (by rfl) (fun _ _ _ h => h) ?y39 (by assumption) rfl ?p39 ?_; (case y39 => (intro w hSw; (try dsimp only at hSw); simp only [gA, gB, gC, gD, gE]; go_simp; (try with_reducible rfl))); (case p39 => (simp only [Act.put, sA, sB, sC]; try rfl)))
    (refine tY 9 24 ?v40 ?a40 rfl (by kernel_rfl) (by rfl) (fun _ _ _ h => h) ?y40 (by assumption) rfl ?p40 ?_; (case y40 => (intro w hSw; (try dsimp only at hSw); simp only [gA, gB, gC, gD, gE]; go_simp; (try with_reducible rfl))); (case p40 => (simp only [Act.put, sA, sB, sC]; try rfl)))
    (refine tY 10 25 ?v41 ?a41 rfl (by kernel_rfl) (by rfl) (fun _ _ _ h => h) ?y41 (by assumption) rfl ?p41 ?_; (case y41 => (intro w hSw; (try dsimp only at hSw); simp only [gA, gB, gC, gD, gE]; go_simp; (try with_reducible rfl))); (case p41 => (simp only [Act.put, sA, sB, sC]; try rfl)))
    (refine tY 11 26 ?v42 ?a42 rfl (by kernel_rfl) (by rfl) (fun _ _ _ h => h) ?y42 (by assumption) rfl ?p42 ?_; (case y42 => (intro w hSw; (try dsimp only at hSw); simp only [gA, gB, gC, gD, gE]; go_simp; (try with_reducible rfl))); (case p42 => (simp only [Act.put, sA, sB, sC]; try rfl)))
    (refine tY 12 27 ?v43 ?a43 rfl (by kernel_rfl) (by rfl) (fun _ _ _ h => h) ?y43 (by assumption) rfl ?p43 ?_; (case y43 => (intro w hSw; (try dsimp only at hSw); simp only [gA, gB, gC, gD, gE]; go_simp; (try with_reducible rfl))); (case p43 => (simp only [Act.put, sA, sB, sC]; try rfl)))
    (refine tY 13 28 ?v44 ?a44 rfl (by kernel_rfl) (by rfl) (fun _ _ _ h => h) ?y44 (by assumption) rfl ?p44 ?_; (case y44 => (intro w hSw; (try dsimp only at hSw); simp only [gA, gB, gC, gD, gE]; go_simp; (try with_reducible rfl))); (case p44 => (simp only [Act.put, sA, sB, sC]; try rfl)))
    refine step_one (i := 14) (by kernel_rfl) (fun K o ho hK => ?_)
    simp only [List.getElem?_toArray, List.getElem?_cons_succ, List.getElem?_cons_zero, Option.some.injEq] at ho
    subst ho
    go_simp
    refine hK.out _ _ ?_ (fun hHeld => ?_)
    focus exact ⟨s0', s1', s2', s3'⟩
    clear hK K
    try simp only [Act.put, List.setIfInBounds_toArray, List.set_cons_zero, List.set_cons_succ]
    (refine tY 15 5 ?v45 ?a45 rfl (by kernel_rfl) (by rfl) (fun _ _ _ h => h) ?y45 (by assumption) rfl ?p45 ?_; (case y45 => (intro w hSw; (try dsimp only at hSw); simp only [gA, gB, gC, gD, gE]; go_simp; (try with_reducible rfl))); (case p45 => (simp only [Act.put, sA, sB, sC]; try rfl)))
    refine wpAnyH_done (by kernel_rfl) ?_ _
    go_wp2_with fail
    refine bodyPost_ret (v := .tuple #[.agg #[.int .i64 (nm : Int), .string (str sl)], .bool false]) (by simp [results, Tryz.results192, go_sem, q0', q1']) rfl ?_
    exact ⟨by rw [HR.out], HFIN.out _ rfl⟩
  ·have e1 : (str rl).toList.isEmpty = false := by rw [str_toList]; cases rl with | nil => exact absurd rfl b1 | cons x r => rfl
   have HR : Hid (R = false) := hid_of (by rw [HMR.out]; simp [b1])
   clear HMR
   refine wp_region_held_drew (S := fun X => X.cell? ⟨w.heap.size + 1, 0, none⟩ = some (.string (str rl)) ∧ X.cell? ⟨w.heap.size + 1, 1, none⟩ = some (.bool false) ∧ X.cell? ⟨g, 0, none⟩ = some (.int .i64 (nm : Int)) ∧ X.cell? ⟨g, 1, none⟩ = some (.string (str sl))) (by kernel_rfl) ⟨r0', r1', g0', g1'⟩ (fun hHeld => ?_)
   (refine tY 0 15 ?v46 ?a46 rfl (by kernel_rfl) (by rfl) (fun _ _ _ h => h) ?y46 (by assumption) rfl ?p46 ?_; (case y46 => (intro w hSw; (try dsimp only at hSw); simp only [gA, gB, gC, gD, gE]; go_simp; (try with_reducible rfl))); (case p46 => (simp only [Act.put, sA, sB, sC]; try rfl)))
   (refine tY 1 16 ?v47 ?a47 rfl (by kernel_rfl) (by rfl) (fun _ _ _ h => h) ?y47 (by assumption) rfl ?p47 ?_; (case y47 => (intro w hSw; (try dsimp only at hSw); simp only [gA, gB, gC, gD, gE]; go_simp; (try with_reducible rfl))); (case p47 => (simp only [Act.put, sA, sB, sC]; try rfl)))
   (refine tY 2 17 ?v48 ?a48 rfl (by kernel_rfl) (by rfl) (fun _ _ _ h => h) ?y48 (by assumption) rfl ?p48 ?_; (case y48 => (intro w hSw; (try dsimp only at hSw); simp only [gA, gB, gC, gD, gE]; go_simp; (try with_reducible rfl))); (case p48 => (simp only [Act.put, sA, sB, sC]; try rfl)))
   (refine tY 3 18 ?v49 ?a49 rfl (by kernel_rfl) (by rfl) (fun _ _ _ h => h) ?y49 (by assumption) rfl ?p49 ?_; (case y49 => (intro w hSw; (try dsimp only at hSw); simp only [gA, gB, gC, gD, gE]; go_simp; (try with_reducible rfl))); (case p49 => (simp only [Act.put, sA, sB, sC]; try rfl)))
   (refine tY 4 19 ?v50 ?a50 rfl (by kernel_rfl) (by rfl) (fun _ _ _ h => h) ?y50 (by assumption) rfl ?p50 ?_; (case y50 => (intro w hSw; (try dsimp only at hSw); simp only [gA, gB, gC, gD, gE]; go_simp; (try with_reducible rfl))); (case p50 => (simp only [Act.put, sA, sB, sC]; try rfl)))
   (refine tY 5 20 ?v51 ?a51 rfl (by kernel_rfl) (by rfl) (fun _ _ _ h => h) ?y51 (by assumption) rfl ?p51 ?_; (case y51 => (intro w hSw; (try dsimp only at hSw); simp only [gA, gB, gC, gD, gE]; go_simp; (try with_reducible rfl))); (case p51 => (simp only [Act.put, sA, sB, sC]; try rfl)))
   (refine tY 6 21 ?v52 ?a52 rfl (by kernel_rfl) (by rfl) (fun _ _ _ h => h) ?y52 (by assumption) rfl ?p52 ?_; (case y52 => (intro w hSw; (try dsimp only at hSw); simp only [gA, gB, gC, gD, gE]; go_simp; (try with_reducible rfl))); (case p52 => (simp only [Act.put, sA, sB, sC]; try rfl)))
   (refine tY 7 22 ?v53 ?a53 rfl (by kernel_rfl) (by rfl) (fun _ _ _ h => h) ?y53 (by assumption) rfl ?p53 ?_; (case y53 => (intro w hSw; (try dsimp only at hSw); simp only [gA, gB, gC, gD, gE]; go_simp; (try with_reducible rfl))); (case p53 => (simp only [Act.put, sA, sB, sC]; try rfl)))
   (refine tY 8 23 ?v54 ?a54 rfl (by kernel_rfl) (by rfl) (fun _ _ _ h => h) ?y54 (by assumption) rfl ?p54 ?_; (case y54 => (intro w hSw; (try dsimp only at hSw); simp only [gA, gB, gC, gD, gE]; go_simp; (try with_reducible rfl))); (case p54 => (simp only [Act.put, sA, sB, sC]; try rfl)))
   (refine tY 9 24 ?v55 ?a55 rfl (by kernel_rfl) (by rfl) (fun _ _ _ h => h) ?y55 (by assumption) rfl ?p55 ?_; (case y55 => (intro w hSw; (try dsimp only at hSw); simp only [gA, gB, gC, gD, gE]; go_simp; (try with_reducible rfl))); (case p55 => (simp only [Act.put, sA, sB, sC]; try rfl)))
   (refine tN 10 25 ?a56 rfl (by kernel_rfl) (by rfl) (fun _ _ _ h => h) (by assumption) rfl ?p56 ?_; (case p56 => (simp only [Act.put, sA, sB, sC]; try rfl)))
   (refine tN 11 26 ?a57 rfl (by kernel_rfl) (by rfl) (fun _ _ _ h => h) (by assumption) rfl ?p57 ?_; (case p57 => (simp only [Act.put, sA, sB, sC]; try rfl)))
   (refine tN 12 27 ?a58 rfl (by kernel_rfl) (by rfl) (fun _ _ _ h => h) (by assumption) rfl ?p58 ?_; (case p58 => (simp only [Act.put, sA, sB, sC]; try rfl)))
   (refine tY 13 28 ?v59 ?a59 rfl (by kernel_rfl) (by rfl) (fun _ _ _ h => h) ?y59 (by assumption) rfl ?p59 ?_; (case y59 => (intro w hSw; (try dsimp only at hSw); simp only [gA, gB, gC, gD, gE]; go_simp; (try with_reducible rfl))); (case p59 => (simp only [Act.put, sA, sB, sC]; try rfl)))
   refine step_one (i := 14) (by kernel_rfl) (fun K o ho hK => ?_)
   simp only [List.getElem?_toArray, List.getElem?_cons_succ, List.getElem?_cons_zero, Option.some.injEq] at ho
   subst ho
   go_simp
   refine hK.out _ _ ?_ (fun hHeld => ?_)
   focus exact ⟨s0', s1', s2', s3'⟩
   clear hK K
   try simp only [Act.put, List.setIfInBounds_toArray, List.set_cons_zero, List.set_cons_succ]
   (refine tY 15 5 ?v60 ?a60 rfl (by kernel_rfl) (by rfl) (fun _ _ _ h => h) ?y60 (by assumption) rfl ?p60 ?_; (case y60 => (intro w hSw; (try dsimp only at hSw); simp only [gA, gB, gC, gD, gE]; go_simp; (try with_reducible rfl))); (case p60 => (simp only [Act.put, sA, sB, sC]; try rfl)))
   refine wpAnyH_done (by kernel_rfl) ?_ _
   go_wp2_with fail
   refine bodyPost_ret (v := .tuple #[.agg #[.int .i64 (nm : Int), .string (str sl)], .bool false]) (by simp [results, Tryz.results192, go_sem, q0', q1']) rfl ?_
   exact ⟨by rw [HR.out], HFIN.out _ rfl⟩
end Go.Proofs.YtonjphollmdicaaGreatDoor
namespace Go.Proofs.YtonjphollmdicaaGreatDoor
open Go.ChangeShapes Go.WideShapes Go.ChangeAt Go.RowKit
def oS1 (t : List UInt8) : List UInt8 × Bool := rdS (t, false) 3
def oKind (t : List UInt8) : Nat := numL (rdT (oS1 t) 1)
def oS2 (t : List UInt8) : List UInt8 × Bool := rdS (oS1 t) 1
def oSet (t : List UInt8) : Nat := numL (rdT (oS2 t) 8)
def oS3 (t : List UInt8) : List UInt8 × Bool := rdS (oS2 t) 8
def oLen (t : List UInt8) : Nat := numL (rdT (oS3 t) 2)
def oS4 (t : List UInt8) : List UInt8 × Bool := rdS (oS3 t) 2
def oBody (t : List UInt8) : List UInt8 := rdT (oS4 t) (oLen t)
def oS5 (t : List UInt8) : List UInt8 × Bool := rdS (oS4 t) (oLen t)
def oAhead (t : List UInt8) : List UInt8 := t.take (t.length - (oS5 t).1.length)
def oHash (t : List UInt8) : Nat := numL (rdT (oS5 t) 8)
def oS6 (t : List UInt8) : List UInt8 × Bool := rdS (oS5 t) 8
def isOpen (t : List UInt8) : Bool := (rdT (t, false) 3 == [83, 65, 76]) && !(oS6 t).2 && (oHash t == hashL (oAhead t))
def isRight0 (s : List UInt8) : Bool := decide (22 ≤ s.length) && (s.take 3 == [83, 65, 76]) && decide (22 + bodyN s ≤ s.length) && (hashL (s.take (14 + bodyN s)) == numL ((s.drop (14 + bodyN s)).take 8))
theorem isRight_eq (s : List UInt8) : isRight s = (isRight0 s && kindL (s.getD 3 0)) := by
 unfold isRight isRight0
 cases decide (22 ≤ s.length) <;> cases s.take 3 == [83, 65, 76] <;> cases kindL (s.getD 3 0) <;> simp
theorem o_ok {t : List UInt8} (h : 14 ≤ t.length) (h2 : 14 + bodyN t ≤ t.length) : oKind t = (t.getD 3 0).toNat ∧ oSet t = numL ((t.drop 4).take 8) ∧ oLen t = bodyN t ∧ oBody t = (t.drop 14).take (bodyN t) ∧ oS5 t = (t.drop (14 + bodyN t), false) ∧ oAhead t = t.take (14 + bodyN t) := by
 have a1 : oS1 t = (t.drop 3, false) := rdS_ok (by simp; omega)
 have a2 : oKind t = (t.getD 3 0).toNat := by unfold oKind; rw [a1, rdT_ok (by simp; omega), take_one t 3 (by omega), numL_one]
 have a3 : oS2 t = (t.drop 4, false) := by unfold oS2; rw [a1, rdS_ok (by simp; omega), List.drop_drop]
 have a4 : oSet t = numL ((t.drop 4).take 8) := by unfold oSet; rw [a3, rdT_ok (by simp; omega)]
 have a5 : oS3 t = (t.drop 12, false) := by unfold oS3; rw [a3, rdS_ok (by simp; omega), List.drop_drop]
 have a6 : oLen t = bodyN t := by unfold oLen bodyN; rw [a5, rdT_ok (by simp; omega)]
 have a7 : oS4 t = (t.drop 14, false) := by unfold oS4; rw [a5, rdS_ok (by simp; omega), List.drop_drop]
 have a8 : oBody t = (t.drop 14).take (bodyN t) := by unfold oBody; rw [a7, a6, rdT_ok (by simp; omega)]
 have a9 : oS5 t = (t.drop (14 + bodyN t), false) := by unfold oS5; rw [a7, a6, rdS_ok (by simp; omega), List.drop_drop]
 refine ⟨a2, a4, a6, a8, a9, ?_⟩
 unfold oAhead
 rw [a9]
 simp only [List.length_drop]
 rw [show t.length - (t.length - (14 + bodyN t)) = 14 + bodyN t from by omega]
theorem oS6_short {t : List UInt8} (h : t.length < 22 ∨ t.length < 22 + bodyN t) : (oS6 t).2 = true := by
 by_cases h14 : 14 ≤ t.length ∧ 14 + bodyN t ≤ t.length
 ·obtain ⟨_, _, _, _, a5, _⟩ := o_ok h14.1 h14.2
  unfold oS6
  rw [a5, rdS_no (by simp; omega)]
 ·unfold oS6
  apply rdS_short
  unfold oS5
  by_cases c : 14 ≤ t.length
  ·have a1 : oS1 t = (t.drop 3, false) := rdS_ok (by simp; omega)
   have a3 : oS2 t = (t.drop 4, false) := by unfold oS2; rw [a1, rdS_ok (by simp; omega), List.drop_drop]
   have a5 : oS3 t = (t.drop 12, false) := by unfold oS3; rw [a3, rdS_ok (by simp; omega), List.drop_drop]
   have a6 : oLen t = bodyN t := by unfold oLen bodyN; rw [a5, rdT_ok (by simp; omega)]
   have a7 : oS4 t = (t.drop 14, false) := by unfold oS4; rw [a5, rdS_ok (by simp; omega), List.drop_drop]
   rw [a7, a6, rdS_no (by simp; omega)]
  ·apply rdS_short
   unfold oS4
   by_cases c3 : 3 ≤ t.length
   ·have a1 : oS1 t = (t.drop 3, false) := rdS_ok (by simpa using c3)
    unfold oS3 oS2
    rw [a1]
    by_cases c4 : 4 ≤ t.length
    ·rw [rdS_ok (s := (t.drop 3, false)) (n := 1) (by simp; omega), List.drop_drop]
     by_cases c12 : 12 ≤ t.length
     ·rw [rdS_ok (n := 8) (by simp; omega), List.drop_drop, rdS_no (by simp; omega)]
     ·exact rdS_short (by rw [rdS_no (by simp; omega)]) _
    ·exact rdS_short (rdS_short (by rw [rdS_no (by simp; omega)]) _) _
   ·unfold oS3 oS2 oS1
    exact rdS_short (rdS_short (rdS_short (by rw [rdS_no (by simp; omega)]) _) _) _
theorem isOpen_eq (t : List UInt8) : isOpen t = isRight0 t := by
 by_cases h : 22 ≤ t.length ∧ 22 + bodyN t ≤ t.length
 ·obtain ⟨h1, h2⟩ := h
  obtain ⟨_, _, _, _, a5, a6⟩ := o_ok (t := t) (by omega) (by omega)
  unfold isOpen isRight0 oHash oS6
  rw [a5, a6, rdT_ok (s := (t, false)) (by simp; omega), rdS_ok (by simp; omega), rdT_ok (by simp; omega), decide_eq_true h1, decide_eq_true h2]
  simp only [Bool.not_false, Bool.and_true, Bool.true_and]
  rw [BEq.comm (a := numL _)]
 ·have hs := oS6_short (t := t) (by omega)
  unfold isOpen isRight0
  rw [hs]
  by_cases h1 : 22 ≤ t.length
  ·rw [decide_eq_false (by omega : ¬ 22 + bodyN t ≤ t.length)]; simp
  ·rw [decide_eq_false h1]; simp
theorem open_found {t : List UInt8} (h : isOpen t = true) : oKind t = (foundAt t).kind.toNat ∧ oSet t = (foundAt t).set ∧ oBody t = (foundAt t).body ∧ (oAhead t).length + 8 = 22 + bodyN t ∧ 22 + bodyN t ≤ t.length := by
 rw [isOpen_eq] at h
 unfold isRight0 at h
 simp only [Bool.and_eq_true, decide_eq_true_eq] at h
 obtain ⟨⟨⟨h1, _⟩, h2⟩, _⟩ := h
 obtain ⟨a1, a2, _, a4, _, a6⟩ := o_ok (t := t) (by omega) (by omega)
 refine ⟨a1, a2, a4, ?_, h2⟩
 rw [a6, List.length_take]
 omega
end Go.Proofs.YtonjphollmdicaaGreatDoor
