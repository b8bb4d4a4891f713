import Derived.Test.YtonjphollmdicaaGreatDoorB01
import Derived.Test.YtonjphollmdicaaGreatDoorB02
import Derived.Test.YtonjphollmdicaaGreatDoorB17
import Derived.Test.YtonjphollmdicaaGreatDoorB18
set_option maxRecDepth 100000
set_option maxHeartbeats 4000000
set_option linter.unusedSimpArgs false
namespace Go.Proofs.YtonjphollmdicaaGreatDoor
open Go.ChangeShapes Go.WideShapes Go.ChangeAt Go.RowKit
theorem Kd (b : List UInt8) (hb : b.length ≤ 1000000) (w : World) :
  Calls Tryz.prog 188 #[.string (str b)] w fun e w' => ∃ v, e = .returned (.tuple #[.agg #[.int .i64 (Al b : Int), v], .bool (Cn b)]) ∧ w'.ownsRow w.heap.size 63 1 v (Ax b).length (Cz (Ax b)) ∧ Below w.heap.size w w' := by
 have N1 := Aa (fun W h => Bx (w.heap.size + 1) (b, false) 2 hb (by omega) W h)
 have hl1 : (rdS (b, false) 2).1.length ≤ 1000000 := Nat.le_trans (Cj _ _) hb
 have N2 := Aa (fun W h => Bx (w.heap.size + 1) (rdS (b, false) 2) 1 hl1 (by omega) W h)
 have hl2 : (EU b).1.length ≤ 1000000 := Nat.le_trans (Cj _ _) hl1
 have N3 := Aa (fun W h => Im (w.heap.size + 1) (EU b) hl2 W h)
 have hsz : Al b < 65536 := CH _ (Dl _ _)
 have hct : CR b < 65536 := CH _ (Nat.le_trans (Dl _ _) (by omega))
 have hmr : Cn b = (!(IZ (EU b)).2 && Ay (Al b : Int) && decide (1 ≤ CR b) && decide (CR b ≤ 6) && decide (CR b = (Ax b).length)) := rfl
 have hfl : (Ax b).length ≤ 1000000 := by unfold Ax; rw [Dp]; omega
 change Hid (∀ W, RdAt _ _ W → Calls Tryz.prog 140 _ W fun e w' => e = .returned (.int .u64 ((Al b : Nat) : Int)) ∧ _) at N1
 change Hid (∀ W, RdAt _ _ W → Calls Tryz.prog 140 _ W fun e w' => e = .returned (.int .u64 ((CR b : Nat) : Int)) ∧ RdAt _ (EU b) w' ∧ _) at N2
 change Hid (∀ W, RdAt _ _ W → Calls Tryz.prog 194 _ W fun e w' => ∃ v, e = .returned v ∧ w'.ownsRow W.heap.size 63 1 v (Ax b).length (Cz (Ax b)) ∧ _) at N3
 have HMR := Aa hmr
 obtain ⟨sz, hsze⟩ : ∃ x, x = Al b := ⟨_, rfl⟩
 obtain ⟨ct, hcte⟩ : ∃ x, x = CR b := ⟨_, rfl⟩
 obtain ⟨fl, hfle⟩ : ∃ x, x = Ax b := ⟨_, rfl⟩
 obtain ⟨st, hste⟩ : ∃ x, x = EU b := ⟨_, rfl⟩
 obtain ⟨s1, hs1⟩ : ∃ x, x = rdS (b, false) 2 := ⟨_, rfl⟩
 obtain ⟨R, hRe⟩ : ∃ x, x = Cn b := ⟨_, rfl⟩
 rw [← hsze] at N1 hsz HMR ⊢
 rw [← hcte] at N2 hct HMR
 rw [← hfle] at N3 hfl HMR ⊢
 rw [← hste] at N2 N3 HMR
 rw [← hs1] at N1 N2
 rw [← hRe] at HMR ⊢
 clear hsze hcte hfle hste hs1 hRe hmr hl1 hl2
 have wsz : IntKind.i64.wrap (sz : Int) = (sz : Int) := by rw [IntKind.wrap_i64]; omega
 have wct : IntKind.i64.wrap (ct : Int) = (ct : Int) := by rw [IntKind.wrap_i64]; omega
 clear hsz hct
 have A1 : Hid (RdAt (w.heap.size + 1) (b, false) ((w.alloc (Obj.cells #[Value.int IntKind.i64 0, Value.slice none 0 0] 128)).alloc (Obj.cells #[Value.string (str b), Value.bool false] 226))) := Aa ⟨by simp, by simp, by simp, by simp⟩
 go_enter Tryz.func188, Tryz.ntmps188
 go_wp2_with fail
 refine (N1.out _ A1.out).mono ?_
 rintro e w1 ⟨rfl, hr1, ht1⟩
 have hsz1 : w.heap.size + 2 ≤ w1.heap.size := by have := ht1.size; simpa using this
 have hb1 : Below w.heap.size w w1 := Below.trans ((((Below.refl w.heap.size w).alloc (Nat.le_refl _) _).alloc (by simp) _)) (ht1.below (by simp; omega) (by simp))
 have k1 : Blk w1 w.heap.size [.int .i64 0, .slice none 0 0] := ((Blk.new w #[.int .i64 0, .slice none 0 0] 128).alloc _).touch ht1 (by simp)
 have A2 : Hid (RdAt (w.heap.size + 1) s1 (w1.alloc (Obj.cells #[Value.int IntKind.i64 (sz : Int), Value.slice none 0 0] 128))) := Aa (hr1.touch ((Touch.refl [] _).alloc _) (by simp))
 have K2 := Aa (k1.alloc (Obj.cells #[Value.int IntKind.i64 (sz : Int), Value.slice none 0 0] 128))
 have G2 := Aa (Blk.new w1 #[Value.int IntKind.i64 (sz : Int), Value.slice none 0 0] 128)
 have B2 := Aa (hb1.alloc (by omega) (Obj.cells #[Value.int IntKind.i64 (sz : Int), Value.slice none 0 0] 128))
 clear ht1 A1 N1 hr1 hb1 k1
 go_wp2_with fail
 refine (N2.out _ A2.out).mono ?_
 rintro e w2 ⟨rfl, hr2, ht2⟩
 go_wp2_with fail
 refine (N3.out _ hr2).mono ?_
 rintro e w3 ⟨v, rfl, hown, hr3, ht3⟩
 obtain ⟨av, cv, rfl, -⟩ := Aw hown
 obtain ⟨g, hg⟩ : ∃ g, g = w1.heap.size := ⟨_, rfl⟩
 rw [← hg] at G2 hsz1 ⊢
 have hgs : (w1.alloc (Obj.cells #[Value.int IntKind.i64 (sz : Int), Value.slice none 0 0] 128)).heap.size = g + 1 := by simp [hg]
 have ht4 := ht2.trans ht3
 have kq := K2.out.touch ht4 (by simp)
 have kg := G2.out.touch ht4 (by simp; omega)
 have hb3 : Below w.heap.size w w3 := B2.out.trans (ht4.below (by rw [hgs]; omega) (by simp))
 have ho3 : w3.ownsRow w.heap.size 63 1 (.slice av fl.length cv) fl.length (Cz fl) := Ad (by have := ht2.size; rw [hgs] at this; omega) hown
 have hvg : (Value.slice av fl.length cv).ownBlock ≠ some g := fun e => by
  have h1 := (hown.lt g e).1
  have h2 := ht2.size
  rw [hgs] at h2
  omega
 have hvq : (Value.slice av fl.length cv).ownBlock ≠ some w.heap.size := fun e => by
  have h1 := (hown.lt _ e).1
  have h2 := ht2.size
  rw [hgs] at h2
  omega
 obtain ⟨r0, r1, _, _⟩ := hr3
 have B3 := Aa hb3
 have O3 := Aa ho3
 have g0 := (kg 0 _ rfl).1
 have g1 := (kg 1 _ rfl).1
 have y1 := (kg 1 _ rfl).2
 have q0 := (kq 0 _ rfl).1
 have q1 := (kq 1 _ rfl).1
 have z0 := (kq 0 _ rfl).2
 have z1 := (kq 1 _ rfl).2
 have hgw : g ≠ w.heap.size := by omega
 have hgw' : g ≠ w.heap.size + 1 := by omega
 have HVG := Aa hvg
 have HVQ := Aa hvq
 clear hown ht2 ht3 ht4 hr2 hb3 ho3 A2 K2 G2 B2 N2 N3 hgs hg hvg hvq
 go_wp2_with fail
 obtain ⟨sh, hsh⟩ : ∃ x, x = (IZ st).2 := ⟨_, rfl⟩
 rw [← hsh] at HMR r1
 clear hsh
 have r1' : (w3.setCell { block := g, off := 1 } (Value.slice av fl.length cv)).cell? ⟨w.heap.size + 1, 1, none⟩ = some (.bool sh) := by rw [World.cell?_setCell_other _ _ _ _ (by simp)]; exact r1
 have g0' : (w3.setCell { block := g, off := 1 } (Value.slice av fl.length cv)).cell? ⟨g, 0, none⟩ = some (.int .i64 (sz : Int)) := by rw [World.cell?_setCell_other _ _ _ _ (by simp)]; exact g0
 have g1' : (w3.setCell { block := g, off := 1 } (Value.slice av fl.length cv)).cell? ⟨g, 1, none⟩ = some (.slice av fl.length cv) := World.cell?_setCell_same _ _ _ g1
 have kq' := kq.set_other (a := ⟨g, 1, none⟩) hgw (.slice av fl.length cv)
 have B4 := Aa (B3.out.setCell (show w.heap.size ≤ (⟨g, 1, none⟩ : Addr).block from by simp; omega) (.slice av fl.length cv))
 have O4 : Hid ((w3.setCell { block := g, off := 1 } (Value.slice av fl.length cv)).ownsRow w.heap.size 63 1 (.slice av fl.length cv) fl.length (Cz fl)) := Aa (AQ O3.out ((Touch.refl [g] _).setCell (.inl (by simp)) _) (fun k hk => by
  simp only [List.mem_singleton]
  rintro rfl
  exact HVG.out hk))
 obtain ⟨W, hW⟩ : ∃ W, W = w3.setCell { block := g, off := 1 } (Value.slice av fl.length cv) := ⟨_, rfl⟩
 rw [← hW] at r1' g0' g1' kq' B4 O4 ⊢
 have q0' := (kq' 0 _ rfl).1
 have q1' := (kq' 1 _ rfl).1
 have z0' := (kq' 0 _ rfl).2
 have z1' := (kq' 1 _ rfl).2
 have hfin : ∀ X : World, X = (W.drew.setCell ⟨w.heap.size, 0, none⟩ (.int .i64 (sz : Int))).setCell ⟨w.heap.size, 1, none⟩ (.slice av fl.length cv) → X.ownsRow w.heap.size 63 1 (.slice av fl.length cv) fl.length (Cz fl) ∧ Below w.heap.size w X := by
  rintro X rfl
  refine ⟨AQ O4.out (((Touch.refl [w.heap.size] _).drew.setCell (.inl (by simp)) _).setCell (.inl (by simp)) _) (fun k hk => ?_), ((B4.out.drew).setCell (Nat.le_refl _) _).setCell (Nat.le_refl _) _⟩
  simp only [List.mem_singleton]
  rintro rfl
  exact HVQ.out hk
 have HFIN := Aa hfin
 have S0 : W.drew.cell? ⟨w.heap.size + 1, 1, none⟩ = some (.bool sh) ∧ W.drew.cell? ⟨g, 0, none⟩ = some (.int .i64 (sz : Int)) ∧ W.drew.cell? ⟨g, 1, none⟩ = some (.slice av fl.length cv) := ⟨r1', g0', g1'⟩
 have S1 : ((W.drew.setCell ⟨w.heap.size, 0, none⟩ (.int .i64 (sz : Int))).setCell ⟨w.heap.size, 1, none⟩ (.slice av fl.length cv)).cell? ⟨w.heap.size + 1, 1, none⟩ = some (.bool sh) ∧ ((W.drew.setCell ⟨w.heap.size, 0, none⟩ (.int .i64 (sz : Int))).setCell ⟨w.heap.size, 1, none⟩ (.slice av fl.length cv)).cell? ⟨g, 0, none⟩ = some (.int .i64 (sz : Int)) ∧ ((W.drew.setCell ⟨w.heap.size, 0, none⟩ (.int .i64 (sz : Int))).setCell ⟨w.heap.size, 1, none⟩ (.slice av fl.length cv)).cell? ⟨g, 1, none⟩ = some (.slice av fl.length cv) := by
  refine ⟨?_, ?_, ?_⟩
  ·rw [World.cell?_setCell_other _ _ _ _ (by simp), World.cell?_setCell_other _ _ _ _ (by simp)]; exact r1'
  ·rw [World.cell?_setCell_other _ _ _ _ (by simp [Ne.symm hgw]), World.cell?_setCell_other _ _ _ _ (by simp [Ne.symm hgw])]; exact g0'
  ·rw [World.cell?_setCell_other _ _ _ _ (by simp [Ne.symm hgw]), World.cell?_setCell_other _ _ _ _ (by simp [Ne.symm hgw])]; exact g1'
 have S1' : (((W.setCell ⟨w.heap.size, 0, none⟩ (.int .i64 (sz : Int))).setCell ⟨w.heap.size, 1, none⟩ (.slice av fl.length cv)).drew).cell? ⟨w.heap.size + 1, 1, none⟩ = some (.bool sh) ∧ (((W.setCell ⟨w.heap.size, 0, none⟩ (.int .i64 (sz : Int))).setCell ⟨w.heap.size, 1, none⟩ (.slice av fl.length cv)).drew).cell? ⟨g, 0, none⟩ = some (.int .i64 (sz : Int)) ∧ (((W.setCell ⟨w.heap.size, 0, none⟩ (.int .i64 (sz : Int))).setCell ⟨w.heap.size, 1, none⟩ (.slice av fl.length cv)).drew).cell? ⟨g, 1, none⟩ = some (.slice av fl.length cv) := S1
 clear hW r0 r1 g0 g1 y1 q0 q1 z0 z1 kq kg kq' B3 O3 B4 O4 HVG HVQ hfin
 cases sh with
 | true =>
  have HR : Hid (R = false) := Aa (by rw [HMR.out]; rfl)
  clear HMR
  refine wp_region_held_drew (S := fun X => X.cell? ⟨w.heap.size + 1, 1, none⟩ = some (.bool true) ∧ X.cell? ⟨g, 0, none⟩ = some (.int .i64 (sz : Int)) ∧ X.cell? ⟨g, 1, none⟩ = some (.slice av fl.length cv)) (by kernel_rfl) S0 (fun hHeld => ?_)
  refine tY 0 16 ?_
  refine tY 1 17 ?_
  refine tY 2 18 ?_
  refine tY 3 19 ?_
  refine tY 4 20 ?_
  refine tN 5 21 ?_
  refine tN 6 22 ?_
  refine tN 7 23 ?_
  refine tY 8 24 ?_
  refine tY 9 25 ?_
  refine tN 10 26 ?_
  refine tN 11 27 ?_
  refine tY 12 28 ?_
  refine tY 13 29 ?_
  refine tN 14 30 ?_
  refine tN 15 31 ?_
  refine tY 16 32 ?_
  refine tY 17 33 ?_
  refine tN 18 34 ?_
  refine tN 19 35 ?_
  refine tN 20 36 ?_
  refine tN 21 37 ?_
  refine tN 22 38 ?_
  refine tY 23 39 ?_
  refine Ah (i := 24) (by kernel_rfl) (fun K o ho hK => ?_)
  simp only [gA, gB, gC, gE] at ho
  subst ho
  go_simp
  refine hK.out _ _ ?_ (fun hHeld => ?_)
  focus (first | exact S1 | exact S1')
  clear hK K
  try simp only [Act.put, sA, sB, sC]
  refine tY 25 3 ?_
  refine wpAnyH_done (by kernel_rfl) ?_ _
  go_wp2_with fail
  refine bodyPost_ret (v := .tuple #[.agg #[.int .i64 (sz : Int), .slice av fl.length cv], .bool false]) (by simp [results, Tryz.results188, go_sem, q0', q1']) rfl ?_
  exact ⟨_, by rw [HR.out], (HFIN.out _ rfl).1, (HFIN.out _ rfl).2⟩
 | false =>
  have hcall := fun W => Bm (sz : Int) W
  by_cases b1 : Ay (sz : Int) = true
  ·rw [b1] at hcall
   have HC := Aa hcall
   clear hcall
   by_cases b2 : 1 ≤ ct
   ·have e2 : (1 : Int) ≤ (ct : Int) := by omega
    by_cases b3 : ct ≤ 6
    ·have e3 : (ct : Int) ≤ 6 := by omega
     by_cases b4 : ct = fl.length
     ·have e4 : ((ct : Int) == (fl.length : Int)) = true := by simp [b4]
      have HR : Hid (R = true) := Aa (by rw [HMR.out, b1, decide_eq_true b2, decide_eq_true b3, decide_eq_true b4]; rfl)
      clear HMR b4
      refine wp_region_held_drew (S := fun X => X.cell? ⟨w.heap.size + 1, 1, none⟩ = some (.bool false) ∧ X.cell? ⟨g, 0, none⟩ = some (.int .i64 (sz : Int)) ∧ X.cell? ⟨g, 1, none⟩ = some (.slice av fl.length cv)) (by kernel_rfl) S0 (fun hHeld => ?_)
      refine tY 0 16 ?_
      refine tY 1 17 ?_
      refine tY 2 18 ?_
      refine tY 3 19 ?_
      refine tY 4 20 ?_
      refine tY 5 21 ?_
      refine tY 6 22 ?_
      refine Ah (i := 7) (by kernel_rfl) (fun K o ho hK => ?_)
      simp only [gA, gB, gC, gE] at ho
      subst ho
      go_simp
      refine (HC.out _).mono ?_
      rintro e w' ⟨rfl, rfl⟩
      refine hK.out _ _ ?_ (fun hHeld => ?_)
      focus (exact S0)
      clear hK K
      try simp only [Act.put, sA, sB, sC]
      refine tY 8 24 ?_
      refine tY 9 25 ?_
      refine tY 10 26 ?_
      refine tY 11 27 ?_
      refine tY 12 28 ?_
      refine tY 13 29 ?_
      refine tY 14 30 ?_
      refine tY 15 31 ?_
      refine tY 16 32 ?_
      refine tY 17 33 ?_
      refine tY 18 34 ?_
      refine tY 19 35 ?_
      refine tY 20 36 ?_
      refine tY 21 37 ?_
      refine tY 22 38 ?_
      refine tY 23 39 ?_
      refine Ah (i := 24) (by kernel_rfl) (fun K o ho hK => ?_)
      simp only [gA, gB, gC, gE] at ho
      subst ho
      go_simp
      refine hK.out _ _ ?_ (fun hHeld => ?_)
      focus (first | exact S1 | exact S1')
      clear hK K
      try simp only [Act.put, sA, sB, sC]
      refine tY 25 3 ?_
      refine wpAnyH_done (by kernel_rfl) ?_ _
      go_wp2_with fail
      refine bodyPost_ret (v := .tuple #[.agg #[.int .i64 (sz : Int), .slice av fl.length cv], .bool true]) (by simp [results, Tryz.results188, go_sem, q0', q1']) rfl ?_
      exact ⟨_, by rw [HR.out], (HFIN.out _ rfl).1, (HFIN.out _ rfl).2⟩
     ·have e4 : ((ct : Int) == (fl.length : Int)) = false := by simp; omega
      have HR : Hid (R = false) := Aa (by rw [HMR.out]; simp [b4])
      clear HMR
      refine wp_region_held_drew (S := fun X => X.cell? ⟨w.heap.size + 1, 1, none⟩ = some (.bool false) ∧ X.cell? ⟨g, 0, none⟩ = some (.int .i64 (sz : Int)) ∧ X.cell? ⟨g, 1, none⟩ = some (.slice av fl.length cv)) (by kernel_rfl) S0 (fun hHeld => ?_)
      refine tY 0 16 ?_
      refine tY 1 17 ?_
      refine tY 2 18 ?_
      refine tY 3 19 ?_
      refine tY 4 20 ?_
      refine tY 5 21 ?_
      refine tY 6 22 ?_
      refine Ah (i := 7) (by kernel_rfl) (fun K o ho hK => ?_)
      simp only [gA, gB, gC, gE] at ho
      subst ho
      go_simp
      refine (HC.out _).mono ?_
      rintro e w' ⟨rfl, rfl⟩
      refine hK.out _ _ ?_ (fun hHeld => ?_)
      focus (exact S0)
      clear hK K
      try simp only [Act.put, sA, sB, sC]
      refine tY 8 24 ?_
      refine tY 9 25 ?_
      refine tY 10 26 ?_
      refine tY 11 27 ?_
      refine tY 12 28 ?_
      refine tY 13 29 ?_
      refine tY 14 30 ?_
      refine tY 15 31 ?_
      refine tY 16 32 ?_
      refine tY 17 33 ?_
      refine tY 18 34 ?_
      refine tY 19 35 ?_
      refine tY 20 36 ?_
      refine tY 21 37 ?_
      refine tY 22 38 ?_
      refine tY 23 39 ?_
      refine Ah (i := 24) (by kernel_rfl) (fun K o ho hK => ?_)
      simp only [gA, gB, gC, gE] at ho
      subst ho
      go_simp
      refine hK.out _ _ ?_ (fun hHeld => ?_)
      focus (first | exact S1 | exact S1')
      clear hK K
      try simp only [Act.put, sA, sB, sC]
      refine tY 25 3 ?_
      refine wpAnyH_done (by kernel_rfl) ?_ _
      go_wp2_with fail
      refine bodyPost_ret (v := .tuple #[.agg #[.int .i64 (sz : Int), .slice av fl.length cv], .bool false]) (by simp [results, Tryz.results188, go_sem, q0', q1']) rfl ?_
      exact ⟨_, by rw [HR.out], (HFIN.out _ rfl).1, (HFIN.out _ rfl).2⟩
    ·have e3 : ¬ ((ct : Int) ≤ 6) := by omega
     have HR : Hid (R = false) := Aa (by rw [HMR.out]; simp [b3])
     clear HMR
     refine wp_region_held_drew (S := fun X => X.cell? ⟨w.heap.size + 1, 1, none⟩ = some (.bool false) ∧ X.cell? ⟨g, 0, none⟩ = some (.int .i64 (sz : Int)) ∧ X.cell? ⟨g, 1, none⟩ = some (.slice av fl.length cv)) (by kernel_rfl) S0 (fun hHeld => ?_)
     refine tY 0 16 ?_
     refine tY 1 17 ?_
     refine tY 2 18 ?_
     refine tY 3 19 ?_
     refine tY 4 20 ?_
     refine tY 5 21 ?_
     refine tY 6 22 ?_
     refine Ah (i := 7) (by kernel_rfl) (fun K o ho hK => ?_)
     simp only [gA, gB, gC, gE] at ho
     subst ho
     go_simp
     refine (HC.out _).mono ?_
     rintro e w' ⟨rfl, rfl⟩
     refine hK.out _ _ ?_ (fun hHeld => ?_)
     focus (exact S0)
     clear hK K
     try simp only [Act.put, sA, sB, sC]
     refine tY 8 24 ?_
     refine tY 9 25 ?_
     refine tY 10 26 ?_
     refine tY 11 27 ?_
     refine tY 12 28 ?_
     refine tY 13 29 ?_
     refine tY 14 30 ?_
     refine tY 15 31 ?_
     refine tY 16 32 ?_
     refine tY 17 33 ?_
     refine tN 18 34 ?_
     refine tN 19 35 ?_
     refine tN 20 36 ?_
     refine tN 21 37 ?_
     refine tN 22 38 ?_
     refine tY 23 39 ?_
     refine Ah (i := 24) (by kernel_rfl) (fun K o ho hK => ?_)
     simp only [gA, gB, gC, gE] at ho
     subst ho
     go_simp
     refine hK.out _ _ ?_ (fun hHeld => ?_)
     focus (first | exact S1 | exact S1')
     clear hK K
     try simp only [Act.put, sA, sB, sC]
     refine tY 25 3 ?_
     refine wpAnyH_done (by kernel_rfl) ?_ _
     go_wp2_with fail
     refine bodyPost_ret (v := .tuple #[.agg #[.int .i64 (sz : Int), .slice av fl.length cv], .bool false]) (by simp [results, Tryz.results188, go_sem, q0', q1']) rfl ?_
     exact ⟨_, by rw [HR.out], (HFIN.out _ rfl).1, (HFIN.out _ rfl).2⟩
   ·have e2 : ¬ ((1 : Int) ≤ (ct : Int)) := by omega
    have HR : Hid (R = false) := Aa (by rw [HMR.out]; simp [b2])
    clear HMR
    refine wp_region_held_drew (S := fun X => X.cell? ⟨w.heap.size + 1, 1, none⟩ = some (.bool false) ∧ X.cell? ⟨g, 0, none⟩ = some (.int .i64 (sz : Int)) ∧ X.cell? ⟨g, 1, none⟩ = some (.slice av fl.length cv)) (by kernel_rfl) S0 (fun hHeld => ?_)
    refine tY 0 16 ?_
    refine tY 1 17 ?_
    refine tY 2 18 ?_
    refine tY 3 19 ?_
    refine tY 4 20 ?_
    refine tY 5 21 ?_
    refine tY 6 22 ?_
    refine Ah (i := 7) (by kernel_rfl) (fun K o ho hK => ?_)
    simp only [gA, gB, gC, gE] at ho
    subst ho
    go_simp
    refine (HC.out _).mono ?_
    rintro e w' ⟨rfl, rfl⟩
    refine hK.out _ _ ?_ (fun hHeld => ?_)
    focus (exact S0)
    clear hK K
    try simp only [Act.put, sA, sB, sC]
    refine tY 8 24 ?_
    refine tY 9 25 ?_
    refine tY 10 26 ?_
    refine tY 11 27 ?_
    refine tY 12 28 ?_
    refine tY 13 29 ?_
    refine tN 14 30 ?_
    refine tN 15 31 ?_
    refine tY 16 32 ?_
    refine tY 17 33 ?_
    refine tN 18 34 ?_
    refine tN 19 35 ?_
    refine tN 20 36 ?_
    refine tN 21 37 ?_
    refine tN 22 38 ?_
    refine tY 23 39 ?_
    refine Ah (i := 24) (by kernel_rfl) (fun K o ho hK => ?_)
    simp only [gA, gB, gC, gE] at ho
    subst ho
    go_simp
    refine hK.out _ _ ?_ (fun hHeld => ?_)
    focus (first | exact S1 | exact S1')
    clear hK K
    try simp only [Act.put, sA, sB, sC]
    refine tY 25 3 ?_
    refine wpAnyH_done (by kernel_rfl) ?_ _
    go_wp2_with fail
    refine bodyPost_ret (v := .tuple #[.agg #[.int .i64 (sz : Int), .slice av fl.length cv], .bool false]) (by simp [results, Tryz.results188, go_sem, q0', q1']) rfl ?_
    exact ⟨_, by rw [HR.out], (HFIN.out _ rfl).1, (HFIN.out _ rfl).2⟩
  ·have b1' : Ay (sz : Int) = false := by simpa using b1
   rw [b1'] at hcall
   have HC := Aa hcall
   clear hcall
   have HR : Hid (R = false) := Aa (by rw [HMR.out]; simp [b1'])
   clear HMR
   refine wp_region_held_drew (S := fun X => X.cell? ⟨w.heap.size + 1, 1, none⟩ = some (.bool false) ∧ X.cell? ⟨g, 0, none⟩ = some (.int .i64 (sz : Int)) ∧ X.cell? ⟨g, 1, none⟩ = some (.slice av fl.length cv)) (by kernel_rfl) S0 (fun hHeld => ?_)
   refine tY 0 16 ?_
   refine tY 1 17 ?_
   refine tY 2 18 ?_
   refine tY 3 19 ?_
   refine tY 4 20 ?_
   refine tY 5 21 ?_
   refine tY 6 22 ?_
   refine Ah (i := 7) (by kernel_rfl) (fun K o ho hK => ?_)
   simp only [gA, gB, gC, gE] at ho
   subst ho
   go_simp
   refine (HC.out _).mono ?_
   rintro e w' ⟨rfl, rfl⟩
   refine hK.out _ _ ?_ (fun hHeld => ?_)
   focus (exact S0)
   clear hK K
   try simp only [Act.put, sA, sB, sC]
   refine tY 8 24 ?_
   refine tY 9 25 ?_
   refine tN 10 26 ?_
   refine tN 11 27 ?_
   refine tY 12 28 ?_
   refine tY 13 29 ?_
   refine tN 14 30 ?_
   refine tN 15 31 ?_
   refine tY 16 32 ?_
   refine tY 17 33 ?_
   refine tN 18 34 ?_
   refine tN 19 35 ?_
   refine tN 20 36 ?_
   refine tN 21 37 ?_
   refine tN 22 38 ?_
   refine tY 23 39 ?_
   refine Ah (i := 24) (by kernel_rfl) (fun K o ho hK => ?_)
   simp only [gA, gB, gC, gE] at ho
   subst ho
   go_simp
   refine hK.out _ _ ?_ (fun hHeld => ?_)
   focus (first | exact S1 | exact S1')
   clear hK K
   try simp only [Act.put, sA, sB, sC]
   refine tY 25 3 ?_
   refine wpAnyH_done (by kernel_rfl) ?_ _
   go_wp2_with fail
   refine bodyPost_ret (v := .tuple #[.agg #[.int .i64 (sz : Int), .slice av fl.length cv], .bool false]) (by simp [results, Tryz.results188, go_sem, q0', q1']) rfl ?_
   exact ⟨_, by rw [HR.out], (HFIN.out _ rfl).1, (HFIN.out _ rfl).2⟩
end Go.Proofs.YtonjphollmdicaaGreatDoor
