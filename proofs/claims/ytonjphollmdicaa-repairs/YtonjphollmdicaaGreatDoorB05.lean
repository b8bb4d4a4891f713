import Derived.Test.YtonjphollmdicaaGreatDoorB02
import Derived.Test.YtonjphollmdicaaGreatDoorB03
import Derived.Test.YtonjphollmdicaaGreatDoorB04
namespace Go.Proofs.YtonjphollmdicaaGreatDoor
open Go.ChangeShapes Go.WideShapes Go.ChangeAt Go.RowKit
set_option linter.unusedSimpArgs false in
set_option maxRecDepth 100000 in
set_option maxHeartbeats 1000000 in
theorem ReadMain_walk (b : List UInt8) (hb : b.length ≤ 1000000) (w : World) :
  Calls Tryz.prog 188 #[.string (str b)] w fun e w' => ∃ v, e = .returned (.tuple #[.agg #[.int .i64 (mainSize b : Int), v], .bool (mainRight b)]) ∧ w'.ownsRow w.heap.size 63 1 v (mainFiles b).length (u64V (mainFiles b)) ∧ Below w.heap.size w w' := by
 have N1 := hid_of (fun W h => number_walk (w.heap.size + 1) (b, false) 2 hb (by omega) W h)
 have hl1 : (rdS (b, false) 2).1.length ≤ 1000000 := Nat.le_trans (rdS_len _ _) hb
 have N2 := hid_of (fun W h => number_walk (w.heap.size + 1) (rdS (b, false) 2) 1 hl1 (by omega) W h)
 have hl2 : (mainSt b).1.length ≤ 1000000 := Nat.le_trans (rdS_len _ _) hl1
 have N3 := hid_of (fun W h => hashes_walk (w.heap.size + 1) (mainSt b) hl2 W h)
 have hsz : mainSize b < 65536 := numL_two _ (rdT_len _ _)
 have hct : mainCount b < 65536 := numL_two _ (Nat.le_trans (rdT_len _ _) (by omega))
 have hmr : mainRight b = (!(hshS (mainSt b)).2 && sliceSize (mainSize b : Int) && decide (1 ≤ mainCount b) && decide (mainCount b ≤ 6) && decide (mainCount b = (mainFiles b).length)) := rfl
 have hfl : (mainFiles b).length ≤ 1000000 := by unfold mainFiles; rw [hshL_length]; omega
 change Hid (∀ W, RdAt _ _ W → Calls Tryz.prog 140 _ W fun e w' => e = .returned (.int .u64 ((mainSize b : Nat) : Int)) ∧ _) at N1
 change Hid (∀ W, RdAt _ _ W → Calls Tryz.prog 140 _ W fun e w' => e = .returned (.int .u64 ((mainCount b : Nat) : Int)) ∧ RdAt _ (mainSt b) w' ∧ _) at N2
 change Hid (∀ W, RdAt _ _ W → Calls Tryz.prog 194 _ W fun e w' => ∃ v, e = .returned v ∧ w'.ownsRow W.heap.size 63 1 v (mainFiles b).length (u64V (mainFiles b)) ∧ _) at N3
 have HMR := hid_of hmr
 obtain ⟨sz, hsze⟩ : ∃ x, x = mainSize b := ⟨_, rfl⟩
 obtain ⟨ct, hcte⟩ : ∃ x, x = mainCount b := ⟨_, rfl⟩
 obtain ⟨fl, hfle⟩ : ∃ x, x = mainFiles b := ⟨_, rfl⟩
 obtain ⟨st, hste⟩ : ∃ x, x = mainSt b := ⟨_, rfl⟩
 obtain ⟨s1, hs1⟩ : ∃ x, x = rdS (b, false) 2 := ⟨_, rfl⟩
 obtain ⟨R, hRe⟩ : ∃ x, x = mainRight b := ⟨_, rfl⟩
 rw [← hsze] at N1 hsz HMR ⊢
 rw [← hcte] at N2 hct HMR
 rw [← hfle] at N3 hfl HMR ⊢
 rw [← hste] at N2 N3 HMR
 rw [← hs1] at N1 N2
 rw [← hRe] at HMR ⊢
 clear hsze hcte hfle hste hs1 hRe hmr hl1 hl2
 have wsz : IntKind.i64.wrap (sz : Int) = (sz : Int) := by rw [IntKind.wrap_i64]; omega
 have wct : IntKind.i64.wrap (ct : Int) = (ct : Int) := by rw [IntKind.wrap_i64]; omega
 clear hsz hct
 have A1 : Hid (RdAt (w.heap.size + 1) (b, false) ((w.alloc (Obj.cells #[Value.int IntKind.i64 0, Value.slice none 0 0] 128)).alloc (Obj.cells #[Value.string (str b), Value.bool false] 226))) := hid_of ⟨by simp, by simp, by simp, by simp⟩
 go_enter Tryz.func188, Tryz.ntmps188
 go_wp2_with fail
 refine (N1.out _ A1.out).mono ?_
 rintro e w1 ⟨rfl, hr1, ht1⟩
 have hsz1 : w.heap.size + 2 ≤ w1.heap.size := by have := ht1.size; simpa using this
 have hb1 : Below w.heap.size w w1 := Below.trans ((((Below.refl w.heap.size w).alloc (Nat.le_refl _) _).alloc (by simp) _)) (ht1.below (by simp; omega) (by simp))
 have k1 : Blk w1 w.heap.size [.int .i64 0, .slice none 0 0] := ((Blk.new w #[.int .i64 0, .slice none 0 0] 128).alloc _).touch ht1 (by simp)
 have A2 : Hid (RdAt (w.heap.size + 1) s1 (w1.alloc (Obj.cells #[Value.int IntKind.i64 (sz : Int), Value.slice none 0 0] 128))) := hid_of (hr1.touch ((Touch.refl [] _).alloc _) (by simp))
 have K2 := hid_of (k1.alloc (Obj.cells #[Value.int IntKind.i64 (sz : Int), Value.slice none 0 0] 128))
 have G2 := hid_of (Blk.new w1 #[Value.int IntKind.i64 (sz : Int), Value.slice none 0 0] 128)
 have B2 := hid_of (hb1.alloc (by omega) (Obj.cells #[Value.int IntKind.i64 (sz : Int), Value.slice none 0 0] 128))
 clear ht1 A1 N1 hr1 hb1 k1
 go_wp2_with fail
 refine (N2.out _ A2.out).mono ?_
 rintro e w2 ⟨rfl, hr2, ht2⟩
 go_wp2_with fail
 refine (N3.out _ hr2).mono ?_
 rintro e w3 ⟨v, rfl, hown, hr3, ht3⟩
 obtain ⟨av, cv, rfl, -⟩ := ownsRow_rd hown
 obtain ⟨g, hg⟩ : ∃ g, g = w1.heap.size := ⟨_, rfl⟩
 rw [← hg] at G2 hsz1 ⊢
 have hgs : (w1.alloc (Obj.cells #[Value.int IntKind.i64 (sz : Int), Value.slice none 0 0] 128)).heap.size = g + 1 := by simp [hg]
 have ht4 := ht2.trans ht3
 have kq := K2.out.touch ht4 (by simp)
 have kg := G2.out.touch ht4 (by simp; omega)
 have hb3 : Below w.heap.size w w3 := B2.out.trans (ht4.below (by rw [hgs]; omega) (by simp))
 have ho3 : w3.ownsRow w.heap.size 63 1 (.slice av fl.length cv) fl.length (u64V fl) := ownsRow_base (by have := ht2.size; rw [hgs] at this; omega) hown
 have hvg : (Value.slice av fl.length cv).ownBlock ≠ some g := fun e => by
  have h1 := (hown.lt g e).1
  have h2 := ht2.size
  rw [hgs] at h2
  omega
 have hvq : (Value.slice av fl.length cv).ownBlock ≠ some w.heap.size := fun e => by
  have h1 := (hown.lt _ e).1
  have h2 := ht2.size
  rw [hgs] at h2
  omega
 obtain ⟨r0, r1, _, _⟩ := hr3
 have B3 := hid_of hb3
 have O3 := hid_of ho3
 have g0 := (kg 0 _ rfl).1
 have g1 := (kg 1 _ rfl).1
 have y1 := (kg 1 _ rfl).2
 have q0 := (kq 0 _ rfl).1
 have q1 := (kq 1 _ rfl).1
 have z0 := (kq 0 _ rfl).2
 have z1 := (kq 1 _ rfl).2
 have hgw : g ≠ w.heap.size := by omega
 have hgw' : g ≠ w.heap.size + 1 := by omega
 have HVG := hid_of hvg
 have HVQ := hid_of hvq
 clear hown ht2 ht3 ht4 hr2 hb3 ho3 A2 K2 G2 B2 N2 N3 hgs hg hvg hvq
 go_wp2_with fail
 obtain ⟨sh, hsh⟩ : ∃ x, x = (hshS st).2 := ⟨_, rfl⟩
 rw [← hsh] at HMR r1
 clear hsh
 have r1' : (w3.setCell { block := g, off := 1 } (Value.slice av fl.length cv)).cell? ⟨w.heap.size + 1, 1, none⟩ = some (.bool sh) := by rw [World.cell?_setCell_other _ _ _ _ (by simp)]; exact r1
 have g0' : (w3.setCell { block := g, off := 1 } (Value.slice av fl.length cv)).cell? ⟨g, 0, none⟩ = some (.int .i64 (sz : Int)) := by rw [World.cell?_setCell_other _ _ _ _ (by simp)]; exact g0
 have g1' : (w3.setCell { block := g, off := 1 } (Value.slice av fl.length cv)).cell? ⟨g, 1, none⟩ = some (.slice av fl.length cv) := World.cell?_setCell_same _ _ _ g1
 have kq' := kq.set_other (a := ⟨g, 1, none⟩) hgw (.slice av fl.length cv)
 have B4 := hid_of (B3.out.setCell (show w.heap.size ≤ (⟨g, 1, none⟩ : Addr).block from by simp; omega) (.slice av fl.length cv))
 have O4 : Hid ((w3.setCell { block := g, off := 1 } (Value.slice av fl.length cv)).ownsRow w.heap.size 63 1 (.slice av fl.length cv) fl.length (u64V fl)) := hid_of (owns_touch' O3.out ((Touch.refl [g] _).setCell (.inl (by simp)) _) (fun k hk => by
  simp only [List.mem_singleton]
  rintro rfl
  exact HVG.out hk))
 obtain ⟨W, hW⟩ : ∃ W, W = w3.setCell { block := g, off := 1 } (Value.slice av fl.length cv) := ⟨_, rfl⟩
 rw [← hW] at r1' g0' g1' kq' B4 O4 ⊢
 have q0' := (kq' 0 _ rfl).1
 have q1' := (kq' 1 _ rfl).1
 have z0' := (kq' 0 _ rfl).2
 have z1' := (kq' 1 _ rfl).2
 have hfin : ∀ X : World, X = (W.drew.setCell ⟨w.heap.size, 0, none⟩ (.int .i64 (sz : Int))).setCell ⟨w.heap.size, 1, none⟩ (.slice av fl.length cv) → X.ownsRow w.heap.size 63 1 (.slice av fl.length cv) fl.length (u64V fl) ∧ Below w.heap.size w X := by
  rintro X rfl
  refine ⟨owns_touch' O4.out (((Touch.refl [w.heap.size] _).drew.setCell (.inl (by simp)) _).setCell (.inl (by simp)) _) (fun k hk => ?_), ((B4.out.drew).setCell (Nat.le_refl _) _).setCell (Nat.le_refl _) _⟩
  simp only [List.mem_singleton]
  rintro rfl
  exact HVQ.out hk
 have HFIN := hid_of hfin
 have S0 : W.drew.cell? ⟨w.heap.size + 1, 1, none⟩ = some (.bool sh) ∧ W.drew.cell? ⟨g, 0, none⟩ = some (.int .i64 (sz : Int)) ∧ W.drew.cell? ⟨g, 1, none⟩ = some (.slice av fl.length cv) := ⟨r1', g0', g1'⟩
 have S1 : ((W.drew.setCell ⟨w.heap.size, 0, none⟩ (.int .i64 (sz : Int))).setCell ⟨w.heap.size, 1, none⟩ (.slice av fl.length cv)).cell? ⟨w.heap.size + 1, 1, none⟩ = some (.bool sh) ∧ ((W.drew.setCell ⟨w.heap.size, 0, none⟩ (.int .i64 (sz : Int))).setCell ⟨w.heap.size, 1, none⟩ (.slice av fl.length cv)).cell? ⟨g, 0, none⟩ = some (.int .i64 (sz : Int)) ∧ ((W.drew.setCell ⟨w.heap.size, 0, none⟩ (.int .i64 (sz : Int))).setCell ⟨w.heap.size, 1, none⟩ (.slice av fl.length cv)).cell? ⟨g, 1, none⟩ = some (.slice av fl.length cv) := by
  refine ⟨?_, ?_, ?_⟩
  ·rw [World.cell?_setCell_other _ _ _ _ (by simp), World.cell?_setCell_other _ _ _ _ (by simp)]; exact r1'
  ·rw [World.cell?_setCell_other _ _ _ _ (by simp [Ne.symm hgw]), World.cell?_setCell_other _ _ _ _ (by simp [Ne.symm hgw])]; exact g0'
  ·rw [World.cell?_setCell_other _ _ _ _ (by simp [Ne.symm hgw]), World.cell?_setCell_other _ _ _ _ (by simp [Ne.symm hgw])]; exact g1'
 have S1' : (((W.setCell ⟨w.heap.size, 0, none⟩ (.int .i64 (sz : Int))).setCell ⟨w.heap.size, 1, none⟩ (.slice av fl.length cv)).drew).cell? ⟨w.heap.size + 1, 1, none⟩ = some (.bool sh) ∧ (((W.setCell ⟨w.heap.size, 0, none⟩ (.int .i64 (sz : Int))).setCell ⟨w.heap.size, 1, none⟩ (.slice av fl.length cv)).drew).cell? ⟨g, 0, none⟩ = some (.int .i64 (sz : Int)) ∧ (((W.setCell ⟨w.heap.size, 0, none⟩ (.int .i64 (sz : Int))).setCell ⟨w.heap.size, 1, none⟩ (.slice av fl.length cv)).drew).cell? ⟨g, 1, none⟩ = some (.slice av fl.length cv) := S1
 clear hW r0 r1 g0 g1 y1 q0 q1 z0 z1 kq kg kq' B3 O3 B4 O4 HVG HVQ hfin
 cases sh with
 | true =>
  have HR : Hid (R = false) := hid_of (by rw [HMR.out]; rfl)
  clear HMR
  refine wp_region_held_drew (S := fun X => X.cell? ⟨w.heap.size + 1, 1, none⟩ = some (.bool true) ∧ X.cell? ⟨g, 0, none⟩ = some (.int .i64 (sz : Int)) ∧ X.cell? ⟨g, 1, none⟩ = some (.slice av fl.length cv)) (by kernel_rfl) S0 (fun hHeld => ?_)
  (refine tY 0 16 ?v1 ?a1 rfl (by kernel_rfl) (by rfl) (fun _ _ _ h => h) ?y1 (by assumption) rfl ?p1 ?_; (case y1 => (intro w hSw; (try dsimp only at hSw); simp only [gA, gB, gC, gD, gE]; go_simp; (try with_reducible rfl))); (case p1 => (simp only [Act.put, sA, sB, sC]; try rfl)))
  (refine tY 1 17 ?v2 ?a2 rfl (by kernel_rfl) (by rfl) (fun _ _ _ h => h) ?y2 (by assumption) rfl ?p2 ?_; (case y2 => (intro w hSw; (try dsimp only at hSw); simp only [gA, gB, gC, gD, gE]; go_simp; (try with_reducible rfl))); (case p2 => (simp only [Act.put, sA, sB, sC]; try rfl)))
  (refine tY 2 18 ?v3 ?a3 rfl (by kernel_rfl) (by rfl) (fun _ _ _ h => h) ?y3 (by assumption) rfl ?p3 ?_; (case y3 => (intro w hSw; (try dsimp only at hSw); simp only [gA, gB, gC, gD, gE]; go_simp; (try with_reducible rfl))); (case p3 => (simp only [Act.put, sA, sB, sC]; try rfl)))
  (refine tY 3 19 ?v4 ?a4 rfl (by kernel_rfl) (by rfl) (fun _ _ _ h => h) ?y4 (by assumption) rfl ?p4 ?_; (case y4 => (intro w hSw; (try dsimp only at hSw); simp only [gA, gB, gC, gD, gE]; go_simp; (try with_reducible rfl))); (case p4 => (simp only [Act.put, sA, sB, sC]; try rfl)))
  (refine tY 4 20 ?v5 ?a5 rfl (by kernel_rfl) (by rfl) (fun _ _ _ h => h) ?y5 (by assumption) rfl ?p5 ?_; (case y5 => (intro w hSw; (try dsimp only at hSw); simp only [gA, gB, gC, gD, gE]; go_simp; (try with_reducible rfl))); (case p5 => (simp only [Act.put, sA, sB, sC]; try rfl)))
  (refine tN 5 21 ?a6 rfl (by kernel_rfl) (by rfl) (fun _ _ _ h => h) (by assumption) rfl ?p6 ?_; (case p6 => (simp only [Act.put, sA, sB, sC]; try rfl)))
  (refine tN 6 22 ?a7 rfl (by kernel_rfl) (by rfl) (fun _ _ _ h => h) (by assumption) rfl ?p7 ?_; (case p7 => (simp only [Act.put, sA, sB, sC]; try rfl)))
  (refine tN 7 23 ?a8 rfl (by kernel_rfl) (by rfl) (fun _ _ _ h => h) (by assumption) rfl ?p8 ?_; (case p8 => (simp only [Act.put, sA, sB, sC]; try rfl)))
  (refine tY 8 24 ?v9 ?a9 rfl (by kernel_rfl) (by rfl) (fun _ _ _ h => h) ?y9 (by assumption) rfl ?p9 ?_; (case y9 => (intro w hSw; (try dsimp only at hSw); simp only [gA, gB, gC, gD, gE]; go_simp; (try with_reducible rfl))); (case p9 => (simp only [Act.put, sA, sB, sC]; try rfl)))
  (refine tY 9 25 ?v10 ?a10 rfl (by kernel_rfl) (by rfl) (fun _ _ _ h => h) ?y10 (by assumption) rfl ?p10 ?_; (case y10 => (intro w hSw; (try dsimp only at hSw); simp only [gA, gB, gC, gD, gE]; go_simp; (try with_reducible rfl))); (case p10 => (simp only [Act.put, sA, sB, sC]; try rfl)))
  (refine tN 10 26 ?a11 rfl (by kernel_rfl) (by rfl) (fun _ _ _ h => h) (by assumption) rfl ?p11 ?_; (case p11 => (simp only [Act.put, sA, sB, sC]; try rfl)))
  (refine tN 11 27 ?a12 rfl (by kernel_rfl) (by rfl) (fun _ _ _ h => h) (by assumption) rfl ?p12 ?_; (case p12 => (simp only [Act.put, sA, sB, sC]; try rfl)))
  (refine tY 12 28 ?v13 ?a13 rfl (by kernel_rfl) (by rfl) (fun _ _ _ h => h) ?y13 (by assumption) rfl ?p13 ?_; (case y13 => (intro w hSw; (try dsimp only at hSw); simp only [gA, gB, gC, gD, gE]; go_simp; (try with_reducible rfl))); (case p13 => (simp only [Act.put, sA, sB, sC]; try rfl)))
  (refine tY 13 29 ?v14 ?a14 rfl (by kernel_rfl) (by rfl) (fun _ _ _ h => h) ?y14 (by assumption) rfl ?p14 ?_; (case y14 => (intro w hSw; (try dsimp only at hSw); simp only [gA, gB, gC, gD, gE]; go_simp; (try with_reducible rfl))); (case p14 => (simp only [Act.put, sA, sB, sC]; try rfl)))
  (refine tN 14 30 ?a15 rfl (by kernel_rfl) (by rfl) (fun _ _ _ h => h) (by assumption) rfl ?p15 ?_; (case p15 => (simp only [Act.put, sA, sB, sC]; try rfl)))
  (refine tN 15 31 ?a16 rfl (by kernel_rfl) (by rfl) (fun _ _ _ h => h) (by assumption) rfl ?p16 ?_; (case p16 => (simp only [Act.put, sA, sB, sC]; try rfl)))
  (refine tY 16 32 ?v17 ?a17 rfl (by kernel_rfl) (by rfl) (fun _ _ _ h => h) ?y17 (by assumption) rfl ?p17 ?_; (case y17 => (intro w hSw; (try dsimp only at hSw); simp only [gA, gB, gC, gD, gE]; go_simp; (try with_reducible rfl))); (case p17 => (simp only [Act.put, sA, sB, sC]; try rfl)))
  (refine tY 17 33 ?v18 ?a18 rfl (by kernel_rfl) (by rfl) (fun _ _ _ h => h) ?y18 (by assumption) rfl ?p18 ?_; (case y18 => (intro w hSw; (try dsimp only at hSw); simp only [gA, gB, gC, gD, gE]; go_simp; (try with_reducible rfl))); (case p18 => (simp only [Act.put, sA, sB, sC]; try rfl)))
  (refine tN 18 34 ?a19 rfl (by kernel_rfl) (by rfl) (fun _ _ _ h => h) (by assumption) rfl ?p19 ?_; (case p19 => (simp only [Act.put, sA, sB, sC]; try rfl)))
  (refine tN 19 35 ?a20 rfl (by kernel_rfl) (by rfl) (fun _ _ _ h => h) (by assumption) rfl ?p20 ?_; (case p20 => (simp only [Act.put, sA, sB, sC]; try rfl)))
  (refine tN 20 36 ?a21 rfl (by kernel_rfl) (by rfl) (fun _ _ _ h => h) (by assumption) rfl ?p21 ?_; (case p21 => (simp only [Act.put, sA, sB, sC]; try rfl)))
  (refine tN 21 37 ?a22 rfl (by kernel_rfl) (by rfl) (fun _ _ _ h => h) (by assumption) rfl ?p22 ?_; (case p22 => (simp only [Act.put, sA, sB, sC]; try rfl)))
  (refine tN 22 38 ?a23 rfl (by kernel_rfl) (by rfl) (fun _ _ _ h => h) (by assumption) rfl ?p23 ?_; (case p23 => (simp only [Act.put, sA, sB, sC]; try rfl)))
  (refine tY 23 39 ?v24 ?a24 rfl (by kernel_rfl) (by rfl) (fun _ _ _ h => h) ?y24 (by assumption) rfl ?p24 ?_; (case y24 => (intro w hSw; (try dsimp only at hSw); simp only [gA, gB, gC, gD, gE]; go_simp; (try with_reducible rfl))); (case p24 => (simp only [Act.put, sA, sB, sC]; try rfl)))
  refine step_one (i := 24) (by kernel_rfl) (fun K o ho hK => ?_)
  simp only [List.getElem?_toArray, List.getElem?_cons_succ, List.getElem?_cons_zero, Option.some.injEq] at ho
  subst ho
  go_simp
  refine hK.out _ _ ?_ (fun hHeld => ?_)
  focus (first | exact S1 | exact S1')
  clear hK K
  try simp only [Act.put, List.setIfInBounds_toArray, List.set_cons_zero, List.set_cons_succ]
  (refine tY 25 3 ?v25 ?a25 rfl (by kernel_rfl) (by rfl) (fun _ _ _ h => h) ?y25 (by assumption) rfl ?p25 ?_; (case y25 => (intro w hSw; (try dsimp only at hSw); simp only [gA, gB, gC, gD, gE]; go_simp; (try with_reducible rfl))); (case p25 => (simp only [Act.put, sA, sB, sC]; try rfl)))
  refine wpAnyH_done (by kernel_rfl) ?_ _
  go_wp2_with fail
  refine bodyPost_ret (v := .tuple #[.agg #[.int .i64 (sz : Int), .slice av fl.length cv], .bool false]) (by simp [results, Tryz.results188, go_sem, q0', q1']) rfl ?_
  exact ⟨_, by rw [HR.out], (HFIN.out _ rfl).1, (HFIN.out _ rfl).2⟩
 | false =>
  have hcall := fun W => IsSliceSize_walk (sz : Int) W
  by_cases b1 : sliceSize (sz : Int) = true
  ·rw [b1] at hcall
   have HC := hid_of hcall
   clear hcall
   by_cases b2 : 1 ≤ ct
   ·have e2 : (1 : Int) ≤ (ct : Int) := by omega
    by_cases b3 : ct ≤ 6
    ·have e3 : (ct : Int) ≤ 6 := by omega
     by_cases b4 : ct = fl.length
     ·have e4 : ((ct : Int) == (fl.length : Int)) = true := by simp [b4]
      have HR : Hid (R = true) := hid_of (by rw [HMR.out, b1, decide_eq_true b2, decide_eq_true b3, decide_eq_true b4]; rfl)
      clear HMR b4
      refine wp_region_held_drew (S := fun X => X.cell? ⟨w.heap.size + 1, 1, none⟩ = some (.bool false) ∧ X.cell? ⟨g, 0, none⟩ = some (.int .i64 (sz : Int)) ∧ X.cell? ⟨g, 1, none⟩ = some (.slice av fl.length cv)) (by kernel_rfl) S0 (fun hHeld => ?_)
      (refine tY 0 16 ?v26 ?a26 rfl (by kernel_rfl) (by rfl) (fun _ _ _ h => h) ?y26 (by assumption) rfl ?p26 ?_; (case y26 => (intro w hSw; (try dsimp only at hSw); simp only [gA, gB, gC, gD, gE]; go_simp; (try with_reducible rfl))); (case p26 => (simp only [Act.put, sA, sB, sC]; try rfl)))
      (refine tY 1 17 ?v27 ?a27 rfl (by kernel_rfl) (by rfl) (fun _ _ _ h => h) ?y27 (by assumption) rfl ?p27 ?_; (case y27 => (intro w hSw; (try dsimp only at hSw); simp only [gA, gB, gC, gD, gE]; go_simp; (try with_reducible rfl))); (case p27 => (simp only [Act.put, sA, sB, sC]; try rfl)))
      (refine tY 2 18 ?v28 ?a28 rfl (by kernel_rfl) (by rfl) (fun _ _ _ h => h) ?y28 (by assumption) rfl ?p28 ?_; (case y28 => (intro w hSw; (try dsimp only at hSw); simp only [gA, gB, gC, gD, gE]; go_simp; (try with_reducible rfl))); (case p28 => (simp only [Act.put, sA, sB, sC]; try rfl)))
      (refine tY 3 19 ?v29 ?a29 rfl (by kernel_rfl) (by rfl) (fun _ _ _ h => h) ?y29 (by assumption) rfl ?p29 ?_; (case y29 => (intro w hSw; (try dsimp only at hSw); simp only [gA, gB, gC, gD, gE]; go_simp; (try with_reducible rfl))); (case p29 => (simp only [Act.put, sA, sB, sC]; try rfl)))
      (refine tY 4 20 ?v30 ?a30 rfl (by kernel_rfl) (by rfl) (fun _ _ _ h => h) ?y30 (by assumption) rfl ?p30 ?_; (case y30 => (intro w hSw; (try dsimp only at hSw); simp only [gA, gB, gC, gD, gE]; go_simp; (try with_reducible rfl))); (case p30 => (simp only [Act.put, sA, sB, sC]; try rfl)))
      (refine tY 5 21 ?v31 ?a31 rfl (by kernel_rfl) (by rfl) (fun _ _ _ h => h) ?y31 (by assumption) rfl ?p31 ?_; (case y31 => (intro w hSw; (try dsimp only at hSw); simp only [gA, gB, gC, gD, gE]; go_simp; (try with_reducible rfl))); (case p31 => (simp only [Act.put, sA, sB, sC]; try rfl)))
      (refine tY 6 22 ?v32 ?a32 rfl (by kernel_rfl) (by rfl) (fun _ _ _ h => h) ?y32 (by assumption) rfl ?p32 ?_; (case y32 => (intro w hSw; (try dsimp only at hSw); simp only [gA, gB, gC, gD, gE]; go_simp; (try with_reducible rfl))); (case p32 => (simp only [Act.put, sA, sB, sC]; try rfl)))
      refine step_one (i := 7) (by kernel_rfl) (fun K o ho hK => ?_)
      simp only [List.getElem?_toArray, List.getElem?_cons_succ, List.getElem?_cons_zero, Option.some.injEq] at ho
      subst ho
      go_simp
      refine (HC.out _).mono ?_
      rintro e w' ⟨rfl, rfl⟩
      refine hK.out _ _ ?_ (fun hHeld => ?_)
      focus (exact S0)
      clear hK K
      try simp only [Act.put, List.setIfInBounds_toArray, List.set_cons_zero, List.set_cons_succ]
      (refine tY 8 24 ?v33 ?a33 rfl (by kernel_rfl) (by rfl) (fun _ _ _ h => h) ?y33 (by assumption) rfl ?p33 ?_; (case y33 => (intro w hSw; (try dsimp only at hSw); simp only [gA, gB, gC, gD, gE]; go_simp; (try with_reducible rfl))); (case p33 => (simp only [Act.put, sA, sB, sC]; try rfl)))
      (refine tY 9 25 ?v34 ?a34 rfl (by kernel_rfl) (by rfl) (fun _ _ _ h => h) ?y34 (by assumption) rfl ?p34 ?_; (case y34 => (intro w hSw; (try dsimp only at hSw); simp only [gA, gB, gC, gD, gE]; go_simp; (try with_reducible rfl))); (case p34 => (simp only [Act.put, sA, sB, sC]; try rfl)))
      (refine tY 10 26 ?v35 ?a35 rfl (by kernel_rfl) (by rfl) (fun _ _ _ h => h) ?y35 (by assumption) rfl ?p35 ?_; (case y35 => (intro w hSw; (try dsimp only at hSw); simp only [gA, gB, gC, gD, gE]; go_simp; (try with_reducible rfl))); (case p35 => (simp only [Act.put, sA, sB, sC]; try rfl)))
      (refine tY 11 27 ?v36 ?a36 rfl (by kernel_rfl) (by rfl) (fun _ _ _ h => h) ?y36 (by assumption) rfl ?p36 ?_; (case y36 => (intro w hSw; (try dsimp only at hSw); simp only [gA, gB, gC, gD, gE]; go_simp; (try with_reducible rfl))); (case p36 => (simp only [Act.put, sA, sB, sC]; try rfl)))
      (refine tY 12 28 ?v37 ?a37 rfl (by kernel_rfl) (by rfl) (fun _ _ _ h => h) ?y37 (by assumption) rfl ?p37 ?_; (case y37 => (intro w hSw; (try dsimp only at hSw); simp only [gA, gB, gC, gD, gE]; go_simp; (try with_reducible rfl))); (case p37 => (simp only [Act.put, sA, sB, sC]; try rfl)))
      (refine tY 13 29 ?v38 ?a38 rfl (by kernel_rfl) (by rfl) (fun _ _ _ h => h) ?y38 (by assumption) rfl ?p38 ?_; (case y38 => (intro w hSw; (try dsimp only at hSw); simp only [gA, gB, gC, gD, gE]; go_simp; (try with_reducible rfl))); (case p38 => (simp only [Act.put, sA, sB, sC]; try rfl)))
      (refine tY 14 30 ?v39 ?a39 rfl (by kernel_rfl) (by rfl) (fun _ _ _ h => h) ?y39 (by assumption) rfl ?p39 ?_; (case y39 => (intro w hSw; (try dsimp only at hSw); simp only [gA, gB, gC, gD, gE]; go_simp; (try with_reducible rfl))); (case p39 => (simp only [Act.put, sA, sB, sC]; try rfl)))
      (refine tY 15 31 ?v40 ?a40 rfl (by kernel_rfl) (by rfl) (fun _ _ _ h => h) ?y40 (by assumption) rfl ?p40 ?_; (case y40 => (intro w hSw; (try dsimp only at hSw); simp only [gA, gB, gC, gD, gE]; go_simp; (try with_reducible rfl))); (case p40 => (simp only [Act.put, sA, sB, sC]; try rfl)))
      (refine tY 16 32 ?v41 ?a41 rfl (by kernel_rfl) (by rfl) (fun _ _ _ h => h) ?y41 (by assumption) rfl ?p41 ?_; (case y41 => (intro w hSw; (try dsimp only at hSw); simp only [gA, gB, gC, gD, gE]; go_simp; (try with_reducible rfl))); (case p41 => (simp only [Act.put, sA, sB, sC]; try rfl)))
      (refine tY 17 33 ?v42 ?a42 rfl (by kernel_rfl) (by rfl) (fun _ _ _ h => h) ?y42 (by assumption) rfl ?p42 ?_; (case y42 => (intro w hSw; (try dsimp only at hSw); simp only [gA, gB, gC, gD, gE]; go_simp; (try with_reducible rfl))); (case p42 => (simp only [Act.put, sA, sB, sC]; try rfl)))
      (refine tY 18 34 ?v43 ?a43 rfl (by kernel_rfl) (by rfl) (fun _ _ _ h => h) ?y43 (by assumption) rfl ?p43 ?_; (case y43 => (intro w hSw; (try dsimp only at hSw); simp only [gA, gB, gC, gD, gE]; go_simp; (try with_reducible rfl))); (case p43 => (simp only [Act.put, sA, sB, sC]; try rfl)))
      (refine tY 19 35 ?v44 ?a44 rfl (by kernel_rfl) (by rfl) (fun _ _ _ h => h) ?y44 (by assumption) rfl ?p44 ?_; (case y44 => (intro w hSw; (try dsimp only at hSw); simp only [gA, gB, gC, gD, gE]; go_simp; (try with_reducible rfl))); (case p44 => (simp only [Act.put, sA, sB, sC]; try rfl)))
      (refine tY 20 36 ?v45 ?a45 rfl (by kernel_rfl) (by rfl) (fun _ _ _ h => h) ?y45 (by assumption) rfl ?p45 ?_; (case y45 => (intro w hSw; (try dsimp only at hSw); simp only [gA, gB, gC, gD, gE]; go_simp; (try with_reducible rfl))); (case p45 => (simp only [Act.put, sA, sB, sC]; try rfl)))
      (refine tY 21 37 ?v46 ?a46 rfl (by kernel_rfl) (by rfl) (fun _ _ _ h => h) ?y46 (by assumption) rfl ?p46 ?_; (case y46 => (intro w hSw; (try dsimp only at hSw); simp only [gA, gB, gC, gD, gE]; go_simp; (try with_reducible rfl))); (case p46 => (simp only [Act.put, sA, sB, sC]; try rfl)))
      (refine tY 22 38 ?v47 ?a47 rfl (by kernel_rfl) (by rfl) (fun _ _ _ h => h) ?y47 (by assumption) rfl ?p47 ?_; (case y47 => (intro w hSw; (try dsimp only at hSw); simp only [gA, gB, gC, gD, gE]; go_simp; (try with_reducible rfl))); (case p47 => (simp only [Act.put, sA, sB, sC]; try rfl)))
      (refine tY 23 39 ?v48 ?a48 rfl (by kernel_rfl) (by rfl) (fun _ _ _ h => h) ?y48 (by assumption) rfl ?p48 ?_; (case y48 => (intro w hSw; (try dsimp only at hSw); simp only [gA, gB, gC, gD, gE]; go_simp; (try with_reducible rfl))); (case p48 => (simp only [Act.put, sA, sB, sC]; try rfl)))
      refine step_one (i := 24) (by kernel_rfl) (fun K o ho hK => ?_)
      simp only [List.getElem?_toArray, List.getElem?_cons_succ, List.getElem?_cons_zero, Option.some.injEq] at ho
      subst ho
      go_simp
      refine hK.out _ _ ?_ (fun hHeld => ?_)
      focus (first | exact S1 | exact S1')
      clear hK K
      try simp only [Act.put, List.setIfInBounds_toArray, List.set_cons_zero, List.set_cons_succ]
      (refine tY 25 3 ?v49 ?a49 rfl (by kernel_rfl) (by rfl) (fun _ _ _ h => h) ?y49 (by assumption) rfl ?p49 ?_; (case y49 => (intro w hSw; (try dsimp only at hSw); simp only [gA, gB, gC, gD, gE]; go_simp; (try with_reducible rfl))); (case p49 => (simp only [Act.put, sA, sB, sC]; try rfl)))
      refine wpAnyH_done (by kernel_rfl) ?_ _
      go_wp2_with fail
      refine bodyPost_ret (v := .tuple #[.agg #[.int .i64 (sz : Int), .slice av fl.length cv], .bool true]) (by simp [results, Tryz.results188, go_sem, q0', q1']) rfl ?_
      exact ⟨_, by rw [HR.out], (HFIN.out _ rfl).1, (HFIN.out _ rfl).2⟩
     ·have e4 : ((ct : Int) == (fl.length : Int)) = false := by simp; omega
      have HR : Hid (R = false) := hid_of (by rw [HMR.out]; simp [b4])
      clear HMR
      refine wp_region_held_drew (S := fun X => X.cell? ⟨w.heap.size + 1, 1, none⟩ = some (.bool false) ∧ X.cell? ⟨g, 0, none⟩ = some (.int .i64 (sz : Int)) ∧ X.cell? ⟨g, 1, none⟩ = some (.slice av fl.length cv)) (by kernel_rfl) S0 (fun hHeld => ?_)
      (refine tY 0 16 ?v50 ?a50 rfl (by kernel_rfl) (by rfl) (fun _ _ _ h => h) ?y50 (by assumption) rfl ?p50 ?_; (case y50 => (intro w hSw; (try dsimp only at hSw); simp only [gA, gB, gC, gD, gE]; go_simp; (try with_reducible rfl))); (case p50 => (simp only [Act.put, sA, sB, sC]; try rfl)))
      (refine tY 1 17 ?v51 ?a51 rfl (by kernel_rfl) (by rfl) (fun _ _ _ h => h) ?y51 (by assumption) rfl ?p51 ?_; (case y51 => (intro w hSw; (try dsimp only at hSw); simp only [gA, gB, gC, gD, gE]; go_simp; (try with_reducible rfl))); (case p51 => (simp only [Act.put, sA, sB, sC]; try rfl)))
      (refine tY 2 18 ?v52 ?a52 rfl (by kernel_rfl) (by rfl) (fun _ _ _ h => h) ?y52 (by assumption) rfl ?p52 ?_; (case y52 => (intro w hSw; (try dsimp only at hSw); simp only [gA, gB, gC, gD, gE]; go_simp; (try with_reducible rfl))); (case p52 => (simp only [Act.put, sA, sB, sC]; try rfl)))
      (refine tY 3 19 ?v53 ?a53 rfl (by kernel_rfl) (by rfl) (fun _ _ _ h => h) ?y53 (by assumption) rfl ?p53 ?_; (case y53 => (intro w hSw; (try dsimp only at hSw); simp only [gA, gB, gC, gD, gE]; go_simp; (try with_reducible rfl))); (case p53 => (simp only [Act.put, sA, sB, sC]; try rfl)))
      (refine tY 4 20 ?v54 ?a54 rfl (by kernel_rfl) (by rfl) (fun _ _ _ h => h) ?y54 (by assumption) rfl ?p54 ?_; (case y54 => (intro w hSw; (try dsimp only at hSw); simp only [gA, gB, gC, gD, gE]; go_simp; (try with_reducible rfl))); (case p54 => (simp only [Act.put, sA, sB, sC]; try rfl)))
      (refine tY 5 21 ?v55 ?a55 rfl (by kernel_rfl) (by rfl) (fun _ _ _ h => h) ?y55 (by assumption) rfl ?p55 ?_; (case y55 => (intro w hSw; (try dsimp only at hSw); simp only [gA, gB, gC, gD, gE]; go_simp; (try with_reducible rfl))); (case p55 => (simp only [Act.put, sA, sB, sC]; try rfl)))
      (refine tY 6 22 ?v56 ?a56 rfl (by kernel_rfl) (by rfl) (fun _ _ _ h => h) ?y56 (by assumption) rfl ?p56 ?_; (case y56 => (intro w hSw; (try dsimp only at hSw); simp only [gA, gB, gC, gD, gE]; go_simp; (try with_reducible rfl))); (case p56 => (simp only [Act.put, sA, sB, sC]; try rfl)))
      refine step_one (i := 7) (by kernel_rfl) (fun K o ho hK => ?_)
      simp only [List.getElem?_toArray, List.getElem?_cons_succ, List.getElem?_cons_zero, Option.some.injEq] at ho
      subst ho
      go_simp
      refine (HC.out _).mono ?_
      rintro e w' ⟨rfl, rfl⟩
      refine hK.out _ _ ?_ (fun hHeld => ?_)
      focus (exact S0)
      clear hK K
      try simp only [Act.put, List.setIfInBounds_toArray, List.set_cons_zero, List.set_cons_succ]
      (refine tY 8 24 ?v57 ?a57 rfl (by kernel_rfl) (by rfl) (fun _ _ _ h => h) ?y57 (by assumption) rfl ?p57 ?_; (case y57 => (intro w hSw; (try dsimp only at hSw); simp only [gA, gB, gC, gD, gE]; go_simp; (try with_reducible rfl))); (case p57 => (simp only [Act.put, sA, sB, sC]; try rfl)))
      (refine tY 9 25 ?v58 ?a58 rfl (by kernel_rfl) (by rfl) (fun _ _ _ h => h) ?y58 (by assumption) rfl ?p58 ?_; (case y58 => (intro w hSw; (try dsimp only at hSw); simp only [gA, gB, gC, gD, gE]; go_simp; (try with_reducible rfl))); (case p58 => (simp only [Act.put, sA, sB, sC]; try rfl)))
      (refine tY 10 26 ?v59 ?a59 rfl (by kernel_rfl) (by rfl) (fun _ _ _ h => h) ?y59 (by assumption) rfl ?p59 ?_; (case y59 => (intro w hSw; (try dsimp only at hSw); simp only [gA, gB, gC, gD, gE]; go_simp; (try with_reducible rfl))); (case p59 => (simp only [Act.put, sA, sB, sC]; try rfl)))
      (refine tY 11 27 ?v60 ?a60 rfl (by kernel_rfl) (by rfl) (fun _ _ _ h => h) ?y60 (by assumption) rfl ?p60 ?_; (case y60 => (intro w hSw; (try dsimp only at hSw); simp only [gA, gB, gC, gD, gE]; go_simp; (try with_reducible rfl))); (case p60 => (simp only [Act.put, sA, sB, sC]; try rfl)))
      (refine tY 12 28 ?v61 ?a61 rfl (by kernel_rfl) (by rfl) (fun _ _ _ h => h) ?y61 (by assumption) rfl ?p61 ?_; (case y61 => (intro w hSw; (try dsimp only at hSw); simp only [gA, gB, gC, gD, gE]; go_simp; (try with_reducible rfl))); (case p61 => (simp only [Act.put, sA, sB, sC]; try rfl)))
      (refine tY 13 29 ?v62 ?a62 rfl (by kernel_rfl) (by rfl) (fun _ _ _ h => h) ?y62 (by assumption) rfl ?p62 ?_; (case y62 => (intro w hSw; (try dsimp only at hSw); simp only [gA, gB, gC, gD, gE]; go_simp; (try with_reducible rfl))); (case p62 => (simp only [Act.put, sA, sB, sC]; try rfl)))
      (refine tY 14 30 ?v63 ?a63 rfl (by kernel_rfl) (by rfl) (fun _ _ _ h => h) ?y63 (by assumption) rfl ?p63 ?_; (case y63 => (intro w hSw; (try dsimp only at hSw); simp only [gA, gB, gC, gD, gE]; go_simp; (try with_reducible rfl))); (case p63 => (simp only [Act.put, sA, sB, sC]; try rfl)))
      (refine tY 15 31 ?v64 ?a64 rfl (by kernel_rfl) (by rfl) (fun _ _ _ h => h) ?y64 (by assumption) rfl ?p64 ?_; (case y64 => (intro w hSw; (try dsimp only at hSw); simp only [gA, gB, gC, gD, gE]; go_simp; (try with_reducible rfl))); (case p64 => (simp only [Act.put, sA, sB, sC]; try rfl)))
      (refine tY 16 32 ?v65 ?a65 rfl (by kernel_rfl) (by rfl) (fun _ _ _ h => h) ?y65 (by assumption) rfl ?p65 ?_; (case y65 => (intro w hSw; (try dsimp only at hSw); simp only [gA, gB, gC, gD, gE]; go_simp; (try with_reducible rfl))); (case p65 => (simp only [Act.put, sA, sB, sC]; try rfl)))
      (refine tY 17 33 ?v66 ?a66 rfl (by kernel_rfl) (by rfl) (fun _ _ _ h => h) ?y66 (by assumption) rfl ?p66 ?_; (case y66 => (intro w hSw; (try dsimp only at hSw); simp only [gA, gB, gC, gD, gE]; go_simp; (try with_reducible rfl))); (case p66 => (simp only [Act.put, sA, sB, sC]; try rfl)))
      (refine tY 18 34 ?v67 ?a67 rfl (by kernel_rfl) (by rfl) (fun _ _ _ h => h) ?y67 (by assumption) rfl ?p67 ?_; (case y67 => (intro w hSw; (try dsimp only at hSw); simp only [gA, gB, gC, gD, gE]; go_simp; (try with_reducible rfl))); (case p67 => (simp only [Act.put, sA, sB, sC]; try rfl)))
      (refine tY 19 35 ?v68 ?a68 rfl (by kernel_rfl) (by rfl) (fun _ _ _ h => h) ?y68 (by assumption) rfl ?p68 ?_; (case y68 => (intro w hSw; (try dsimp only at hSw); simp only [gA, gB, gC, gD, gE]; go_simp; (try with_reducible rfl))); (case p68 => (simp only [Act.put, sA, sB, sC]; try rfl)))
      (refine tY 20 36 ?v69 ?a69 rfl (by kernel_rfl) (by rfl) (fun _ _ _ h => h) ?y69 (by assumption) rfl ?p69 ?_; (case y69 => (intro w hSw; (try dsimp only at hSw); simp only [gA, gB, gC, gD, gE]; go_simp; (try with_reducible rfl))); (case p69 => (simp only [Act.put, sA, sB, sC]; try rfl)))
      (refine tY 21 37 ?v70 ?a70 rfl (by kernel_rfl) (by rfl) (fun _ _ _ h => h) ?y70 (by assumption) rfl ?p70 ?_; (case y70 => (intro w hSw; (try dsimp only at hSw); simp only [gA, gB, gC, gD, gE]; go_simp; (try with_reducible rfl))); (case p70 => (simp only [Act.put, sA, sB, sC]; try rfl)))
      (refine tY 22 38 ?v71 ?a71 rfl (by kernel_rfl) (by rfl) (fun _ _ _ h => h) ?y71 (by assumption) rfl ?p71 ?_; (case y71 => (intro w hSw; (try dsimp only at hSw); simp only [gA, gB, gC, gD, gE]; go_simp; (try with_reducible rfl))); (case p71 => (simp only [Act.put, sA, sB, sC]; try rfl)))
      (refine tY 23 39 ?v72 ?a72 rfl (by kernel_rfl) (by rfl) (fun _ _ _ h => h) ?y72 (by assumption) rfl ?p72 ?_; (case y72 => (intro w hSw; (try dsimp only at hSw); simp only [gA, gB, gC, gD, gE]; go_simp; (try with_reducible rfl))); (case p72 => (simp only [Act.put, sA, sB, sC]; try rfl)))
      refine step_one (i := 24) (by kernel_rfl) (fun K o ho hK => ?_)
      simp only [List.getElem?_toArray, List.getElem?_cons_succ, List.getElem?_cons_zero, Option.some.injEq] at ho
      subst ho
      go_simp
      refine hK.out _ _ ?_ (fun hHeld => ?_)
      focus (first | exact S1 | exact S1')
      clear hK K
      try simp only [Act.put, List.setIfInBounds_toArray, List.set_cons_zero, List.set_cons_succ]
      (refine tY 25 3 ?v73 ?a73 rfl (by kernel_rfl) (by rfl) (fun _ _ _ h => h) ?y73 (by assumption) rfl ?p73 ?_; (case y73 => (intro w hSw; (try dsimp only at hSw); simp only [gA, gB, gC, gD, gE]; go_simp; (try with_reducible rfl))); (case p73 => (simp only [Act.put, sA, sB, sC]; try rfl)))
      refine wpAnyH_done (by kernel_rfl) ?_ _
      go_wp2_with fail
      refine bodyPost_ret (v := .tuple #[.agg #[.int .i64 (sz : Int), .slice av fl.length cv], .bool false]) (by simp [results, Tryz.results188, go_sem, q0', q1']) rfl ?_
      exact ⟨_, by rw [HR.out], (HFIN.out _ rfl).1, (HFIN.out _ rfl).2⟩
    ·have e3 : ¬ ((ct : Int) ≤ 6) := by omega
     have HR : Hid (R = false) := hid_of (by rw [HMR.out]; simp [b3])
     clear HMR
     refine wp_region_held_drew (S := fun X => X.cell? ⟨w.heap.size + 1, 1, none⟩ = some (.bool false) ∧ X.cell? ⟨g, 0, none⟩ = some (.int .i64 (sz : Int)) ∧ X.cell? ⟨g, 1, none⟩ = some (.slice av fl.length cv)) (by kernel_rfl) S0 (fun hHeld => ?_)
     (refine tY 0 16 ?v74 ?a74 rfl (by kernel_rfl) (by rfl) (fun _ _ _ h => h) ?y74 (by assumption) rfl ?p74 ?_; (case y74 => (intro w hSw; (try dsimp only at hSw); simp only [gA, gB, gC, gD, gE]; go_simp; (try with_reducible rfl))); (case p74 => (simp only [Act.put, sA, sB, sC]; try rfl)))
     (refine tY 1 17 ?v75 ?a75 rfl (by kernel_rfl) (by rfl) (fun _ _ _ h => h) ?y75 (by assumption) rfl ?p75 ?_; (case y75 => (intro w hSw; (try dsimp only at hSw); simp only [gA, gB, gC, gD, gE]; go_simp; (try with_reducible rfl))); (case p75 => (simp only [Act.put, sA, sB, sC]; try rfl)))
     (refine tY 2 18 ?v76 ?a76 rfl (by kernel_rfl) (by rfl) (fun _ _ _ h => h) ?y76 (by assumption) rfl ?p76 ?_; (case y76 => (intro w hSw; (try dsimp only at hSw); simp only [gA, gB, gC, gD, gE]; go_simp; (try with_reducible rfl))); (case p76 => (simp only [Act.put, sA, sB, sC]; try rfl)))
     (refine tY 3 19 ?v77 ?a77 rfl (by kernel_rfl) (by rfl) (fun _ _ _ h => h) ?y77 (by assumption) rfl ?p77 ?_; (case y77 => (intro w hSw; (try dsimp only at hSw); simp only [gA, gB, gC, gD, gE]; go_simp; (try with_reducible rfl))); (case p77 => (simp only [Act.put, sA, sB, sC]; try rfl)))
     (refine tY 4 20 ?v78 ?a78 rfl (by kernel_rfl) (by rfl) (fun _ _ _ h => h) ?y78 (by assumption) rfl ?p78 ?_; (case y78 => (intro w hSw; (try dsimp only at hSw); simp only [gA, gB, gC, gD, gE]; go_simp; (try with_reducible rfl))); (case p78 => (simp only [Act.put, sA, sB, sC]; try rfl)))
     (refine tY 5 21 ?v79 ?a79 rfl (by kernel_rfl) (by rfl) (fun _ _ _ h => h) ?y79 (by assumption) rfl ?p79 ?_; (case y79 => (intro w hSw; (try dsimp only at hSw); simp only [gA, gB, gC, gD, gE]; go_simp; (try with_reducible rfl))); (case p79 => (simp only [Act.put, sA, sB, sC]; try rfl)))
     (refine tY 6 22 ?v80 ?a80 rfl (by kernel_rfl) (by rfl) (fun _ _ _ h => h) ?y80 (by assumption) rfl ?p80 ?_; (case y80 => (intro w hSw; (try dsimp only at hSw); simp only [gA, gB, gC, gD, gE]; go_simp; (try with_reducible rfl))); (case p80 => (simp only [Act.put, sA, sB, sC]; try rfl)))
     refine step_one (i := 7) (by kernel_rfl) (fun K o ho hK => ?_)
     simp only [List.getElem?_toArray, List.getElem?_cons_succ, List.getElem?_cons_zero, Option.some.injEq] at ho
     subst ho
     go_simp
     refine (HC.out _).mono ?_
     rintro e w' ⟨rfl, rfl⟩
     refine hK.out _ _ ?_ (fun hHeld => ?_)
     focus (exact S0)
     clear hK K
     try simp only [Act.put, List.setIfInBounds_toArray, List.set_cons_zero, List.set_cons_succ]
     (refine tY 8 24 ?v81 ?a81 rfl (by kernel_rfl) (by rfl) (fun _ _ _ h => h) ?y81 (by assumption) rfl ?p81 ?_; (case y81 => (intro w hSw; (try dsimp only at hSw); simp only [gA, gB, gC, gD, gE]; go_simp; (try with_reducible rfl))); (case p81 => (simp only [Act.put, sA, sB, sC]; try rfl)))
     (refine tY 9 25 ?v82 ?a82 rfl (by kernel_rfl) (by rfl) (fun _ _ _ h => h) ?y82 (by assumption) rfl ?p82 ?_; (case y82 => (intro w hSw; (try dsimp only at hSw); simp only [gA, gB, gC, gD, gE]; go_simp; (try with_reducible rfl))); (case p82 => (simp only [Act.put, sA, sB, sC]; try rfl)))
     (refine tY 10 26 ?v83 ?a83 rfl (by kernel_rfl) (by rfl) (fun _ _ _ h => h) ?y83 (by assumption) rfl ?p83 ?_; (case y83 => (intro w hSw; (try dsimp only at hSw); simp only [gA, gB, gC, gD, gE]; go_simp; (try with_reducible rfl))); (case p83 => (simp only [Act.put, sA, sB, sC]; try rfl)))
     (refine tY 11 27 ?v84 ?a84 rfl (by kernel_rfl) (by rfl) (fun _ _ _ h => h) ?y84 (by assumption) rfl ?p84 ?_; (case y84 => (intro w hSw; (try dsimp only at hSw); simp only [gA, gB, gC, gD, gE]; go_simp; (try with_reducible rfl))); (case p84 => (simp only [Act.put, sA, sB, sC]; try rfl)))
     (refine tY 12 28 ?v85 ?a85 rfl (by kernel_rfl) (by rfl) (fun _ _ _ h => h) ?y85 (by assumption) rfl ?p85 ?_; (case y85 => (intro w hSw; (try dsimp only at hSw); simp only [gA, gB, gC, gD, gE]; go_simp; (try with_reducible rfl))); (case p85 => (simp only [Act.put, sA, sB, sC]; try rfl)))
     (refine tY 13 29 ?v86 ?a86 rfl (by kernel_rfl) (by rfl) (fun _ _ _ h => h) ?y86 (by assumption) rfl ?p86 ?_; (case y86 => (intro w hSw; (try dsimp only at hSw); simp only [gA, gB, gC, gD, gE]; go_simp; (try with_reducible rfl))); (case p86 => (simp only [Act.put, sA, sB, sC]; try rfl)))
     (refine tY 14 30 ?v87 ?a87 rfl (by kernel_rfl) (by rfl) (fun _ _ _ h => h) ?y87 (by assumption) rfl ?p87 ?_; (case y87 => (intro w hSw; (try dsimp only at hSw); simp only [gA, gB, gC, gD, gE]; go_simp; (try with_reducible rfl))); (case p87 => (simp only [Act.put, sA, sB, sC]; try rfl)))
     (refine tY 15 31 ?v88 ?a88 rfl (by kernel_rfl) (by rfl) (fun _ _ _ h => h) ?y88 (by assumption) rfl ?p88 ?_; (case y88 => (intro w hSw; (try dsimp only at hSw); simp only [gA, gB, gC, gD, gE]; go_simp; (try with_reducible rfl))); (case p88 => (simp only [Act.put, sA, sB, sC]; try rfl)))
     (refine tY 16 32 ?v89 ?a89 rfl (by kernel_rfl) (by rfl) (fun _ _ _ h => h) ?y89 (by assumption) rfl ?p89 ?_; (case y89 => (intro w hSw; (try dsimp only at hSw); simp only [gA, gB, gC, gD, gE]; go_simp; (try with_reducible rfl))); (case p89 => (simp only [Act.put, sA, sB, sC]; try rfl)))
     (refine tY 17 33 ?v90 ?a90 rfl (by kernel_rfl) (by rfl) (fun _ _ _ h => h) ?y90 (by assumption) rfl ?p90 ?_; (case y90 => (intro w hSw; (try dsimp only at hSw); simp only [gA, gB, gC, gD, gE]; go_simp; (try with_reducible rfl))); (case p90 => (simp only [Act.put, sA, sB, sC]; try rfl)))
     (refine tN 18 34 ?a91 rfl (by kernel_rfl) (by rfl) (fun _ _ _ h => h) (by assumption) rfl ?p91 ?_; (case p91 => (simp only [Act.put, sA, sB, sC]; try rfl)))
     (refine tN 19 35 ?a92 rfl (by kernel_rfl) (by rfl) (fun _ _ _ h => h) (by assumption) rfl ?p92 ?_; (case p92 => (simp only [Act.put, sA, sB, sC]; try rfl)))
     (refine tN 20 36 ?a93 rfl (by kernel_rfl) (by rfl) (fun _ _ _ h => h) (by assumption) rfl ?p93 ?_; (case p93 => (simp only [Act.put, sA, sB, sC]; try rfl)))
     (refine tN 21 37 ?a94 rfl (by kernel_rfl) (by rfl) (fun _ _ _ h => h) (by assumption) rfl ?p94 ?_; (case p94 => (simp only [Act.put, sA, sB, sC]; try rfl)))
     (refine tN 22 38 ?a95 rfl (by kernel_rfl) (by rfl) (fun _ _ _ h => h) (by assumption) rfl ?p95 ?_; (case p95 => (simp only [Act.put, sA, sB, sC]; try rfl)))
     (refine tY 23 39 ?v96 ?a96 rfl (by kernel_rfl) (by rfl) (fun _ _ _ h => h) ?y96 (by assumption) rfl ?p96 ?_; (case y96 => (intro w hSw; (try dsimp only at hSw); simp only [gA, gB, gC, gD, gE]; go_simp; (try with_reducible rfl))); (case p96 => (simp only [Act.put, sA, sB, sC]; try rfl)))
     refine step_one (i := 24) (by kernel_rfl) (fun K o ho hK => ?_)
     simp only [List.getElem?_toArray, List.getElem?_cons_succ, List.getElem?_cons_zero, Option.some.injEq] at ho
     subst ho
     go_simp
     refine hK.out _ _ ?_ (fun hHeld => ?_)
     focus (first | exact S1 | exact S1')
     clear hK K
     try simp only [Act.put, List.setIfInBounds_toArray, List.set_cons_zero, List.set_cons_succ]
     (refine tY 25 3 ?v97 ?a97 rfl (by kernel_rfl) (by rfl) (fun _ _ _ h => h) ?y97 (by assumption) rfl ?p97 ?_; (case y97 => (intro w hSw; (try dsimp only at hSw); simp only [gA, gB, gC, gD, gE]; go_simp; (try with_reducible rfl))); (case p97 => (simp only [Act.put, sA, sB, sC]; try rfl)))
     refine wpAnyH_done (by kernel_rfl) ?_ _
     go_wp2_with fail
     refine bodyPost_ret (v := .tuple #[.agg #[.int .i64 (sz : Int), .slice av fl.length cv], .bool false]) (by simp [results, Tryz.results188, go_sem, q0', q1']) rfl ?_
     exact ⟨_, by rw [HR.out], (HFIN.out _ rfl).1, (HFIN.out _ rfl).2⟩
   ·have e2 : ¬ ((1 : Int) ≤ (ct : Int)) := by omega
    have HR : Hid (R = false) := hid_of (by rw [HMR.out]; simp [b2])
    clear HMR
    refine wp_region_held_drew (S := fun X => X.cell? ⟨w.heap.size + 1, 1, none⟩ = some (.bool false) ∧ X.cell? ⟨g, 0, none⟩ = some (.int .i64 (sz : Int)) ∧ X.cell? ⟨g, 1, none⟩ = some (.slice av fl.length cv)) (by kernel_rfl) S0 (fun hHeld => ?_)
    (refine tY 0 16 ?v98 ?a98 rfl (by kernel_rfl) (by rfl) (fun _ _ _ h => h) ?y98 (by assumption) rfl ?p98 ?_; (case y98 => (intro w hSw; (try dsimp only at hSw); simp only [gA, gB, gC, gD, gE]; go_simp; (try with_reducible rfl))); (case p98 => (simp only [Act.put, sA, sB, sC]; try rfl)))
    (refine tY 1 17 ?v99 ?a99 rfl (by kernel_rfl) (by rfl) (fun _ _ _ h => h) ?y99 (by assumption) rfl ?p99 ?_; (case y99 => (intro w hSw; (try dsimp only at hSw); simp only [gA, gB, gC, gD, gE]; go_simp; (try with_reducible rfl))); (case p99 => (simp only [Act.put, sA, sB, sC]; try rfl)))
    (refine tY 2 18 ?v100 ?a100 rfl (by kernel_rfl) (by rfl) (fun _ _ _ h => h) ?y100 (by assumption) rfl ?p100 ?_; (case y100 => (intro w hSw; (try dsimp only at hSw); simp only [gA, gB, gC, gD, gE]; go_simp; (try with_reducible rfl))); (case p100 => (simp only [Act.put, sA, sB, sC]; try rfl)))
    (refine tY 3 19 ?v101 ?a101 rfl (by kernel_rfl) (by rfl) (fun _ _ _ h => h) ?y101 (by assumption) rfl ?p101 ?_; (case y101 => (intro w hSw; (try dsimp only at hSw); simp only [gA, gB, gC, gD, gE]; go_simp; (try with_reducible rfl))); (case p101 => (simp only [Act.put, sA, sB, sC]; try rfl)))
    (refine tY 4 20 ?v102 ?a102 rfl (by kernel_rfl) (by rfl) (fun _ _ _ h => h) ?y102 (by assumption) rfl ?p102 ?_; (case y102 => (intro w hSw; (try dsimp only at hSw); simp only [gA, gB, gC, gD, gE]; go_simp; (try with_reducible rfl))); (case p102 => (simp only [Act.put, sA, sB, sC]; try rfl)))
    (refine tY 5 21 ?v103 ?a103 rfl (by kernel_rfl) (by rfl) (fun _ _ _ h => h) ?y103 (by assumption) rfl ?p103 ?_; (case y103 => (intro w hSw; (try dsimp only at hSw); simp only [gA, gB, gC, gD, gE]; go_simp; (try with_reducible rfl))); (case p103 => (simp only [Act.put, sA, sB, sC]; try rfl)))
    (refine tY 6 22 ?v104 ?a104 rfl (by kernel_rfl) (by rfl) (fun _ _ _ h => h) ?y104 (by assumption) rfl ?p104 ?_; (case y104 => (intro w hSw; (try dsimp only at hSw); simp only [gA, gB, gC, gD, gE]; go_simp; (try with_reducible rfl))); (case p104 => (simp only [Act.put, sA, sB, sC]; try rfl)))
    refine step_one (i := 7) (by kernel_rfl) (fun K o ho hK => ?_)
    simp only [List.getElem?_toArray, List.getElem?_cons_succ, List.getElem?_cons_zero, Option.some.injEq] at ho
    subst ho
    go_simp
    refine (HC.out _).mono ?_
    rintro e w' ⟨rfl, rfl⟩
    refine hK.out _ _ ?_ (fun hHeld => ?_)
    focus (exact S0)
    clear hK K
    try simp only [Act.put, List.setIfInBounds_toArray, List.set_cons_zero, List.set_cons_succ]
    (refine tY 8 24 ?v105 ?a105 rfl (by kernel_rfl) (by rfl) (fun _ _ _ h => h) ?y105 (by assumption) rfl ?p105 ?_; (case y105 => (intro w hSw; (try dsimp only at hSw); simp only [gA, gB, gC, gD, gE]; go_simp; (try with_reducible rfl))); (case p105 => (simp only [Act.put, sA, sB, sC]; try rfl)))
    (refine tY 9 25 ?v106 ?a106 rfl (by kernel_rfl) (by rfl) (fun _ _ _ h => h) ?y106 (by assumption) rfl ?p106 ?_; (case y106 => (intro w hSw; (try dsimp only at hSw); simp only [gA, gB, gC, gD, gE]; go_simp; (try with_reducible rfl))); (case p106 => (simp only [Act.put, sA, sB, sC]; try rfl)))
    (refine tY 10 26 ?v107 ?a107 rfl (by kernel_rfl) (by rfl) (fun _ _ _ h => h) ?y107 (by assumption) rfl ?p107 ?_; (case y107 => (intro w hSw; (try dsimp only at hSw); simp only [gA, gB, gC, gD, gE]; go_simp; (try with_reducible rfl))); (case p107 => (simp only [Act.put, sA, sB, sC]; try rfl)))
    (refine tY 11 27 ?v108 ?a108 rfl (by kernel_rfl) (by rfl) (fun _ _ _ h => h) ?y108 (by assumption) rfl ?p108 ?_; (case y108 => (intro w hSw; (try dsimp only at hSw); simp only [gA, gB, gC, gD, gE]; go_simp; (try with_reducible rfl))); (case p108 => (simp only [Act.put, sA, sB, sC]; try rfl)))
    (refine tY 12 28 ?v109 ?a109 rfl (by kernel_rfl) (by rfl) (fun _ _ _ h => h) ?y109 (by assumption) rfl ?p109 ?_; (case y109 => (intro w hSw; (try dsimp only at hSw); simp only [gA, gB, gC, gD, gE]; go_simp; (try with_reducible rfl))); (case p109 => (simp only [Act.put, sA, sB, sC]; try rfl)))
    (refine tY 13 29 ?v110 ?a110 rfl (by kernel_rfl) (by rfl) (fun _ _ _ h => h) ?y110 (by assumption) rfl ?p110 ?_; (case y110 => (intro w hSw; (try dsimp only at hSw); simp only [gA, gB, gC, gD, gE]; go_simp; (try with_reducible rfl))); (case p110 => (simp only [Act.put, sA, sB, sC]; try rfl)))
    (refine tN 14 30 ?a111 rfl (by kernel_rfl) (by rfl) (fun _ _ _ h => h) (by assumption) rfl ?p111 ?_; (case p111 => (simp only [Act.put, sA, sB, sC]; try rfl)))
    (refine tN 15 31 ?a112 rfl (by kernel_rfl) (by rfl) (fun _ _ _ h => h) (by assumption) rfl ?p112 ?_; (case p112 => (simp only [Act.put, sA, sB, sC]; try rfl)))
    (refine tY 16 32 ?v113 ?a113 rfl (by kernel_rfl) (by rfl) (fun _ _ _ h => h) ?y113 (by assumption) rfl ?p113 ?_; (case y113 => (intro w hSw; (try dsimp only at hSw); simp only [gA, gB, gC, gD, gE]; go_simp; (try with_reducible rfl))); (case p113 => (simp only [Act.put, sA, sB, sC]; try rfl)))
    (refine tY 17 33 ?v114 ?a114 rfl (by kernel_rfl) (by rfl) (fun _ _ _ h => h) ?y114 (by assumption) rfl ?p114 ?_; (case y114 => (intro w hSw; (try dsimp only at hSw); simp only [gA, gB, gC, gD, gE]; go_simp; (try with_reducible rfl))); (case p114 => (simp only [Act.put, sA, sB, sC]; try rfl)))
    (refine tN 18 34 ?a115 rfl (by kernel_rfl) (by rfl) (fun _ _ _ h => h) (by assumption) rfl ?p115 ?_; (case p115 => (simp only [Act.put, sA, sB, sC]; try rfl)))
    (refine tN 19 35 ?a116 rfl (by kernel_rfl) (by rfl) (fun _ _ _ h => h) (by assumption) rfl ?p116 ?_; (case p116 => (simp only [Act.put, sA, sB, sC]; try rfl)))
    (refine tN 20 36 ?a117 rfl (by kernel_rfl) (by rfl) (fun _ _ _ h => h) (by assumption) rfl ?p117 ?_; (case p117 => (simp only [Act.put, sA, sB, sC]; try rfl)))
    (refine tN 21 37 ?a118 rfl (by kernel_rfl) (by rfl) (fun _ _ _ h => h) (by assumption) rfl ?p118 ?_; (case p118 => (simp only [Act.put, sA, sB, sC]; try rfl)))
    (refine tN 22 38 ?a119 rfl (by kernel_rfl) (by rfl) (fun _ _ _ h => h) (by assumption) rfl ?p119 ?_; (case p119 => (simp only [Act.put, sA, sB, sC]; try rfl)))
    (refine tY 23 39 ?v120 ?a120 rfl (by kernel_rfl) (by rfl) (fun _ _ _ h => h) ?y120 (by assumption) rfl ?p120 ?_; (case y120 => (intro w hSw; (try dsimp only at hSw); simp only [gA, gB, gC, gD, gE]; go_simp; (try with_reducible rfl))); (case p120 => (simp only [Act.put, sA, sB, sC]; try rfl)))
    refine step_one (i := 24) (by kernel_rfl) (fun K o ho hK => ?_)
    simp only [List.getElem?_toArray, List.getElem?_cons_succ, List.getElem?_cons_zero, Option.some.injEq] at ho
    subst ho
    go_simp
    refine hK.out _ _ ?_ (fun hHeld => ?_)
    focus (first | exact S1 | exact S1')
    clear hK K
    try simp only [Act.put, List.setIfInBounds_toArray, List.set_cons_zero, List.set_cons_succ]
    (refine tY 25 3 ?v121 ?a121 rfl (by kernel_rfl) (by rfl) (fun _ _ _ h => h) ?y121 (by assumption) rfl ?p121 ?_; (case y121 => (intro w hSw; (try dsimp only at hSw); simp only [gA, gB, gC, gD, gE]; go_simp; (try with_reducible rfl))); (case p121 => (simp only [Act.put, sA, sB, sC]; try rfl)))
    refine wpAnyH_done (by kernel_rfl) ?_ _
    go_wp2_with fail
    refine bodyPost_ret (v := .tuple #[.agg #[.int .i64 (sz : Int), .slice av fl.length cv], .bool false]) (by simp [results, Tryz.results188, go_sem, q0', q1']) rfl ?_
    exact ⟨_, by rw [HR.out], (HFIN.out _ rfl).1, (HFIN.out _ rfl).2⟩
  ·have b1' : sliceSize (sz : Int) = false := by simpa using b1
   rw [b1'] at hcall
   have HC := hid_of hcall
   clear hcall
   have HR : Hid (R = false) := hid_of (by rw [HMR.out]; simp [b1'])
   clear HMR
   refine wp_region_held_drew (S := fun X => X.cell? ⟨w.heap.size + 1, 1, none⟩ = some (.bool false) ∧ X.cell? ⟨g, 0, none⟩ = some (.int .i64 (sz : Int)) ∧ X.cell? ⟨g, 1, none⟩ = some (.slice av fl.length cv)) (by kernel_rfl) S0 (fun hHeld => ?_)
   (refine tY 0 16 ?v122 ?a122 rfl (by kernel_rfl) (by rfl) (fun _ _ _ h => h) ?y122 (by assumption) rfl ?p122 ?_; (case y122 => (intro w hSw; (try dsimp only at hSw); simp only [gA, gB, gC, gD, gE]; go_simp; (try with_reducible rfl))); (case p122 => (simp only [Act.put, sA, sB, sC]; try rfl)))
   (refine tY 1 17 ?v123 ?a123 rfl (by kernel_rfl) (by rfl) (fun _ _ _ h => h) ?y123 (by assumption) rfl ?p123 ?_; (case y123 => (intro w hSw; (try dsimp only at hSw); simp only [gA, gB, gC, gD, gE]; go_simp; (try with_reducible rfl))); (case p123 => (simp only [Act.put, sA, sB, sC]; try rfl)))
   (refine tY 2 18 ?v124 ?a124 rfl (by kernel_rfl) (by rfl) (fun _ _ _ h => h) ?y124 (by assumption) rfl ?p124 ?_; (case y124 => (intro w hSw; (try dsimp only at hSw); simp only [gA, gB, gC, gD, gE]; go_simp; (try with_reducible rfl))); (case p124 => (simp only [Act.put, sA, sB, sC]; try rfl)))
   (refine tY 3 19 ?v125 ?a125 rfl (by kernel_rfl) (by rfl) (fun _ _ _ h => h) ?y125 (by assumption) rfl ?p125 ?_; (case y125 => (intro w hSw; (try dsimp only at hSw); simp only [gA, gB, gC, gD, gE]; go_simp; (try with_reducible rfl))); (case p125 => (simp only [Act.put, sA, sB, sC]; try rfl)))
   (refine tY 4 20 ?v126 ?a126 rfl (by kernel_rfl) (by rfl) (fun _ _ _ h => h) ?y126 (by assumption) rfl ?p126 ?_; (case y126 => (intro w hSw; (try dsimp only at hSw); simp only [gA, gB, gC, gD, gE]; go_simp; (try with_reducible rfl))); (case p126 => (simp only [Act.put, sA, sB, sC]; try rfl)))
   (refine tY 5 21 ?v127 ?a127 rfl (by kernel_rfl) (by rfl) (fun _ _ _ h => h) ?y127 (by assumption) rfl ?p127 ?_; (case y127 => (intro w hSw; (try dsimp only at hSw); simp only [gA, gB, gC, gD, gE]; go_simp; (try with_reducible rfl))); (case p127 => (simp only [Act.put, sA, sB, sC]; try rfl)))
   (refine tY 6 22 ?v128 ?a128 rfl (by kernel_rfl) (by rfl) (fun _ _ _ h => h) ?y128 (by assumption) rfl ?p128 ?_; (case y128 => (intro w hSw; (try dsimp only at hSw); simp only [gA, gB, gC, gD, gE]; go_simp; (try with_reducible rfl))); (case p128 => (simp only [Act.put, sA, sB, sC]; try rfl)))
   refine step_one (i := 7) (by kernel_rfl) (fun K o ho hK => ?_)
   simp only [List.getElem?_toArray, List.getElem?_cons_succ, List.getElem?_cons_zero, Option.some.injEq] at ho
   subst ho
   go_simp
   refine (HC.out _).mono ?_
   rintro e w' ⟨rfl, rfl⟩
   refine hK.out _ _ ?_ (fun hHeld => ?_)
   focus (exact S0)
   clear hK K
   try simp only [Act.put, List.setIfInBounds_toArray, List.set_cons_zero, List.set_cons_succ]
   (refine tY 8 24 ?v129 ?a129 rfl (by kernel_rfl) (by rfl) (fun _ _ _ h => h) ?y129 (by assumption) rfl ?p129 ?_; (case y129 => (intro w hSw; (try dsimp only at hSw); simp only [gA, gB, gC, gD, gE]; go_simp; (try with_reducible rfl))); (case p129 => (simp only [Act.put, sA, sB, sC]; try rfl)))
   (refine tY 9 25 ?v130 ?a130 rfl (by kernel_rfl) (by rfl) (fun _ _ _ h => h) ?y130 (by assumption) rfl ?p130 ?_; (case y130 => (intro w hSw; (try dsimp only at hSw); simp only [gA, gB, gC, gD, gE]; go_simp; (try with_reducible rfl))); (case p130 => (simp only [Act.put, sA, sB, sC]; try rfl)))
   (refine tN 10 26 ?a131 rfl (by kernel_rfl) (by rfl) (fun _ _ _ h => h) (by assumption) rfl ?p131 ?_; (case p131 => (simp only [Act.put, sA, sB, sC]; try rfl)))
   (refine tN 11 27 ?a132 rfl (by kernel_rfl) (by rfl) (fun _ _ _ h => h) (by assumption) rfl ?p132 ?_; (case p132 => (simp only [Act.put, sA, sB, sC]; try rfl)))
   (refine tY 12 28 ?v133 ?a133 rfl (by kernel_rfl) (by rfl) (fun _ _ _ h => h) ?y133 (by assumption) rfl ?p133 ?_; (case y133 => (intro w hSw; (try dsimp only at hSw); simp only [gA, gB, gC, gD, gE]; go_simp; (try with_reducible rfl))); (case p133 => (simp only [Act.put, sA, sB, sC]; try rfl)))
   (refine tY 13 29 ?v134 ?a134 rfl (by kernel_rfl) (by rfl) (fun _ _ _ h => h) ?y134 (by assumption) rfl ?p134 ?_; (case y134 => (intro w hSw; (try dsimp only at hSw); simp only [gA, gB, gC, gD, gE]; go_simp; (try with_reducible rfl))); (case p134 => (simp only [Act.put, sA, sB, sC]; try rfl)))
   (refine tN 14 30 ?a135 rfl (by kernel_rfl) (by rfl) (fun _ _ _ h => h) (by assumption) rfl ?p135 ?_; (case p135 => (simp only [Act.put, sA, sB, sC]; try rfl)))
   (refine tN 15 31 ?a136 rfl (by kernel_rfl) (by rfl) (fun _ _ _ h => h) (by assumption) rfl ?p136 ?_; (case p136 => (simp only [Act.put, sA, sB, sC]; try rfl)))
   (refine tY 16 32 ?v137 ?a137 rfl (by kernel_rfl) (by rfl) (fun _ _ _ h => h) ?y137 (by assumption) rfl ?p137 ?_; (case y137 => (intro w hSw; (try dsimp only at hSw); simp only [gA, gB, gC, gD, gE]; go_simp; (try with_reducible rfl))); (case p137 => (simp only [Act.put, sA, sB, sC]; try rfl)))
   (refine tY 17 33 ?v138 ?a138 rfl (by kernel_rfl) (by rfl) (fun _ _ _ h => h) ?y138 (by assumption) rfl ?p138 ?_; (case y138 => (intro w hSw; (try dsimp only at hSw); simp only [gA, gB, gC, gD, gE]; go_simp; (try with_reducible rfl))); (case p138 => (simp only [Act.put, sA, sB, sC]; try rfl)))
   (refine tN 18 34 ?a139 rfl (by kernel_rfl) (by rfl) (fun _ _ _ h => h) (by assumption) rfl ?p139 ?_; (case p139 => (simp only [Act.put, sA, sB, sC]; try rfl)))
   (refine tN 19 35 ?a140 rfl (by kernel_rfl) (by rfl) (fun _ _ _ h => h) (by assumption) rfl ?p140 ?_; (case p140 => (simp only [Act.put, sA, sB, sC]; try rfl)))
   (refine tN 20 36 ?a141 rfl (by kernel_rfl) (by rfl) (fun _ _ _ h => h) (by assumption) rfl ?p141 ?_; (case p141 => (simp only [Act.put, sA, sB, sC]; try rfl)))
   (refine tN 21 37 ?a142 rfl (by kernel_rfl) (by rfl) (fun _ _ _ h => h) (by assumption) rfl ?p142 ?_; (case p142 => (simp only [Act.put, sA, sB, sC]; try rfl)))
   (refine tN 22 38 ?a143 rfl (by kernel_rfl) (by rfl) (fun _ _ _ h => h) (by assumption) rfl ?p143 ?_; (case p143 => (simp only [Act.put, sA, sB, sC]; try rfl)))
   (refine tY 23 39 ?v144 ?a144 rfl (by kernel_rfl) (by rfl) (fun _ _ _ h => h) ?y144 (by assumption) rfl ?p144 ?_; (case y144 => (intro w hSw; (try dsimp only at hSw); simp only [gA, gB, gC, gD, gE]; go_simp; (try with_reducible rfl))); (case p144 => (simp only [Act.put, sA, sB, sC]; try rfl)))
   refine step_one (i := 24) (by kernel_rfl) (fun K o ho hK => ?_)
   simp only [List.getElem?_toArray, List.getElem?_cons_succ, List.getElem?_cons_zero, Option.some.injEq] at ho
   subst ho
   go_simp
   refine hK.out _ _ ?_ (fun hHeld => ?_)
   focus (first | exact S1 | exact S1')
   clear hK K
   try simp only [Act.put, List.setIfInBounds_toArray, List.set_cons_zero, List.set_cons_succ]
   (refine tY 25 3 ?v145 ?a145 rfl (by kernel_rfl) (by rfl) (fun _ _ _ h => h) ?y145 (by assumption) rfl ?p145 ?_; (case y145 => (intro w hSw; (try dsimp only at hSw); simp only [gA, gB, gC, gD, gE]; go_simp; (try with_reducible rfl))); (case p145 => (simp only [Act.put, sA, sB, sC]; try rfl)))
   refine wpAnyH_done (by kernel_rfl) ?_ _
   go_wp2_with fail
   refine bodyPost_ret (v := .tuple #[.agg #[.int .i64 (sz : Int), .slice av fl.length cv], .bool false]) (by simp [results, Tryz.results188, go_sem, q0', q1']) rfl ?_
   exact ⟨_, by rw [HR.out], (HFIN.out _ rfl).1, (HFIN.out _ rfl).2⟩
end Go.Proofs.YtonjphollmdicaaGreatDoor
