import Derived.Test.YtonjphollmdicaaGreatDoorB05
namespace Go.Proofs.YtonjphollmdicaaGreatDoor
open Go.ChangeShapes Go.WideShapes Go.ChangeAt Go.RowKit
set_option linter.unusedSimpArgs false in
set_option maxRecDepth 100000 in
set_option maxHeartbeats 8000000 in
theorem ReadFile_walk (b : List UInt8) (size : Nat) (hb : b.length ≤ 1000000) (hsz0 : 2 ≤ size) (hsz : size ≤ 32) (w : World) :
  Calls Tryz.prog 190 #[.string (str b), .int .i64 (size : Int)] w fun e w' => ∃ v, e = .returned (.tuple #[.agg #[.int .i64 (fNumber b : Int), .string (str (fName b)), .int .i64 (fLong b : Int), .int .u64 (fHash b : Int), v], .bool (fRight b size)]) ∧ w'.ownsRow w.heap.size 63 1 v (fSlices b).length (u64V (fSlices b)) ∧ Below w.heap.size w w' := by
 have hn1 : fNumber b < 65536 := numL_two _ (Nat.le_trans (rdT_len _ _) (by omega))
 have hn2 : fN b < 65536 := numL_two _ (Nat.le_trans (rdT_len _ _) (by omega))
 have hn3 : fLong b < 65536 := numL_two _ (rdT_len _ _)
 have l1 : (fS1 b).1.length ≤ 1000000 := Nat.le_trans (rdS_len _ _) hb
 have l2 : (fS2 b).1.length ≤ 1000000 := Nat.le_trans (rdS_len _ _) l1
 have l3 : (fS3 b).1.length ≤ 1000000 := Nat.le_trans (rdS_len _ _) l2
 have l4 : (fS4 b).1.length ≤ 1000000 := Nat.le_trans (rdS_len _ _) l3
 have l5 : (fS5 b).1.length ≤ 1000000 := Nat.le_trans (rdS_len _ _) l4
 have N1 : Hid (∀ W, RdAt (w.heap.size + 1) (b, false) W → Calls Tryz.prog 140 #[.pointer (some ⟨w.heap.size + 1, 0, none⟩), .int .i64 ((1 : Nat) : Int)] W fun e w' => e = .returned (.int .u64 ((fNumber b : Nat) : Int)) ∧ RdAt (w.heap.size + 1) (fS1 b) w' ∧ Touch [w.heap.size + 1] W w') := hid_of (fun W h => number_walk (w.heap.size + 1) (b, false) 1 hb (by omega) W h)
 have N2 : Hid (∀ W, RdAt (w.heap.size + 1) (fS1 b) W → Calls Tryz.prog 140 #[.pointer (some ⟨w.heap.size + 1, 0, none⟩), .int .i64 ((1 : Nat) : Int)] W fun e w' => e = .returned (.int .u64 ((fN b : Nat) : Int)) ∧ RdAt (w.heap.size + 1) (fS2 b) w' ∧ Touch [w.heap.size + 1] W w') := hid_of (fun W h => number_walk (w.heap.size + 1) (fS1 b) 1 l1 (by omega) W h)
 have N3 : Hid (∀ W, RdAt (w.heap.size + 1) (fS2 b) W → Calls Tryz.prog 139 #[.pointer (some ⟨w.heap.size + 1, 0, none⟩), .int .i64 ((fN b : Nat) : Int)] W fun e w' => e = .returned (.string (str (fName b))) ∧ RdAt (w.heap.size + 1) (fS3 b) w' ∧ Touch [w.heap.size + 1] W w') := hid_of (fun W h => text_walk (w.heap.size + 1) (fS2 b) (fN b) l2 W h)
 have N4 : Hid (∀ W, RdAt (w.heap.size + 1) (fS3 b) W → Calls Tryz.prog 140 #[.pointer (some ⟨w.heap.size + 1, 0, none⟩), .int .i64 ((2 : Nat) : Int)] W fun e w' => e = .returned (.int .u64 ((fLong b : Nat) : Int)) ∧ RdAt (w.heap.size + 1) (fS4 b) w' ∧ Touch [w.heap.size + 1] W w') := hid_of (fun W h => number_walk (w.heap.size + 1) (fS3 b) 2 l3 (by omega) W h)
 have N5 : Hid (∀ W, RdAt (w.heap.size + 1) (fS4 b) W → Calls Tryz.prog 140 #[.pointer (some ⟨w.heap.size + 1, 0, none⟩), .int .i64 ((8 : Nat) : Int)] W fun e w' => e = .returned (.int .u64 ((fHash b : Nat) : Int)) ∧ RdAt (w.heap.size + 1) (fS5 b) w' ∧ Touch [w.heap.size + 1] W w') := hid_of (fun W h => number_walk (w.heap.size + 1) (fS4 b) 8 l4 (by omega) W h)
 have N6 : Hid (∀ W, RdAt (w.heap.size + 1) (fS5 b) W → Calls Tryz.prog 194 #[.pointer (some ⟨w.heap.size + 1, 0, none⟩)] W fun e w' => ∃ v, e = .returned v ∧ w'.ownsRow W.heap.size 63 1 v (fSlices b).length (u64V (fSlices b)) ∧ RdAt (w.heap.size + 1) (hshS (fS5 b)) w' ∧ Touch [w.heap.size + 1] W w') := hid_of (fun W h => hashes_walk (w.heap.size + 1) (fS5 b) l5 W h)
 have hmr : fRight b size = (!(hshS (fS5 b)).2 && decide (1 ≤ (fName b).length) && decide ((fName b).length ≤ 20) && decide (fLong b ≤ 400) && decide ((fSlices b).length = slicesOfN (fLong b) size)) := rfl
 have HMR := hid_of hmr
 have hfl : (fSlices b).length ≤ 1000000 := by unfold fSlices; rw [hshL_length]; omega
 have hnl : (fName b).length ≤ 1000000 := Nat.le_trans (rdT_len' _ _) l2
 obtain ⟨nb, hnb⟩ : ∃ x, x = fNumber b := ⟨_, rfl⟩
 obtain ⟨nn, hnn⟩ : ∃ x, x = fN b := ⟨_, rfl⟩
 obtain ⟨nm, hnm⟩ : ∃ x, x = fName b := ⟨_, rfl⟩
 obtain ⟨lo, hlo⟩ : ∃ x, x = fLong b := ⟨_, rfl⟩
 obtain ⟨hh, hhh⟩ : ∃ x, x = fHash b := ⟨_, rfl⟩
 obtain ⟨fl, hfle⟩ : ∃ x, x = fSlices b := ⟨_, rfl⟩
 obtain ⟨s1, hs1⟩ : ∃ x, x = fS1 b := ⟨_, rfl⟩
 obtain ⟨s2, hs2⟩ : ∃ x, x = fS2 b := ⟨_, rfl⟩
 obtain ⟨s3, hs3⟩ : ∃ x, x = fS3 b := ⟨_, rfl⟩
 obtain ⟨s4, hs4⟩ : ∃ x, x = fS4 b := ⟨_, rfl⟩
 obtain ⟨s5, hs5⟩ : ∃ x, x = fS5 b := ⟨_, rfl⟩
 obtain ⟨R, hRe⟩ : ∃ x, x = fRight b size := ⟨_, rfl⟩
 rw [← hnb] at N1 hn1 ⊢
 rw [← hnn] at N2 N3 hn2
 rw [← hnm] at N3 HMR hnl ⊢
 rw [← hlo] at N4 hn3 HMR ⊢
 rw [← hhh] at N5 ⊢
 rw [← hfle] at N6 hfl HMR ⊢
 rw [← hs1] at N1 N2
 rw [← hs2] at N2 N3
 rw [← hs3] at N3 N4
 rw [← hs4] at N4 N5
 rw [← hs5] at N5 N6 HMR
 rw [← hRe] at HMR ⊢
 clear hnb hnn hnm hlo hhh hfle hs1 hs2 hs3 hs4 hs5 hRe hmr l1 l2 l3 l4 l5
 have w1' : IntKind.i64.wrap (nb : Int) = (nb : Int) := by rw [IntKind.wrap_i64]; omega
 have w2' : IntKind.i64.wrap (nn : Int) = (nn : Int) := by rw [IntKind.wrap_i64]; omega
 have w3' : IntKind.i64.wrap (lo : Int) = (lo : Int) := by rw [IntKind.wrap_i64]; omega
 have A1 : Hid (RdAt (w.heap.size + 1) (b, false) ((w.alloc (Obj.cells #[.int .i64 0, .string ⟨#[]⟩, .int .i64 0, .int .u64 0, .slice none 0 0] 143)).alloc (Obj.cells #[Value.string (str b), Value.bool false] 226))) := hid_of ⟨by simp, by simp, by simp, by simp⟩
 go_enter Tryz.func190, Tryz.ntmps190
 go_wp2_with fail
 refine (N1.out _ A1.out).mono ?_
 rintro e w1 ⟨rfl, hr1, ht1⟩
 have hsz1 : w.heap.size + 2 ≤ w1.heap.size := by have := ht1.size; simpa using this
 have hb1 : Below w.heap.size w w1 := Below.trans ((((Below.refl w.heap.size w).alloc (Nat.le_refl _) _).alloc (by simp) _)) (ht1.below (by simp; omega) (by simp))
 have k1 : Blk w1 w.heap.size [.int .i64 0, .string ⟨#[]⟩, .int .i64 0, .int .u64 0, .slice none 0 0] := ((Blk.new w #[.int .i64 0, .string ⟨#[]⟩, .int .i64 0, .int .u64 0, .slice none 0 0] 143).alloc _).touch ht1 (by simp)
 obtain ⟨V, hV⟩ : ∃ V, V = Obj.cells #[.int .i64 (nb : Int), .string ⟨#[]⟩, .int .i64 0, .int .u64 0, .slice none 0 0] 143 := ⟨_, rfl⟩
 have A2 : Hid (RdAt (w.heap.size + 1) s1 (w1.alloc (Obj.cells #[.int .i64 (nb : Int), .string ⟨#[]⟩, .int .i64 0, .int .u64 0, .slice none 0 0] 143))) := hid_of (hr1.touch ((Touch.refl [] _).alloc _) (by simp))
 have K2 := hid_of (k1.alloc V)
 have G2 := hid_of (Blk.new w1 #[.int .i64 (nb : Int), .string ⟨#[]⟩, .int .i64 0, .int .u64 0, .slice none 0 0] 143)
 have B2 := hid_of (hb1.alloc (by omega) V)
 have HV := hid_of hV
 clear ht1 A1 N1 hr1 hb1 k1 hV
 go_wp2_with fail
 refine (N2.out _ A2.out).mono ?_
 rintro e w2 ⟨rfl, hr2, ht2⟩
 go_wp2_with fail
 refine (N3.out _ hr2).mono ?_
 rintro e w3 ⟨rfl, hr3, ht3⟩
 obtain ⟨g, hg⟩ : ∃ g, g = w1.heap.size := ⟨_, rfl⟩
 rw [HV.out] at K2 B2
 rw [← hg] at G2 hsz1 ⊢
 have hgs : (w1.alloc (Obj.cells #[.int .i64 (nb : Int), .string ⟨#[]⟩, .int .i64 0, .int .u64 0, .slice none 0 0] 143)).heap.size = g + 1 := by simp [hg]
 have hgw : g ≠ w.heap.size := by omega
 have hgw' : w.heap.size + 1 ≠ g := by omega
 have ht4 := ht2.trans ht3
 have kq := K2.out.touch ht4 (by simp)
 have kg := G2.out.touch ht4 (by simp; omega)
 have hb3 : Below w.heap.size w w3 := B2.out.trans (ht4.below (by rw [hgs]; omega) (by simp))
 have hs3 : g + 1 ≤ w3.heap.size := by have := ht4.size; rw [hgs] at this; exact this
 have g1 := (kg 1 _ rfl).1
 have y1 := (kg 1 _ rfl).2
 have kq := kq
 have hb := hb3
 have hs := hs3
 have hr := hr3
 clear hb3 hs3 hr3 g1 y1 ht2 ht3 ht4 hr2 K2 G2 B2 A2 HV N2 N3 hgs hg
 have g1 := (kg 1 _ rfl).1
 have y1 := (kg 1 _ rfl).2
 have hb' := hb.setCell (show w.heap.size ≤ (⟨g, 1, none⟩ : Addr).block from by simp; omega) (.string (str nm))
 have kg' := kg.set 1 (.string (str nm))
 have kq' := kq.set_other (a := ⟨g, 1, none⟩) hgw (.string (str nm))
 have hr' : RdAt (w.heap.size + 1) s3 (w3.setCell ⟨g, 1, none⟩ (.string (str nm))) := hr.touch ((Touch.refl [g] _).setCell (.inl (by simp)) _) (by simpa using hgw')
 have hs' : g + 1 ≤ (w3.setCell ⟨g, 1, none⟩ (.string (str nm))).heap.size := by simpa using hs
 simp only [List.set_cons_succ, List.set_cons_zero] at kg'
 have B' := hid_of hb'
 have KG' := hid_of kg'
 have KQ' := hid_of kq'
 have HR' := hid_of hr'
 have HS' := hid_of hs'
 clear kq kg hb hr hs kg' kq' hb' hr' hs'
 go_wp2_with fail
 refine (N4.out _ HR'.out).mono ?_
 rintro e w4 ⟨rfl, hr, ht⟩
 have kq := KQ'.out.touch ht (by simp)
 have kg := KG'.out.touch ht (by simpa using Ne.symm hgw')
 have hb : Below w.heap.size w w4 := B'.out.trans (ht.below (by have := HS'.out; omega) (by simp))
 have hs : g + 1 ≤ w4.heap.size := Nat.le_trans HS'.out ht.size
 clear ht KQ' KG' B' HS' HR'
 have g1 := (kg 2 _ rfl).1
 have y1 := (kg 2 _ rfl).2
 have hb' := hb.setCell (show w.heap.size ≤ (⟨g, 2, none⟩ : Addr).block from by simp; omega) (.int .i64 (lo : Int))
 have kg' := kg.set 2 (.int .i64 (lo : Int))
 have kq' := kq.set_other (a := ⟨g, 2, none⟩) hgw (.int .i64 (lo : Int))
 have hr' : RdAt (w.heap.size + 1) s4 (w4.setCell ⟨g, 2, none⟩ (.int .i64 (lo : Int))) := hr.touch ((Touch.refl [g] _).setCell (.inl (by simp)) _) (by simpa using hgw')
 have hs' : g + 1 ≤ (w4.setCell ⟨g, 2, none⟩ (.int .i64 (lo : Int))).heap.size := by simpa using hs
 simp only [List.set_cons_succ, List.set_cons_zero] at kg'
 have B' := hid_of hb'
 have KG' := hid_of kg'
 have KQ' := hid_of kq'
 have HR' := hid_of hr'
 have HS' := hid_of hs'
 clear kq kg hb hr hs kg' kq' hb' hr' hs'
 go_wp2_with fail
 refine (N5.out _ HR'.out).mono ?_
 rintro e w5 ⟨rfl, hr, ht⟩
 have kq := KQ'.out.touch ht (by simp)
 have kg := KG'.out.touch ht (by simpa using Ne.symm hgw')
 have hb : Below w.heap.size w w5 := B'.out.trans (ht.below (by have := HS'.out; omega) (by simp))
 have hs : g + 1 ≤ w5.heap.size := Nat.le_trans HS'.out ht.size
 clear ht KQ' KG' B' HS' HR'
 have g1 := (kg 3 _ rfl).1
 have y1 := (kg 3 _ rfl).2
 have hb' := hb.setCell (show w.heap.size ≤ (⟨g, 3, none⟩ : Addr).block from by simp; omega) (.int .u64 (hh : Int))
 have kg' := kg.set 3 (.int .u64 (hh : Int))
 have kq' := kq.set_other (a := ⟨g, 3, none⟩) hgw (.int .u64 (hh : Int))
 have hr' : RdAt (w.heap.size + 1) s5 (w5.setCell ⟨g, 3, none⟩ (.int .u64 (hh : Int))) := hr.touch ((Touch.refl [g] _).setCell (.inl (by simp)) _) (by simpa using hgw')
 have hs' : g + 1 ≤ (w5.setCell ⟨g, 3, none⟩ (.int .u64 (hh : Int))).heap.size := by simpa using hs
 simp only [List.set_cons_succ, List.set_cons_zero] at kg'
 have B' := hid_of hb'
 have KG' := hid_of kg'
 have KQ' := hid_of kq'
 have HR' := hid_of hr'
 have HS' := hid_of hs'
 clear kq kg hb hr hs kg' kq' hb' hr' hs'
 go_wp2_with fail
 refine (N6.out _ HR'.out).mono ?_
 rintro e w6 ⟨v, rfl, hown, hr, ht⟩
 obtain ⟨av, cv, rfl, -⟩ := ownsRow_rd hown
 have kq := KQ'.out.touch ht (by simp)
 have kg := KG'.out.touch ht (by simpa using Ne.symm hgw')
 have hb : Below w.heap.size w w6 := B'.out.trans (ht.below (by have := HS'.out; omega) (by simp))
 have ho6 : w6.ownsRow w.heap.size 63 1 (.slice av fl.length cv) fl.length (u64V fl) := ownsRow_base (by have := HS'.out; omega) hown
 have hvg : (Value.slice av fl.length cv).ownBlock ≠ some g := fun e => by
  have h1 := (hown.lt g e).1
  have h2 := HS'.out
  omega
 have hvq : (Value.slice av fl.length cv).ownBlock ≠ some w.heap.size := fun e => by
  have h1 := (hown.lt _ e).1
  have h2 := HS'.out
  omega
 have g4 := (kg 4 _ rfl).1
 have y4 := (kg 4 _ rfl).2
 have hb' := hb.setCell (show w.heap.size ≤ (⟨g, 4, none⟩ : Addr).block from by simp; omega) (.slice av fl.length cv)
 have kg' := kg.set 4 (.slice av fl.length cv)
 have kq' := kq.set_other (a := ⟨g, 4, none⟩) hgw (.slice av fl.length cv)
 have hr' : RdAt (w.heap.size + 1) (hshS s5) (w6.setCell ⟨g, 4, none⟩ (.slice av fl.length cv)) := hr.touch ((Touch.refl [g] _).setCell (.inl (by simp)) _) (by simpa using hgw')
 have ho' := owns_touch' ho6 ((Touch.refl [g] _).setCell (x := ⟨g, 4, none⟩) (.inl (by simp)) (.slice av fl.length cv)) (fun k hk => by
  simp only [List.mem_singleton]
  rintro rfl
  exact hvg hk)
 simp only [List.set_cons_succ, List.set_cons_zero] at kg'
 clear kq kg hb hr ht hown ho6 KQ' KG' B' HS' HR' N4 N5 N6
 have B' := hid_of hb'
 have KG' := hid_of kg'
 have KQ' := hid_of kq'
 have HR' := hid_of hr'
 have HO' := hid_of ho'
 have HVQ := hid_of hvq
 clear hb' kg' kq' hr' ho' hvq hvg
 go_wp2_with fail
 obtain ⟨W, hW⟩ : ∃ W, W = w6.setCell ⟨g, 4, none⟩ (.slice av fl.length cv) := ⟨_, rfl⟩
 rw [← hW] at B' KG' KQ' HR' HO' ⊢
 have hfin : ∀ X : World, X = (((((W.setCell ⟨w.heap.size, 0, none⟩ (.int .i64 (nb : Int))).setCell ⟨w.heap.size, 1, none⟩ (.string (str nm))).setCell ⟨w.heap.size, 2, none⟩ (.int .i64 (lo : Int))).setCell ⟨w.heap.size, 3, none⟩ (.int .u64 (hh : Int))).setCell ⟨w.heap.size, 4, none⟩ (.slice av fl.length cv)).drew → X.ownsRow w.heap.size 63 1 (.slice av fl.length cv) fl.length (u64V fl) ∧ Below w.heap.size w X := by
  rintro X rfl
  refine ⟨owns_touch' HO'.out ((((((Touch.refl [w.heap.size] _).setCell (.inl (by simp)) _).setCell (.inl (by simp)) _).setCell (.inl (by simp)) _).setCell (.inl (by simp)) _).setCell (.inl (by simp)) _).drew (fun k hk => ?_), (((((B'.out.setCell (Nat.le_refl _) _).setCell (Nat.le_refl _) _).setCell (Nat.le_refl _) _).setCell (Nat.le_refl _) _).setCell (Nat.le_refl _) _).drew⟩
  simp only [List.mem_singleton]
  rintro rfl
  exact HVQ.out hk
 have HFIN := hid_of hfin
 obtain ⟨sh, hsh⟩ : ∃ x, x = (hshS s5).2 := ⟨_, rfl⟩
 have r1' := HR'.out.c1
 rw [← hsh] at HMR r1'
 have hS0 : ∀ X : World, (X = W.drew ∨ X = (((((W.setCell ⟨w.heap.size, 0, none⟩ (.int .i64 (nb : Int))).setCell ⟨w.heap.size, 1, none⟩ (.string (str nm))).setCell ⟨w.heap.size, 2, none⟩ (.int .i64 (lo : Int))).setCell ⟨w.heap.size, 3, none⟩ (.int .u64 (hh : Int))).setCell ⟨w.heap.size, 4, none⟩ (.slice av fl.length cv)).drew) → X.cell? ⟨w.heap.size + 1, 1, none⟩ = some (.bool sh) ∧ X.cell? ⟨g, 0, none⟩ = some (.int .i64 (nb : Int)) ∧ X.cell? ⟨g, 1, none⟩ = some (.string (str nm)) ∧ X.cell? ⟨g, 2, none⟩ = some (.int .i64 (lo : Int)) ∧ X.cell? ⟨g, 3, none⟩ = some (.int .u64 (hh : Int)) ∧ X.cell? ⟨g, 4, none⟩ = some (.slice av fl.length cv) := by
  have kgf : ∀ X : World, (X = W.drew ∨ X = (((((W.setCell ⟨w.heap.size, 0, none⟩ (.int .i64 (nb : Int))).setCell ⟨w.heap.size, 1, none⟩ (.string (str nm))).setCell ⟨w.heap.size, 2, none⟩ (.int .i64 (lo : Int))).setCell ⟨w.heap.size, 3, none⟩ (.int .u64 (hh : Int))).setCell ⟨w.heap.size, 4, none⟩ (.slice av fl.length cv)).drew) → Blk X g [.int .i64 (nb : Int), .string (str nm), .int .i64 (lo : Int), .int .u64 (hh : Int), .slice av fl.length cv] ∧ X.cell? ⟨w.heap.size + 1, 1, none⟩ = some (.bool sh) := by
   rintro X (rfl | rfl)
   ·exact ⟨KG'.out.drew, r1'⟩
   ·have ht : Touch [w.heap.size] W ((((((W.setCell ⟨w.heap.size, 0, none⟩ (.int .i64 (nb : Int))).setCell ⟨w.heap.size, 1, none⟩ (.string (str nm))).setCell ⟨w.heap.size, 2, none⟩ (.int .i64 (lo : Int))).setCell ⟨w.heap.size, 3, none⟩ (.int .u64 (hh : Int))).setCell ⟨w.heap.size, 4, none⟩ (.slice av fl.length cv)).drew) := ((((((Touch.refl [w.heap.size] _).setCell (.inl (by simp)) _).setCell (.inl (by simp)) _).setCell (.inl (by simp)) _).setCell (.inl (by simp)) _).setCell (.inl (by simp)) _).drew
    exact ⟨KG'.out.touch ht (by simpa using hgw), by rw [ht.cell (x := ⟨w.heap.size + 1, 1, none⟩) HR'.out.lt (by simp)]; exact r1'⟩
  intro X hX
  obtain ⟨h1, h2⟩ := kgf X hX
  exact ⟨h2, (h1 0 _ rfl).1, (h1 1 _ rfl).1, (h1 2 _ rfl).1, (h1 3 _ rfl).1, (h1 4 _ rfl).1⟩
 have S0 := hid_of hS0
 have kq' := KQ'.out
 have q0' := (kq' 0 _ rfl).1
 have q1' := (kq' 1 _ rfl).1
 have q2' := (kq' 2 _ rfl).1
 have q3' := (kq' 3 _ rfl).1
 have q4' := (kq' 4 _ rfl).1
 have z0' := (kq' 0 _ rfl).2
 have z1' := (kq' 1 _ rfl).2
 have z2' := (kq' 2 _ rfl).2
 have z3' := (kq' 3 _ rfl).2
 have z4' := (kq' 4 _ rfl).2
 have hns := str_size nm
 have hcall := fun W => slicesOf_walk lo size (by omega) (by omega) (by omega) W
 clear hW hfin hS0 kq' r1' hsh B' KG' KQ' HR' HO' HVQ g4 y4 hgw hgw' hsz1 hn1 hn2 w1' w2' w3' hb hsz0 hsz hn3 hnl
 have HC := hid_of hcall
 clear hcall
 cases sh with
 | true =>
  have HR : Hid (R = false) := hid_of (by rw [HMR.out]; rfl)
  clear HMR
  refine wp_region_held_drew (S := fun X => X.cell? ⟨w.heap.size + 1, 1, none⟩ = some (.bool true) ∧ X.cell? ⟨g, 0, none⟩ = some (.int .i64 (nb : Int)) ∧ X.cell? ⟨g, 1, none⟩ = some (.string (str nm)) ∧ X.cell? ⟨g, 2, none⟩ = some (.int .i64 (lo : Int)) ∧ X.cell? ⟨g, 3, none⟩ = some (.int .u64 (hh : Int)) ∧ X.cell? ⟨g, 4, none⟩ = some (.slice av fl.length cv)) (by kernel_rfl) (S0.out _ (Or.inl rfl)) (fun hHeld => ?_)
  (refine tY 0 24 ?v1 ?a1 rfl (by kernel_rfl) (by rfl) (fun _ _ _ h => h) ?y1 (by assumption) rfl ?p1 ?_; (case y1 => (intro w hSw; (try dsimp only at hSw); simp only [gA, gB, gC, gD, gE]; go_simp; (try with_reducible rfl))); (case p1 => (simp only [Act.put, sA, sB, sC]; try rfl)))
  (refine tY 1 25 ?v2 ?a2 rfl (by kernel_rfl) (by rfl) (fun _ _ _ h => h) ?y2 (by assumption) rfl ?p2 ?_; (case y2 => (intro w hSw; (try dsimp only at hSw); simp only [gA, gB, gC, gD, gE]; go_simp; (try with_reducible rfl))); (case p2 => (simp only [Act.put, sA, sB, sC]; try rfl)))
  (refine tY 2 26 ?v3 ?a3 rfl (by kernel_rfl) (by rfl) (fun _ _ _ h => h) ?y3 (by assumption) rfl ?p3 ?_; (case y3 => (intro w hSw; (try dsimp only at hSw); simp only [gA, gB, gC, gD, gE]; go_simp; (try with_reducible rfl))); (case p3 => (simp only [Act.put, sA, sB, sC]; try rfl)))
  (refine tY 3 27 ?v4 ?a4 rfl (by kernel_rfl) (by rfl) (fun _ _ _ h => h) ?y4 (by assumption) rfl ?p4 ?_; (case y4 => (intro w hSw; (try dsimp only at hSw); simp only [gA, gB, gC, gD, gE]; go_simp; (try with_reducible rfl))); (case p4 => (simp only [Act.put, sA, sB, sC]; try rfl)))
  (refine tY 4 28 ?v5 ?a5 rfl (by kernel_rfl) (by rfl) (fun _ _ _ h => h) ?y5 (by assumption) rfl ?p5 ?_; (case y5 => (intro w hSw; (try dsimp only at hSw); simp only [gA, gB, gC, gD, gE]; go_simp; (try with_reducible rfl))); (case p5 => (simp only [Act.put, sA, sB, sC]; try rfl)))
  (refine tN 5 29 ?a6 rfl (by kernel_rfl) (by rfl) (fun _ _ _ h => h) (by assumption) rfl ?p6 ?_; (case p6 => (simp only [Act.put, sA, sB, sC]; try rfl)))
  (refine tN 6 30 ?a7 rfl (by kernel_rfl) (by rfl) (fun _ _ _ h => h) (by assumption) rfl ?p7 ?_; (case p7 => (simp only [Act.put, sA, sB, sC]; try rfl)))
  (refine tN 7 31 ?a8 rfl (by kernel_rfl) (by rfl) (fun _ _ _ h => h) (by assumption) rfl ?p8 ?_; (case p8 => (simp only [Act.put, sA, sB, sC]; try rfl)))
  (refine tN 8 32 ?a9 rfl (by kernel_rfl) (by rfl) (fun _ _ _ h => h) (by assumption) rfl ?p9 ?_; (case p9 => (simp only [Act.put, sA, sB, sC]; try rfl)))
  (refine tY 9 33 ?v10 ?a10 rfl (by kernel_rfl) (by rfl) (fun _ _ _ h => h) ?y10 (by assumption) rfl ?p10 ?_; (case y10 => (intro w hSw; (try dsimp only at hSw); simp only [gA, gB, gC, gD, gE]; go_simp; (try with_reducible rfl))); (case p10 => (simp only [Act.put, sA, sB, sC]; try rfl)))
  (refine tY 10 34 ?v11 ?a11 rfl (by kernel_rfl) (by rfl) (fun _ _ _ h => h) ?y11 (by assumption) rfl ?p11 ?_; (case y11 => (intro w hSw; (try dsimp only at hSw); simp only [gA, gB, gC, gD, gE]; go_simp; (try with_reducible rfl))); (case p11 => (simp only [Act.put, sA, sB, sC]; try rfl)))
  (refine tN 11 35 ?a12 rfl (by kernel_rfl) (by rfl) (fun _ _ _ h => h) (by assumption) rfl ?p12 ?_; (case p12 => (simp only [Act.put, sA, sB, sC]; try rfl)))
  (refine tN 12 36 ?a13 rfl (by kernel_rfl) (by rfl) (fun _ _ _ h => h) (by assumption) rfl ?p13 ?_; (case p13 => (simp only [Act.put, sA, sB, sC]; try rfl)))
  (refine tN 13 37 ?a14 rfl (by kernel_rfl) (by rfl) (fun _ _ _ h => h) (by assumption) rfl ?p14 ?_; (case p14 => (simp only [Act.put, sA, sB, sC]; try rfl)))
  (refine tN 14 38 ?a15 rfl (by kernel_rfl) (by rfl) (fun _ _ _ h => h) (by assumption) rfl ?p15 ?_; (case p15 => (simp only [Act.put, sA, sB, sC]; try rfl)))
  (refine tY 15 39 ?v16 ?a16 rfl (by kernel_rfl) (by rfl) (fun _ _ _ h => h) ?y16 (by assumption) rfl ?p16 ?_; (case y16 => (intro w hSw; (try dsimp only at hSw); simp only [gA, gB, gC, gD, gE]; go_simp; (try with_reducible rfl))); (case p16 => (simp only [Act.put, sA, sB, sC]; try rfl)))
  (refine tY 16 40 ?v17 ?a17 rfl (by kernel_rfl) (by rfl) (fun _ _ _ h => h) ?y17 (by assumption) rfl ?p17 ?_; (case y17 => (intro w hSw; (try dsimp only at hSw); simp only [gA, gB, gC, gD, gE]; go_simp; (try with_reducible rfl))); (case p17 => (simp only [Act.put, sA, sB, sC]; try rfl)))
  (refine tN 17 41 ?a18 rfl (by kernel_rfl) (by rfl) (fun _ _ _ h => h) (by assumption) rfl ?p18 ?_; (case p18 => (simp only [Act.put, sA, sB, sC]; try rfl)))
  (refine tN 18 42 ?a19 rfl (by kernel_rfl) (by rfl) (fun _ _ _ h => h) (by assumption) rfl ?p19 ?_; (case p19 => (simp only [Act.put, sA, sB, sC]; try rfl)))
  (refine tN 19 43 ?a20 rfl (by kernel_rfl) (by rfl) (fun _ _ _ h => h) (by assumption) rfl ?p20 ?_; (case p20 => (simp only [Act.put, sA, sB, sC]; try rfl)))
  (refine tY 20 44 ?v21 ?a21 rfl (by kernel_rfl) (by rfl) (fun _ _ _ h => h) ?y21 (by assumption) rfl ?p21 ?_; (case y21 => (intro w hSw; (try dsimp only at hSw); simp only [gA, gB, gC, gD, gE]; go_simp; (try with_reducible rfl))); (case p21 => (simp only [Act.put, sA, sB, sC]; try rfl)))
  (refine tY 21 45 ?v22 ?a22 rfl (by kernel_rfl) (by rfl) (fun _ _ _ h => h) ?y22 (by assumption) rfl ?p22 ?_; (case y22 => (intro w hSw; (try dsimp only at hSw); simp only [gA, gB, gC, gD, gE]; go_simp; (try with_reducible rfl))); (case p22 => (simp only [Act.put, sA, sB, sC]; try rfl)))
  (refine tN 22 46 ?a23 rfl (by kernel_rfl) (by rfl) (fun _ _ _ h => h) (by assumption) rfl ?p23 ?_; (case p23 => (simp only [Act.put, sA, sB, sC]; try rfl)))
  (refine tN 23 47 ?a24 rfl (by kernel_rfl) (by rfl) (fun _ _ _ h => h) (by assumption) rfl ?p24 ?_; (case p24 => (simp only [Act.put, sA, sB, sC]; try rfl)))
  (refine tN 24 48 ?a25 rfl (by kernel_rfl) (by rfl) (fun _ _ _ h => h) (by assumption) rfl ?p25 ?_; (case p25 => (simp only [Act.put, sA, sB, sC]; try rfl)))
  (refine tN 25 49 ?a26 rfl (by kernel_rfl) (by rfl) (fun _ _ _ h => h) (by assumption) rfl ?p26 ?_; (case p26 => (simp only [Act.put, sA, sB, sC]; try rfl)))
  (refine tN 26 50 ?a27 rfl (by kernel_rfl) (by rfl) (fun _ _ _ h => h) (by assumption) rfl ?p27 ?_; (case p27 => (simp only [Act.put, sA, sB, sC]; try rfl)))
  (refine tN 27 51 ?a28 rfl (by kernel_rfl) (by rfl) (fun _ _ _ h => h) (by assumption) rfl ?p28 ?_; (case p28 => (simp only [Act.put, sA, sB, sC]; try rfl)))
  (refine tN 28 52 ?a29 rfl (by kernel_rfl) (by rfl) (fun _ _ _ h => h) (by assumption) rfl ?p29 ?_; (case p29 => (simp only [Act.put, sA, sB, sC]; try rfl)))
  (refine tN 29 53 ?a30 rfl (by kernel_rfl) (by rfl) (fun _ _ _ h => h) (by assumption) rfl ?p30 ?_; (case p30 => (simp only [Act.put, sA, sB, sC]; try rfl)))
  (refine tY 30 54 ?v31 ?a31 rfl (by kernel_rfl) (by rfl) (fun _ _ _ h => h) ?y31 (by assumption) rfl ?p31 ?_; (case y31 => (intro w hSw; (try dsimp only at hSw); simp only [gA, gB, gC, gD, gE]; go_simp; (try with_reducible rfl))); (case p31 => (simp only [Act.put, sA, sB, sC]; try rfl)))
  refine step_one (i := 31) (by kernel_rfl) (fun K o ho hK => ?_)
  simp only [List.getElem?_toArray, List.getElem?_cons_succ, List.getElem?_cons_zero, Option.some.injEq] at ho
  subst ho
  go_simp
  refine hK.out _ _ ?_ (fun hHeld => ?_)
  focus exact S0.out _ (Or.inr rfl)
  clear hK K
  try simp only [Act.put, List.setIfInBounds_toArray, List.set_cons_zero, List.set_cons_succ]
  (refine tY 32 5 ?v32 ?a32 rfl (by kernel_rfl) (by rfl) (fun _ _ _ h => h) ?y32 (by assumption) rfl ?p32 ?_; (case y32 => (intro w hSw; (try dsimp only at hSw); simp only [gA, gB, gC, gD, gE]; go_simp; (try with_reducible rfl))); (case p32 => (simp only [Act.put, sA, sB, sC]; try rfl)))
  refine wpAnyH_done (by kernel_rfl) ?_ _
  go_wp2_with fail
  refine bodyPost_ret (v := .tuple #[.agg #[.int .i64 (nb : Int), .string (str nm), .int .i64 (lo : Int), .int .u64 (hh : Int), .slice av fl.length cv], .bool false]) (by simp [results, Tryz.results190, go_sem, q0', q1', q2', q3', q4']) rfl ?_
  exact ⟨_, by rw [HR.out], HFIN.out _ rfl⟩
 | false =>
  by_cases b1 : 1 ≤ nm.length
  ·have e1 : (1 : Int) ≤ (nm.length : Int) := by omega
   by_cases b2 : nm.length ≤ 20
   ·have e2 : (nm.length : Int) ≤ 20 := by omega
    by_cases b3 : lo ≤ 400
    ·have e3 : (lo : Int) ≤ 400 := by omega
     by_cases b4 : fl.length = slicesOfN lo size
     ·have e4 : ((fl.length : Int) == (slicesOfN lo size : Int)) = true := by simp [b4]
      have HR : Hid (R = true) := hid_of (by rw [HMR.out]; rw [decide_eq_true b1, decide_eq_true b2, decide_eq_true b3, decide_eq_true b4]; rfl)
      clear HMR b4 b3 b2 b1 hfl
      refine wp_region_held_drew (S := fun X => X.cell? ⟨w.heap.size + 1, 1, none⟩ = some (.bool false) ∧ X.cell? ⟨g, 0, none⟩ = some (.int .i64 (nb : Int)) ∧ X.cell? ⟨g, 1, none⟩ = some (.string (str nm)) ∧ X.cell? ⟨g, 2, none⟩ = some (.int .i64 (lo : Int)) ∧ X.cell? ⟨g, 3, none⟩ = some (.int .u64 (hh : Int)) ∧ X.cell? ⟨g, 4, none⟩ = some (.slice av fl.length cv)) (by kernel_rfl) (S0.out _ (Or.inl rfl)) (fun hHeld => ?_)
      (refine tY 0 24 ?v33 ?a33 rfl (by kernel_rfl) (by rfl) (fun _ _ _ h => h) ?y33 (by assumption) rfl ?p33 ?_; (case y33 => (intro w hSw; (try dsimp only at hSw); simp only [gA, gB, gC, gD, gE]; go_simp; (try with_reducible rfl))); (case p33 => (simp only [Act.put, sA, sB, sC]; try rfl)))
      (refine tY 1 25 ?v34 ?a34 rfl (by kernel_rfl) (by rfl) (fun _ _ _ h => h) ?y34 (by assumption) rfl ?p34 ?_; (case y34 => (intro w hSw; (try dsimp only at hSw); simp only [gA, gB, gC, gD, gE]; go_simp; (try with_reducible rfl))); (case p34 => (simp only [Act.put, sA, sB, sC]; try rfl)))
      (refine tY 2 26 ?v35 ?a35 rfl (by kernel_rfl) (by rfl) (fun _ _ _ h => h) ?y35 (by assumption) rfl ?p35 ?_; (case y35 => (intro w hSw; (try dsimp only at hSw); simp only [gA, gB, gC, gD, gE]; go_simp; (try with_reducible rfl))); (case p35 => (simp only [Act.put, sA, sB, sC]; try rfl)))
      (refine tY 3 27 ?v36 ?a36 rfl (by kernel_rfl) (by rfl) (fun _ _ _ h => h) ?y36 (by assumption) rfl ?p36 ?_; (case y36 => (intro w hSw; (try dsimp only at hSw); simp only [gA, gB, gC, gD, gE]; go_simp; (try with_reducible rfl))); (case p36 => (simp only [Act.put, sA, sB, sC]; try rfl)))
      (refine tY 4 28 ?v37 ?a37 rfl (by kernel_rfl) (by rfl) (fun _ _ _ h => h) ?y37 (by assumption) rfl ?p37 ?_; (case y37 => (intro w hSw; (try dsimp only at hSw); simp only [gA, gB, gC, gD, gE]; go_simp; (try with_reducible rfl))); (case p37 => (simp only [Act.put, sA, sB, sC]; try rfl)))
      (refine tY 5 29 ?v38 ?a38 rfl (by kernel_rfl) (by rfl) (fun _ _ _ h => h) ?y38 (by assumption) rfl ?p38 ?_; (case y38 => (intro w hSw; (try dsimp only at hSw); simp only [gA, gB, gC, gD, gE]; go_simp; (try with_reducible rfl))); (case p38 => (simp only [Act.put, sA, sB, sC]; try rfl)))
      (refine tY 6 30 ?v39 ?a39 rfl (by kernel_rfl) (by rfl) (fun _ _ _ h => h) ?y39 (by assumption) rfl ?p39 ?_; (case y39 => (intro w hSw; (try dsimp only at hSw); simp only [gA, gB, gC, gD, gE]; go_simp; (try with_reducible rfl))); (case p39 => (simp only [Act.put, sA, sB, sC]; try rfl)))
      (refine tY 7 31 ?v40 ?a40 rfl (by kernel_rfl) (by rfl) (fun _ _ _ h => h) ?y40 (by assumption) rfl ?p40 ?_; (case y40 => (intro w hSw; (try dsimp only at hSw); simp only [gA, gB, gC, gD, gE]; go_simp; (try with_reducible rfl))); (case p40 => (simp only [Act.put, sA, sB, sC]; try rfl)))
      (refine tY 8 32 ?v41 ?a41 rfl (by kernel_rfl) (by rfl) (fun _ _ _ h => h) ?y41 (by assumption) rfl ?p41 ?_; (case y41 => (intro w hSw; (try dsimp only at hSw); simp only [gA, gB, gC, gD, gE]; go_simp; (try with_reducible rfl))); (case p41 => (simp only [Act.put, sA, sB, sC]; try rfl)))
      (refine tY 9 33 ?v42 ?a42 rfl (by kernel_rfl) (by rfl) (fun _ _ _ h => h) ?y42 (by assumption) rfl ?p42 ?_; (case y42 => (intro w hSw; (try dsimp only at hSw); simp only [gA, gB, gC, gD, gE]; go_simp; (try with_reducible rfl))); (case p42 => (simp only [Act.put, sA, sB, sC]; try rfl)))
      (refine tY 10 34 ?v43 ?a43 rfl (by kernel_rfl) (by rfl) (fun _ _ _ h => h) ?y43 (by assumption) rfl ?p43 ?_; (case y43 => (intro w hSw; (try dsimp only at hSw); simp only [gA, gB, gC, gD, gE]; go_simp; (try with_reducible rfl))); (case p43 => (simp only [Act.put, sA, sB, sC]; try rfl)))
      (refine tY 11 35 ?v44 ?a44 rfl (by kernel_rfl) (by rfl) (fun _ _ _ h => h) ?y44 (by assumption) rfl ?p44 ?_; (case y44 => (intro w hSw; (try dsimp only at hSw); simp only [gA, gB, gC, gD, gE]; go_simp; (try with_reducible rfl))); (case p44 => (simp only [Act.put, sA, sB, sC]; try rfl)))
      (refine tY 12 36 ?v45 ?a45 rfl (by kernel_rfl) (by rfl) (fun _ _ _ h => h) ?y45 (by assumption) rfl ?p45 ?_; (case y45 => (intro w hSw; (try dsimp only at hSw); simp only [gA, gB, gC, gD, gE]; go_simp; (try with_reducible rfl))); (case p45 => (simp only [Act.put, sA, sB, sC]; try rfl)))
      (refine tY 13 37 ?v46 ?a46 rfl (by kernel_rfl) (by rfl) (fun _ _ _ h => h) ?y46 (by assumption) rfl ?p46 ?_; (case y46 => (intro w hSw; (try dsimp only at hSw); simp only [gA, gB, gC, gD, gE]; go_simp; (try with_reducible rfl))); (case p46 => (simp only [Act.put, sA, sB, sC]; try rfl)))
      (refine tY 14 38 ?v47 ?a47 rfl (by kernel_rfl) (by rfl) (fun _ _ _ h => h) ?y47 (by assumption) rfl ?p47 ?_; (case y47 => (intro w hSw; (try dsimp only at hSw); simp only [gA, gB, gC, gD, gE]; go_simp; (try with_reducible rfl))); (case p47 => (simp only [Act.put, sA, sB, sC]; try rfl)))
      (refine tY 15 39 ?v48 ?a48 rfl (by kernel_rfl) (by rfl) (fun _ _ _ h => h) ?y48 (by assumption) rfl ?p48 ?_; (case y48 => (intro w hSw; (try dsimp only at hSw); simp only [gA, gB, gC, gD, gE]; go_simp; (try with_reducible rfl))); (case p48 => (simp only [Act.put, sA, sB, sC]; try rfl)))
      (refine tY 16 40 ?v49 ?a49 rfl (by kernel_rfl) (by rfl) (fun _ _ _ h => h) ?y49 (by assumption) rfl ?p49 ?_; (case y49 => (intro w hSw; (try dsimp only at hSw); simp only [gA, gB, gC, gD, gE]; go_simp; (try with_reducible rfl))); (case p49 => (simp only [Act.put, sA, sB, sC]; try rfl)))
      (refine tY 17 41 ?v50 ?a50 rfl (by kernel_rfl) (by rfl) (fun _ _ _ h => h) ?y50 (by assumption) rfl ?p50 ?_; (case y50 => (intro w hSw; (try dsimp only at hSw); simp only [gA, gB, gC, gD, gE]; go_simp; (try with_reducible rfl))); (case p50 => (simp only [Act.put, sA, sB, sC]; try rfl)))
      (refine tY 18 42 ?v51 ?a51 rfl (by kernel_rfl) (by rfl) (fun _ _ _ h => h) ?y51 (by assumption) rfl ?p51 ?_; (case y51 => (intro w hSw; (try dsimp only at hSw); simp only [gA, gB, gC, gD, gE]; go_simp; (try with_reducible rfl))); (case p51 => (simp only [Act.put, sA, sB, sC]; try rfl)))
      (refine tY 19 43 ?v52 ?a52 rfl (by kernel_rfl) (by rfl) (fun _ _ _ h => h) ?y52 (by assumption) rfl ?p52 ?_; (case y52 => (intro w hSw; (try dsimp only at hSw); simp only [gA, gB, gC, gD, gE]; go_simp; (try with_reducible rfl))); (case p52 => (simp only [Act.put, sA, sB, sC]; try rfl)))
      (refine tY 20 44 ?v53 ?a53 rfl (by kernel_rfl) (by rfl) (fun _ _ _ h => h) ?y53 (by assumption) rfl ?p53 ?_; (case y53 => (intro w hSw; (try dsimp only at hSw); simp only [gA, gB, gC, gD, gE]; go_simp; (try with_reducible rfl))); (case p53 => (simp only [Act.put, sA, sB, sC]; try rfl)))
      (refine tY 21 45 ?v54 ?a54 rfl (by kernel_rfl) (by rfl) (fun _ _ _ h => h) ?y54 (by assumption) rfl ?p54 ?_; (case y54 => (intro w hSw; (try dsimp only at hSw); simp only [gA, gB, gC, gD, gE]; go_simp; (try with_reducible rfl))); (case p54 => (simp only [Act.put, sA, sB, sC]; try rfl)))
      (refine tY 22 46 ?v55 ?a55 rfl (by kernel_rfl) (by rfl) (fun _ _ _ h => h) ?y55 (by assumption) rfl ?p55 ?_; (case y55 => (intro w hSw; (try dsimp only at hSw); simp only [gA, gB, gC, gD, gE]; go_simp; (try with_reducible rfl))); (case p55 => (simp only [Act.put, sA, sB, sC]; try rfl)))
      (refine tY 23 47 ?v56 ?a56 rfl (by kernel_rfl) (by rfl) (fun _ _ _ h => h) ?y56 (by assumption) rfl ?p56 ?_; (case y56 => (intro w hSw; (try dsimp only at hSw); simp only [gA, gB, gC, gD, gE]; go_simp; (try with_reducible rfl))); (case p56 => (simp only [Act.put, sA, sB, sC]; try rfl)))
      (refine tY 24 48 ?v57 ?a57 rfl (by kernel_rfl) (by rfl) (fun _ _ _ h => h) ?y57 (by assumption) rfl ?p57 ?_; (case y57 => (intro w hSw; (try dsimp only at hSw); simp only [gA, gB, gC, gD, gE]; go_simp; (try with_reducible rfl))); (case p57 => (simp only [Act.put, sA, sB, sC]; try rfl)))
      (refine tY 25 49 ?v58 ?a58 rfl (by kernel_rfl) (by rfl) (fun _ _ _ h => h) ?y58 (by assumption) rfl ?p58 ?_; (case y58 => (intro w hSw; (try dsimp only at hSw); simp only [gA, gB, gC, gD, gE]; go_simp; (try with_reducible rfl))); (case p58 => (simp only [Act.put, sA, sB, sC]; try rfl)))
      (refine tY 26 50 ?v59 ?a59 rfl (by kernel_rfl) (by rfl) (fun _ _ _ h => h) ?y59 (by assumption) rfl ?p59 ?_; (case y59 => (intro w hSw; (try dsimp only at hSw); simp only [gA, gB, gC, gD, gE]; go_simp; (try with_reducible rfl))); (case p59 => (simp only [Act.put, sA, sB, sC]; try rfl)))
      (refine tY 27 51 ?v60 ?a60 rfl (by kernel_rfl) (by rfl) (fun _ _ _ h => h) ?y60 (by assumption) rfl ?p60 ?_; (case y60 => (intro w hSw; (try dsimp only at hSw); simp only [gA, gB, gC, gD, gE]; go_simp; (try with_reducible rfl))); (case p60 => (simp only [Act.put, sA, sB, sC]; try rfl)))
      refine step_one (i := 28) (by kernel_rfl) (fun K o ho hK => ?_)
      simp only [List.getElem?_toArray, List.getElem?_cons_succ, List.getElem?_cons_zero, Option.some.injEq] at ho
      subst ho
      go_simp
      refine (HC.out _).mono ?_
      rintro e w' ⟨rfl, rfl⟩
      refine hK.out _ _ ?_ (fun hHeld => ?_)
      focus exact S0.out _ (Or.inl rfl)
      clear hK K
      try simp only [Act.put, List.setIfInBounds_toArray, List.set_cons_zero, List.set_cons_succ]
      (refine tY 29 53 ?v61 ?a61 rfl (by kernel_rfl) (by rfl) (fun _ _ _ h => h) ?y61 (by assumption) rfl ?p61 ?_; (case y61 => (intro w hSw; (try dsimp only at hSw); simp only [gA, gB, gC, gD, gE]; go_simp; (try with_reducible rfl))); (case p61 => (simp only [Act.put, sA, sB, sC]; try rfl)))
      (refine tY 30 54 ?v62 ?a62 rfl (by kernel_rfl) (by rfl) (fun _ _ _ h => h) ?y62 (by assumption) rfl ?p62 ?_; (case y62 => (intro w hSw; (try dsimp only at hSw); simp only [gA, gB, gC, gD, gE]; go_simp; (try with_reducible rfl))); (case p62 => (simp only [Act.put, sA, sB, sC]; try rfl)))
      refine step_one (i := 31) (by kernel_rfl) (fun K o ho hK => ?_)
      simp only [List.getElem?_toArray, List.getElem?_cons_succ, List.getElem?_cons_zero, Option.some.injEq] at ho
      subst ho
      go_simp
      refine hK.out _ _ ?_ (fun hHeld => ?_)
      focus exact S0.out _ (Or.inr rfl)
      clear hK K
      try simp only [Act.put, List.setIfInBounds_toArray, List.set_cons_zero, List.set_cons_succ]
      (refine tY 32 5 ?v63 ?a63 rfl (by kernel_rfl) (by rfl) (fun _ _ _ h => h) ?y63 (by assumption) rfl ?p63 ?_; (case y63 => (intro w hSw; (try dsimp only at hSw); simp only [gA, gB, gC, gD, gE]; go_simp; (try with_reducible rfl))); (case p63 => (simp only [Act.put, sA, sB, sC]; try rfl)))
      refine wpAnyH_done (by kernel_rfl) ?_ _
      go_wp2_with fail
      refine bodyPost_ret (v := .tuple #[.agg #[.int .i64 (nb : Int), .string (str nm), .int .i64 (lo : Int), .int .u64 (hh : Int), .slice av fl.length cv], .bool true]) (by simp [results, Tryz.results190, go_sem, q0', q1', q2', q3', q4']) rfl ?_
      exact ⟨_, by rw [HR.out], HFIN.out _ rfl⟩
     ·have e4 : ((fl.length : Int) == (slicesOfN lo size : Int)) = false := by simp; omega
      have HR : Hid (R = false) := hid_of (by rw [HMR.out]; simp [b4])
      clear HMR b4 b3 b2 b1 hfl
      refine wp_region_held_drew (S := fun X => X.cell? ⟨w.heap.size + 1, 1, none⟩ = some (.bool false) ∧ X.cell? ⟨g, 0, none⟩ = some (.int .i64 (nb : Int)) ∧ X.cell? ⟨g, 1, none⟩ = some (.string (str nm)) ∧ X.cell? ⟨g, 2, none⟩ = some (.int .i64 (lo : Int)) ∧ X.cell? ⟨g, 3, none⟩ = some (.int .u64 (hh : Int)) ∧ X.cell? ⟨g, 4, none⟩ = some (.slice av fl.length cv)) (by kernel_rfl) (S0.out _ (Or.inl rfl)) (fun hHeld => ?_)
      (refine tY 0 24 ?v64 ?a64 rfl (by kernel_rfl) (by rfl) (fun _ _ _ h => h) ?y64 (by assumption) rfl ?p64 ?_; (case y64 => (intro w hSw; (try dsimp only at hSw); simp only [gA, gB, gC, gD, gE]; go_simp; (try with_reducible rfl))); (case p64 => (simp only [Act.put, sA, sB, sC]; try rfl)))
      (refine tY 1 25 ?v65 ?a65 rfl (by kernel_rfl) (by rfl) (fun _ _ _ h => h) ?y65 (by assumption) rfl ?p65 ?_; (case y65 => (intro w hSw; (try dsimp only at hSw); simp only [gA, gB, gC, gD, gE]; go_simp; (try with_reducible rfl))); (case p65 => (simp only [Act.put, sA, sB, sC]; try rfl)))
      (refine tY 2 26 ?v66 ?a66 rfl (by kernel_rfl) (by rfl) (fun _ _ _ h => h) ?y66 (by assumption) rfl ?p66 ?_; (case y66 => (intro w hSw; (try dsimp only at hSw); simp only [gA, gB, gC, gD, gE]; go_simp; (try with_reducible rfl))); (case p66 => (simp only [Act.put, sA, sB, sC]; try rfl)))
      (refine tY 3 27 ?v67 ?a67 rfl (by kernel_rfl) (by rfl) (fun _ _ _ h => h) ?y67 (by assumption) rfl ?p67 ?_; (case y67 => (intro w hSw; (try dsimp only at hSw); simp only [gA, gB, gC, gD, gE]; go_simp; (try with_reducible rfl))); (case p67 => (simp only [Act.put, sA, sB, sC]; try rfl)))
      (refine tY 4 28 ?v68 ?a68 rfl (by kernel_rfl) (by rfl) (fun _ _ _ h => h) ?y68 (by assumption) rfl ?p68 ?_; (case y68 => (intro w hSw; (try dsimp only at hSw); simp only [gA, gB, gC, gD, gE]; go_simp; (try with_reducible rfl))); (case p68 => (simp only [Act.put, sA, sB, sC]; try rfl)))
      (refine tY 5 29 ?v69 ?a69 rfl (by kernel_rfl) (by rfl) (fun _ _ _ h => h) ?y69 (by assumption) rfl ?p69 ?_; (case y69 => (intro w hSw; (try dsimp only at hSw); simp only [gA, gB, gC, gD, gE]; go_simp; (try with_reducible rfl))); (case p69 => (simp only [Act.put, sA, sB, sC]; try rfl)))
      (refine tY 6 30 ?v70 ?a70 rfl (by kernel_rfl) (by rfl) (fun _ _ _ h => h) ?y70 (by assumption) rfl ?p70 ?_; (case y70 => (intro w hSw; (try dsimp only at hSw); simp only [gA, gB, gC, gD, gE]; go_simp; (try with_reducible rfl))); (case p70 => (simp only [Act.put, sA, sB, sC]; try rfl)))
      (refine tY 7 31 ?v71 ?a71 rfl (by kernel_rfl) (by rfl) (fun _ _ _ h => h) ?y71 (by assumption) rfl ?p71 ?_; (case y71 => (intro w hSw; (try dsimp only at hSw); simp only [gA, gB, gC, gD, gE]; go_simp; (try with_reducible rfl))); (case p71 => (simp only [Act.put, sA, sB, sC]; try rfl)))
      (refine tY 8 32 ?v72 ?a72 rfl (by kernel_rfl) (by rfl) (fun _ _ _ h => h) ?y72 (by assumption) rfl ?p72 ?_; (case y72 => (intro w hSw; (try dsimp only at hSw); simp only [gA, gB, gC, gD, gE]; go_simp; (try with_reducible rfl))); (case p72 => (simp only [Act.put, sA, sB, sC]; try rfl)))
      (refine tY 9 33 ?v73 ?a73 rfl (by kernel_rfl) (by rfl) (fun _ _ _ h => h) ?y73 (by assumption) rfl ?p73 ?_; (case y73 => (intro w hSw; (try dsimp only at hSw); simp only [gA, gB, gC, gD, gE]; go_simp; (try with_reducible rfl))); (case p73 => (simp only [Act.put, sA, sB, sC]; try rfl)))
      (refine tY 10 34 ?v74 ?a74 rfl (by kernel_rfl) (by rfl) (fun _ _ _ h => h) ?y74 (by assumption) rfl ?p74 ?_; (case y74 => (intro w hSw; (try dsimp only at hSw); simp only [gA, gB, gC, gD, gE]; go_simp; (try with_reducible rfl))); (case p74 => (simp only [Act.put, sA, sB, sC]; try rfl)))
      (refine tY 11 35 ?v75 ?a75 rfl (by kernel_rfl) (by rfl) (fun _ _ _ h => h) ?y75 (by assumption) rfl ?p75 ?_; (case y75 => (intro w hSw; (try dsimp only at hSw); simp only [gA, gB, gC, gD, gE]; go_simp; (try with_reducible rfl))); (case p75 => (simp only [Act.put, sA, sB, sC]; try rfl)))
      (refine tY 12 36 ?v76 ?a76 rfl (by kernel_rfl) (by rfl) (fun _ _ _ h => h) ?y76 (by assumption) rfl ?p76 ?_; (case y76 => (intro w hSw; (try dsimp only at hSw); simp only [gA, gB, gC, gD, gE]; go_simp; (try with_reducible rfl))); (case p76 => (simp only [Act.put, sA, sB, sC]; try rfl)))
      (refine tY 13 37 ?v77 ?a77 rfl (by kernel_rfl) (by rfl) (fun _ _ _ h => h) ?y77 (by assumption) rfl ?p77 ?_; (case y77 => (intro w hSw; (try dsimp only at hSw); simp only [gA, gB, gC, gD, gE]; go_simp; (try with_reducible rfl))); (case p77 => (simp only [Act.put, sA, sB, sC]; try rfl)))
      (refine tY 14 38 ?v78 ?a78 rfl (by kernel_rfl) (by rfl) (fun _ _ _ h => h) ?y78 (by assumption) rfl ?p78 ?_; (case y78 => (intro w hSw; (try dsimp only at hSw); simp only [gA, gB, gC, gD, gE]; go_simp; (try with_reducible rfl))); (case p78 => (simp only [Act.put, sA, sB, sC]; try rfl)))
      (refine tY 15 39 ?v79 ?a79 rfl (by kernel_rfl) (by rfl) (fun _ _ _ h => h) ?y79 (by assumption) rfl ?p79 ?_; (case y79 => (intro w hSw; (try dsimp only at hSw); simp only [gA, gB, gC, gD, gE]; go_simp; (try with_reducible rfl))); (case p79 => (simp only [Act.put, sA, sB, sC]; try rfl)))
      (refine tY 16 40 ?v80 ?a80 rfl (by kernel_rfl) (by rfl) (fun _ _ _ h => h) ?y80 (by assumption) rfl ?p80 ?_; (case y80 => (intro w hSw; (try dsimp only at hSw); simp only [gA, gB, gC, gD, gE]; go_simp; (try with_reducible rfl))); (case p80 => (simp only [Act.put, sA, sB, sC]; try rfl)))
      (refine tY 17 41 ?v81 ?a81 rfl (by kernel_rfl) (by rfl) (fun _ _ _ h => h) ?y81 (by assumption) rfl ?p81 ?_; (case y81 => (intro w hSw; (try dsimp only at hSw); simp only [gA, gB, gC, gD, gE]; go_simp; (try with_reducible rfl))); (case p81 => (simp only [Act.put, sA, sB, sC]; try rfl)))
      (refine tY 18 42 ?v82 ?a82 rfl (by kernel_rfl) (by rfl) (fun _ _ _ h => h) ?y82 (by assumption) rfl ?p82 ?_; (case y82 => (intro w hSw; (try dsimp only at hSw); simp only [gA, gB, gC, gD, gE]; go_simp; (try with_reducible rfl))); (case p82 => (simp only [Act.put, sA, sB, sC]; try rfl)))
      (refine tY 19 43 ?v83 ?a83 rfl (by kernel_rfl) (by rfl) (fun _ _ _ h => h) ?y83 (by assumption) rfl ?p83 ?_; (case y83 => (intro w hSw; (try dsimp only at hSw); simp only [gA, gB, gC, gD, gE]; go_simp; (try with_reducible rfl))); (case p83 => (simp only [Act.put, sA, sB, sC]; try rfl)))
      (refine tY 20 44 ?v84 ?a84 rfl (by kernel_rfl) (by rfl) (fun _ _ _ h => h) ?y84 (by assumption) rfl ?p84 ?_; (case y84 => (intro w hSw; (try dsimp only at hSw); simp only [gA, gB, gC, gD, gE]; go_simp; (try with_reducible rfl))); (case p84 => (simp only [Act.put, sA, sB, sC]; try rfl)))
      (refine tY 21 45 ?v85 ?a85 rfl (by kernel_rfl) (by rfl) (fun _ _ _ h => h) ?y85 (by assumption) rfl ?p85 ?_; (case y85 => (intro w hSw; (try dsimp only at hSw); simp only [gA, gB, gC, gD, gE]; go_simp; (try with_reducible rfl))); (case p85 => (simp only [Act.put, sA, sB, sC]; try rfl)))
      (refine tY 22 46 ?v86 ?a86 rfl (by kernel_rfl) (by rfl) (fun _ _ _ h => h) ?y86 (by assumption) rfl ?p86 ?_; (case y86 => (intro w hSw; (try dsimp only at hSw); simp only [gA, gB, gC, gD, gE]; go_simp; (try with_reducible rfl))); (case p86 => (simp only [Act.put, sA, sB, sC]; try rfl)))
      (refine tY 23 47 ?v87 ?a87 rfl (by kernel_rfl) (by rfl) (fun _ _ _ h => h) ?y87 (by assumption) rfl ?p87 ?_; (case y87 => (intro w hSw; (try dsimp only at hSw); simp only [gA, gB, gC, gD, gE]; go_simp; (try with_reducible rfl))); (case p87 => (simp only [Act.put, sA, sB, sC]; try rfl)))
      (refine tY 24 48 ?v88 ?a88 rfl (by kernel_rfl) (by rfl) (fun _ _ _ h => h) ?y88 (by assumption) rfl ?p88 ?_; (case y88 => (intro w hSw; (try dsimp only at hSw); simp only [gA, gB, gC, gD, gE]; go_simp; (try with_reducible rfl))); (case p88 => (simp only [Act.put, sA, sB, sC]; try rfl)))
      (refine tY 25 49 ?v89 ?a89 rfl (by kernel_rfl) (by rfl) (fun _ _ _ h => h) ?y89 (by assumption) rfl ?p89 ?_; (case y89 => (intro w hSw; (try dsimp only at hSw); simp only [gA, gB, gC, gD, gE]; go_simp; (try with_reducible rfl))); (case p89 => (simp only [Act.put, sA, sB, sC]; try rfl)))
      (refine tY 26 50 ?v90 ?a90 rfl (by kernel_rfl) (by rfl) (fun _ _ _ h => h) ?y90 (by assumption) rfl ?p90 ?_; (case y90 => (intro w hSw; (try dsimp only at hSw); simp only [gA, gB, gC, gD, gE]; go_simp; (try with_reducible rfl))); (case p90 => (simp only [Act.put, sA, sB, sC]; try rfl)))
      (refine tY 27 51 ?v91 ?a91 rfl (by kernel_rfl) (by rfl) (fun _ _ _ h => h) ?y91 (by assumption) rfl ?p91 ?_; (case y91 => (intro w hSw; (try dsimp only at hSw); simp only [gA, gB, gC, gD, gE]; go_simp; (try with_reducible rfl))); (case p91 => (simp only [Act.put, sA, sB, sC]; try rfl)))
      refine step_one (i := 28) (by kernel_rfl) (fun K o ho hK => ?_)
      simp only [List.getElem?_toArray, List.getElem?_cons_succ, List.getElem?_cons_zero, Option.some.injEq] at ho
      subst ho
      go_simp
      refine (HC.out _).mono ?_
      rintro e w' ⟨rfl, rfl⟩
      refine hK.out _ _ ?_ (fun hHeld => ?_)
      focus exact S0.out _ (Or.inl rfl)
      clear hK K
      try simp only [Act.put, List.setIfInBounds_toArray, List.set_cons_zero, List.set_cons_succ]
      (refine tY 29 53 ?v92 ?a92 rfl (by kernel_rfl) (by rfl) (fun _ _ _ h => h) ?y92 (by assumption) rfl ?p92 ?_; (case y92 => (intro w hSw; (try dsimp only at hSw); simp only [gA, gB, gC, gD, gE]; go_simp; (try with_reducible rfl))); (case p92 => (simp only [Act.put, sA, sB, sC]; try rfl)))
      (refine tY 30 54 ?v93 ?a93 rfl (by kernel_rfl) (by rfl) (fun _ _ _ h => h) ?y93 (by assumption) rfl ?p93 ?_; (case y93 => (intro w hSw; (try dsimp only at hSw); simp only [gA, gB, gC, gD, gE]; go_simp; (try with_reducible rfl))); (case p93 => (simp only [Act.put, sA, sB, sC]; try rfl)))
      refine step_one (i := 31) (by kernel_rfl) (fun K o ho hK => ?_)
      simp only [List.getElem?_toArray, List.getElem?_cons_succ, List.getElem?_cons_zero, Option.some.injEq] at ho
      subst ho
      go_simp
      refine hK.out _ _ ?_ (fun hHeld => ?_)
      focus exact S0.out _ (Or.inr rfl)
      clear hK K
      try simp only [Act.put, List.setIfInBounds_toArray, List.set_cons_zero, List.set_cons_succ]
      (refine tY 32 5 ?v94 ?a94 rfl (by kernel_rfl) (by rfl) (fun _ _ _ h => h) ?y94 (by assumption) rfl ?p94 ?_; (case y94 => (intro w hSw; (try dsimp only at hSw); simp only [gA, gB, gC, gD, gE]; go_simp; (try with_reducible rfl))); (case p94 => (simp only [Act.put, sA, sB, sC]; try rfl)))
      refine wpAnyH_done (by kernel_rfl) ?_ _
      go_wp2_with fail
      refine bodyPost_ret (v := .tuple #[.agg #[.int .i64 (nb : Int), .string (str nm), .int .i64 (lo : Int), .int .u64 (hh : Int), .slice av fl.length cv], .bool false]) (by simp [results, Tryz.results190, go_sem, q0', q1', q2', q3', q4']) rfl ?_
      exact ⟨_, by rw [HR.out], HFIN.out _ rfl⟩
    ·have e3 : ¬ ((lo : Int) ≤ 400) := by omega
     have HR : Hid (R = false) := hid_of (by rw [HMR.out]; simp [b3])
     clear HMR b3 b2 b1 hfl
     refine wp_region_held_drew (S := fun X => X.cell? ⟨w.heap.size + 1, 1, none⟩ = some (.bool false) ∧ X.cell? ⟨g, 0, none⟩ = some (.int .i64 (nb : Int)) ∧ X.cell? ⟨g, 1, none⟩ = some (.string (str nm)) ∧ X.cell? ⟨g, 2, none⟩ = some (.int .i64 (lo : Int)) ∧ X.cell? ⟨g, 3, none⟩ = some (.int .u64 (hh : Int)) ∧ X.cell? ⟨g, 4, none⟩ = some (.slice av fl.length cv)) (by kernel_rfl) (S0.out _ (Or.inl rfl)) (fun hHeld => ?_)
     (refine tY 0 24 ?v95 ?a95 rfl (by kernel_rfl) (by rfl) (fun _ _ _ h => h) ?y95 (by assumption) rfl ?p95 ?_; (case y95 => (intro w hSw; (try dsimp only at hSw); simp only [gA, gB, gC, gD, gE]; go_simp; (try with_reducible rfl))); (case p95 => (simp only [Act.put, sA, sB, sC]; try rfl)))
     (refine tY 1 25 ?v96 ?a96 rfl (by kernel_rfl) (by rfl) (fun _ _ _ h => h) ?y96 (by assumption) rfl ?p96 ?_; (case y96 => (intro w hSw; (try dsimp only at hSw); simp only [gA, gB, gC, gD, gE]; go_simp; (try with_reducible rfl))); (case p96 => (simp only [Act.put, sA, sB, sC]; try rfl)))
     (refine tY 2 26 ?v97 ?a97 rfl (by kernel_rfl) (by rfl) (fun _ _ _ h => h) ?y97 (by assumption) rfl ?p97 ?_; (case y97 => (intro w hSw; (try dsimp only at hSw); simp only [gA, gB, gC, gD, gE]; go_simp; (try with_reducible rfl))); (case p97 => (simp only [Act.put, sA, sB, sC]; try rfl)))
     (refine tY 3 27 ?v98 ?a98 rfl (by kernel_rfl) (by rfl) (fun _ _ _ h => h) ?y98 (by assumption) rfl ?p98 ?_; (case y98 => (intro w hSw; (try dsimp only at hSw); simp only [gA, gB, gC, gD, gE]; go_simp; (try with_reducible rfl))); (case p98 => (simp only [Act.put, sA, sB, sC]; try rfl)))
     (refine tY 4 28 ?v99 ?a99 rfl (by kernel_rfl) (by rfl) (fun _ _ _ h => h) ?y99 (by assumption) rfl ?p99 ?_; (case y99 => (intro w hSw; (try dsimp only at hSw); simp only [gA, gB, gC, gD, gE]; go_simp; (try with_reducible rfl))); (case p99 => (simp only [Act.put, sA, sB, sC]; try rfl)))
     (refine tY 5 29 ?v100 ?a100 rfl (by kernel_rfl) (by rfl) (fun _ _ _ h => h) ?y100 (by assumption) rfl ?p100 ?_; (case y100 => (intro w hSw; (try dsimp only at hSw); simp only [gA, gB, gC, gD, gE]; go_simp; (try with_reducible rfl))); (case p100 => (simp only [Act.put, sA, sB, sC]; try rfl)))
     (refine tY 6 30 ?v101 ?a101 rfl (by kernel_rfl) (by rfl) (fun _ _ _ h => h) ?y101 (by assumption) rfl ?p101 ?_; (case y101 => (intro w hSw; (try dsimp only at hSw); simp only [gA, gB, gC, gD, gE]; go_simp; (try with_reducible rfl))); (case p101 => (simp only [Act.put, sA, sB, sC]; try rfl)))
     (refine tY 7 31 ?v102 ?a102 rfl (by kernel_rfl) (by rfl) (fun _ _ _ h => h) ?y102 (by assumption) rfl ?p102 ?_; (case y102 => (intro w hSw; (try dsimp only at hSw); simp only [gA, gB, gC, gD, gE]; go_simp; (try with_reducible rfl))); (case p102 => (simp only [Act.put, sA, sB, sC]; try rfl)))
     (refine tY 8 32 ?v103 ?a103 rfl (by kernel_rfl) (by rfl) (fun _ _ _ h => h) ?y103 (by assumption) rfl ?p103 ?_; (case y103 => (intro w hSw; (try dsimp only at hSw); simp only [gA, gB, gC, gD, gE]; go_simp; (try with_reducible rfl))); (case p103 => (simp only [Act.put, sA, sB, sC]; try rfl)))
     (refine tY 9 33 ?v104 ?a104 rfl (by kernel_rfl) (by rfl) (fun _ _ _ h => h) ?y104 (by assumption) rfl ?p104 ?_; (case y104 => (intro w hSw; (try dsimp only at hSw); simp only [gA, gB, gC, gD, gE]; go_simp; (try with_reducible rfl))); (case p104 => (simp only [Act.put, sA, sB, sC]; try rfl)))
     (refine tY 10 34 ?v105 ?a105 rfl (by kernel_rfl) (by rfl) (fun _ _ _ h => h) ?y105 (by assumption) rfl ?p105 ?_; (case y105 => (intro w hSw; (try dsimp only at hSw); simp only [gA, gB, gC, gD, gE]; go_simp; (try with_reducible rfl))); (case p105 => (simp only [Act.put, sA, sB, sC]; try rfl)))
     (refine tY 11 35 ?v106 ?a106 rfl (by kernel_rfl) (by rfl) (fun _ _ _ h => h) ?y106 (by assumption) rfl ?p106 ?_; (case y106 => (intro w hSw; (try dsimp only at hSw); simp only [gA, gB, gC, gD, gE]; go_simp; (try with_reducible rfl))); (case p106 => (simp only [Act.put, sA, sB, sC]; try rfl)))
     (refine tY 12 36 ?v107 ?a107 rfl (by kernel_rfl) (by rfl) (fun _ _ _ h => h) ?y107 (by assumption) rfl ?p107 ?_; (case y107 => (intro w hSw; (try dsimp only at hSw); simp only [gA, gB, gC, gD, gE]; go_simp; (try with_reducible rfl))); (case p107 => (simp only [Act.put, sA, sB, sC]; try rfl)))
     (refine tY 13 37 ?v108 ?a108 rfl (by kernel_rfl) (by rfl) (fun _ _ _ h => h) ?y108 (by assumption) rfl ?p108 ?_; (case y108 => (intro w hSw; (try dsimp only at hSw); simp only [gA, gB, gC, gD, gE]; go_simp; (try with_reducible rfl))); (case p108 => (simp only [Act.put, sA, sB, sC]; try rfl)))
     (refine tY 14 38 ?v109 ?a109 rfl (by kernel_rfl) (by rfl) (fun _ _ _ h => h) ?y109 (by assumption) rfl ?p109 ?_; (case y109 => (intro w hSw; (try dsimp only at hSw); simp only [gA, gB, gC, gD, gE]; go_simp; (try with_reducible rfl))); (case p109 => (simp only [Act.put, sA, sB, sC]; try rfl)))
     (refine tY 15 39 ?v110 ?a110 rfl (by kernel_rfl) (by rfl) (fun _ _ _ h => h) ?y110 (by assumption) rfl ?p110 ?_; (case y110 => (intro w hSw; (try dsimp only at hSw); simp only [gA, gB, gC, gD, gE]; go_simp; (try with_reducible rfl))); (case p110 => (simp only [Act.put, sA, sB, sC]; try rfl)))
     (refine tY 16 40 ?v111 ?a111 rfl (by kernel_rfl) (by rfl) (fun _ _ _ h => h) ?y111 (by assumption) rfl ?p111 ?_; (case y111 => (intro w hSw; (try dsimp only at hSw); simp only [gA, gB, gC, gD, gE]; go_simp; (try with_reducible rfl))); (case p111 => (simp only [Act.put, sA, sB, sC]; try rfl)))
     (refine tY 17 41 ?v112 ?a112 rfl (by kernel_rfl) (by rfl) (fun _ _ _ h => h) ?y112 (by assumption) rfl ?p112 ?_; (case y112 => (intro w hSw; (try dsimp only at hSw); simp only [gA, gB, gC, gD, gE]; go_simp; (try with_reducible rfl))); (case p112 => (simp only [Act.put, sA, sB, sC]; try rfl)))
     (refine tY 18 42 ?v113 ?a113 rfl (by kernel_rfl) (by rfl) (fun _ _ _ h => h) ?y113 (by assumption) rfl ?p113 ?_; (case y113 => (intro w hSw; (try dsimp only at hSw); simp only [gA, gB, gC, gD, gE]; go_simp; (try with_reducible rfl))); (case p113 => (simp only [Act.put, sA, sB, sC]; try rfl)))
     (refine tY 19 43 ?v114 ?a114 rfl (by kernel_rfl) (by rfl) (fun _ _ _ h => h) ?y114 (by assumption) rfl ?p114 ?_; (case y114 => (intro w hSw; (try dsimp only at hSw); simp only [gA, gB, gC, gD, gE]; go_simp; (try with_reducible rfl))); (case p114 => (simp only [Act.put, sA, sB, sC]; try rfl)))
     (refine tY 20 44 ?v115 ?a115 rfl (by kernel_rfl) (by rfl) (fun _ _ _ h => h) ?y115 (by assumption) rfl ?p115 ?_; (case y115 => (intro w hSw; (try dsimp only at hSw); simp only [gA, gB, gC, gD, gE]; go_simp; (try with_reducible rfl))); (case p115 => (simp only [Act.put, sA, sB, sC]; try rfl)))
     (refine tY 21 45 ?v116 ?a116 rfl (by kernel_rfl) (by rfl) (fun _ _ _ h => h) ?y116 (by assumption) rfl ?p116 ?_; (case y116 => (intro w hSw; (try dsimp only at hSw); simp only [gA, gB, gC, gD, gE]; go_simp; (try with_reducible rfl))); (case p116 => (simp only [Act.put, sA, sB, sC]; try rfl)))
     (refine tN 22 46 ?a117 rfl (by kernel_rfl) (by rfl) (fun _ _ _ h => h) (by assumption) rfl ?p117 ?_; (case p117 => (simp only [Act.put, sA, sB, sC]; try rfl)))
     (refine tN 23 47 ?a118 rfl (by kernel_rfl) (by rfl) (fun _ _ _ h => h) (by assumption) rfl ?p118 ?_; (case p118 => (simp only [Act.put, sA, sB, sC]; try rfl)))
     (refine tN 24 48 ?a119 rfl (by kernel_rfl) (by rfl) (fun _ _ _ h => h) (by assumption) rfl ?p119 ?_; (case p119 => (simp only [Act.put, sA, sB, sC]; try rfl)))
     (refine tN 25 49 ?a120 rfl (by kernel_rfl) (by rfl) (fun _ _ _ h => h) (by assumption) rfl ?p120 ?_; (case p120 => (simp only [Act.put, sA, sB, sC]; try rfl)))
     (refine tN 26 50 ?a121 rfl (by kernel_rfl) (by rfl) (fun _ _ _ h => h) (by assumption) rfl ?p121 ?_; (case p121 => (simp only [Act.put, sA, sB, sC]; try rfl)))
     (refine tN 27 51 ?a122 rfl (by kernel_rfl) (by rfl) (fun _ _ _ h => h) (by assumption) rfl ?p122 ?_; (case p122 => (simp only [Act.put, sA, sB, sC]; try rfl)))
     (refine tN 28 52 ?a123 rfl (by kernel_rfl) (by rfl) (fun _ _ _ h => h) (by assumption) rfl ?p123 ?_; (case p123 => (simp only [Act.put, sA, sB, sC]; try rfl)))
     (refine tN 29 53 ?a124 rfl (by kernel_rfl) (by rfl) (fun _ _ _ h => h) (by assumption) rfl ?p124 ?_; (case p124 => (simp only [Act.put, sA, sB, sC]; try rfl)))
     (refine tY 30 54 ?v125 ?a125 rfl (by kernel_rfl) (by rfl) (fun _ _ _ h => h) ?y125 (by assumption) rfl ?p125 ?_; (case y125 => (intro w hSw; (try dsimp only at hSw); simp only [gA, gB, gC, gD, gE]; go_simp; (try with_reducible rfl))); (case p125 => (simp only [Act.put, sA, sB, sC]; try rfl)))
     refine step_one (i := 31) (by kernel_rfl) (fun K o ho hK => ?_)
     simp only [List.getElem?_toArray, List.getElem?_cons_succ, List.getElem?_cons_zero, Option.some.injEq] at ho
     subst ho
     go_simp
     refine hK.out _ _ ?_ (fun hHeld => ?_)
     focus exact S0.out _ (Or.inr rfl)
     clear hK K
     try simp only [Act.put, List.setIfInBounds_toArray, List.set_cons_zero, List.set_cons_succ]
     (refine tY 32 5 ?v126 ?a126 rfl (by kernel_rfl) (by rfl) (fun _ _ _ h => h) ?y126 (by assumption) rfl ?p126 ?_; (case y126 => (intro w hSw; (try dsimp only at hSw); simp only [gA, gB, gC, gD, gE]; go_simp; (try with_reducible rfl))); (case p126 => (simp only [Act.put, sA, sB, sC]; try rfl)))
     refine wpAnyH_done (by kernel_rfl) ?_ _
     go_wp2_with fail
     refine bodyPost_ret (v := .tuple #[.agg #[.int .i64 (nb : Int), .string (str nm), .int .i64 (lo : Int), .int .u64 (hh : Int), .slice av fl.length cv], .bool false]) (by simp [results, Tryz.results190, go_sem, q0', q1', q2', q3', q4']) rfl ?_
     exact ⟨_, by rw [HR.out], HFIN.out _ rfl⟩
   ·have e2 : ¬ ((nm.length : Int) ≤ 20) := by omega
    have HR : Hid (R = false) := hid_of (by rw [HMR.out]; simp [b2])
    clear HMR b2 b1 hfl
    refine wp_region_held_drew (S := fun X => X.cell? ⟨w.heap.size + 1, 1, none⟩ = some (.bool false) ∧ X.cell? ⟨g, 0, none⟩ = some (.int .i64 (nb : Int)) ∧ X.cell? ⟨g, 1, none⟩ = some (.string (str nm)) ∧ X.cell? ⟨g, 2, none⟩ = some (.int .i64 (lo : Int)) ∧ X.cell? ⟨g, 3, none⟩ = some (.int .u64 (hh : Int)) ∧ X.cell? ⟨g, 4, none⟩ = some (.slice av fl.length cv)) (by kernel_rfl) (S0.out _ (Or.inl rfl)) (fun hHeld => ?_)
    (refine tY 0 24 ?v127 ?a127 rfl (by kernel_rfl) (by rfl) (fun _ _ _ h => h) ?y127 (by assumption) rfl ?p127 ?_; (case y127 => (intro w hSw; (try dsimp only at hSw); simp only [gA, gB, gC, gD, gE]; go_simp; (try with_reducible rfl))); (case p127 => (simp only [Act.put, sA, sB, sC]; try rfl)))
    (refine tY 1 25 ?v128 ?a128 rfl (by kernel_rfl) (by rfl) (fun _ _ _ h => h) ?y128 (by assumption) rfl ?p128 ?_; (case y128 => (intro w hSw; (try dsimp only at hSw); simp only [gA, gB, gC, gD, gE]; go_simp; (try with_reducible rfl))); (case p128 => (simp only [Act.put, sA, sB, sC]; try rfl)))
    (refine tY 2 26 ?v129 ?a129 rfl (by kernel_rfl) (by rfl) (fun _ _ _ h => h) ?y129 (by assumption) rfl ?p129 ?_; (case y129 => (intro w hSw; (try dsimp only at hSw); simp only [gA, gB, gC, gD, gE]; go_simp; (try with_reducible rfl))); (case p129 => (simp only [Act.put, sA, sB, sC]; try rfl)))
    (refine tY 3 27 ?v130 ?a130 rfl (by kernel_rfl) (by rfl) (fun _ _ _ h => h) ?y130 (by assumption) rfl ?p130 ?_; (case y130 => (intro w hSw; (try dsimp only at hSw); simp only [gA, gB, gC, gD, gE]; go_simp; (try with_reducible rfl))); (case p130 => (simp only [Act.put, sA, sB, sC]; try rfl)))
    (refine tY 4 28 ?v131 ?a131 rfl (by kernel_rfl) (by rfl) (fun _ _ _ h => h) ?y131 (by assumption) rfl ?p131 ?_; (case y131 => (intro w hSw; (try dsimp only at hSw); simp only [gA, gB, gC, gD, gE]; go_simp; (try with_reducible rfl))); (case p131 => (simp only [Act.put, sA, sB, sC]; try rfl)))
    (refine tY 5 29 ?v132 ?a132 rfl (by kernel_rfl) (by rfl) (fun _ _ _ h => h) ?y132 (by assumption) rfl ?p132 ?_; (case y132 => (intro w hSw; (try dsimp only at hSw); simp only [gA, gB, gC, gD, gE]; go_simp; (try with_reducible rfl))); (case p132 => (simp only [Act.put, sA, sB, sC]; try rfl)))
    (refine tY 6 30 ?v133 ?a133 rfl (by kernel_rfl) (by rfl) (fun _ _ _ h => h) ?y133 (by assumption) rfl ?p133 ?_; (case y133 => (intro w hSw; (try dsimp only at hSw); simp only [gA, gB, gC, gD, gE]; go_simp; (try with_reducible rfl))); (case p133 => (simp only [Act.put, sA, sB, sC]; try rfl)))
    (refine tY 7 31 ?v134 ?a134 rfl (by kernel_rfl) (by rfl) (fun _ _ _ h => h) ?y134 (by assumption) rfl ?p134 ?_; (case y134 => (intro w hSw; (try dsimp only at hSw); simp only [gA, gB, gC, gD, gE]; go_simp; (try with_reducible rfl))); (case p134 => (simp only [Act.put, sA, sB, sC]; try rfl)))
    (refine tY 8 32 ?v135 ?a135 rfl (by kernel_rfl) (by rfl) (fun _ _ _ h => h) ?y135 (by assumption) rfl ?p135 ?_; (case y135 => (intro w hSw; (try dsimp only at hSw); simp only [gA, gB, gC, gD, gE]; go_simp; (try with_reducible rfl))); (case p135 => (simp only [Act.put, sA, sB, sC]; try rfl)))
    (refine tY 9 33 ?v136 ?a136 rfl (by kernel_rfl) (by rfl) (fun _ _ _ h => h) ?y136 (by assumption) rfl ?p136 ?_; (case y136 => (intro w hSw; (try dsimp only at hSw); simp only [gA, gB, gC, gD, gE]; go_simp; (try with_reducible rfl))); (case p136 => (simp only [Act.put, sA, sB, sC]; try rfl)))
    (refine tY 10 34 ?v137 ?a137 rfl (by kernel_rfl) (by rfl) (fun _ _ _ h => h) ?y137 (by assumption) rfl ?p137 ?_; (case y137 => (intro w hSw; (try dsimp only at hSw); simp only [gA, gB, gC, gD, gE]; go_simp; (try with_reducible rfl))); (case p137 => (simp only [Act.put, sA, sB, sC]; try rfl)))
    (refine tY 11 35 ?v138 ?a138 rfl (by kernel_rfl) (by rfl) (fun _ _ _ h => h) ?y138 (by assumption) rfl ?p138 ?_; (case y138 => (intro w hSw; (try dsimp only at hSw); simp only [gA, gB, gC, gD, gE]; go_simp; (try with_reducible rfl))); (case p138 => (simp only [Act.put, sA, sB, sC]; try rfl)))
    (refine tY 12 36 ?v139 ?a139 rfl (by kernel_rfl) (by rfl) (fun _ _ _ h => h) ?y139 (by assumption) rfl ?p139 ?_; (case y139 => (intro w hSw; (try dsimp only at hSw); simp only [gA, gB, gC, gD, gE]; go_simp; (try with_reducible rfl))); (case p139 => (simp only [Act.put, sA, sB, sC]; try rfl)))
    (refine tY 13 37 ?v140 ?a140 rfl (by kernel_rfl) (by rfl) (fun _ _ _ h => h) ?y140 (by assumption) rfl ?p140 ?_; (case y140 => (intro w hSw; (try dsimp only at hSw); simp only [gA, gB, gC, gD, gE]; go_simp; (try with_reducible rfl))); (case p140 => (simp only [Act.put, sA, sB, sC]; try rfl)))
    (refine tY 14 38 ?v141 ?a141 rfl (by kernel_rfl) (by rfl) (fun _ _ _ h => h) ?y141 (by assumption) rfl ?p141 ?_; (case y141 => (intro w hSw; (try dsimp only at hSw); simp only [gA, gB, gC, gD, gE]; go_simp; (try with_reducible rfl))); (case p141 => (simp only [Act.put, sA, sB, sC]; try rfl)))
    (refine tY 15 39 ?v142 ?a142 rfl (by kernel_rfl) (by rfl) (fun _ _ _ h => h) ?y142 (by assumption) rfl ?p142 ?_; (case y142 => (intro w hSw; (try dsimp only at hSw); simp only [gA, gB, gC, gD, gE]; go_simp; (try with_reducible rfl))); (case p142 => (simp only [Act.put, sA, sB, sC]; try rfl)))
    (refine tY 16 40 ?v143 ?a143 rfl (by kernel_rfl) (by rfl) (fun _ _ _ h => h) ?y143 (by assumption) rfl ?p143 ?_; (case y143 => (intro w hSw; (try dsimp only at hSw); simp only [gA, gB, gC, gD, gE]; go_simp; (try with_reducible rfl))); (case p143 => (simp only [Act.put, sA, sB, sC]; try rfl)))
    (refine tN 17 41 ?a144 rfl (by kernel_rfl) (by rfl) (fun _ _ _ h => h) (by assumption) rfl ?p144 ?_; (case p144 => (simp only [Act.put, sA, sB, sC]; try rfl)))
    (refine tN 18 42 ?a145 rfl (by kernel_rfl) (by rfl) (fun _ _ _ h => h) (by assumption) rfl ?p145 ?_; (case p145 => (simp only [Act.put, sA, sB, sC]; try rfl)))
    (refine tN 19 43 ?a146 rfl (by kernel_rfl) (by rfl) (fun _ _ _ h => h) (by assumption) rfl ?p146 ?_; (case p146 => (simp only [Act.put, sA, sB, sC]; try rfl)))
    (refine tY 20 44 ?v147 ?a147 rfl (by kernel_rfl) (by rfl) (fun _ _ _ h => h) ?y147 (by assumption) rfl ?p147 ?_; (case y147 => (intro w hSw; (try dsimp only at hSw); simp only [gA, gB, gC, gD, gE]; go_simp; (try with_reducible rfl))); (case p147 => (simp only [Act.put, sA, sB, sC]; try rfl)))
    (refine tY 21 45 ?v148 ?a148 rfl (by kernel_rfl) (by rfl) (fun _ _ _ h => h) ?y148 (by assumption) rfl ?p148 ?_; (case y148 => (intro w hSw; (try dsimp only at hSw); simp only [gA, gB, gC, gD, gE]; go_simp; (try with_reducible rfl))); (case p148 => (simp only [Act.put, sA, sB, sC]; try rfl)))
    (refine tN 22 46 ?a149 rfl (by kernel_rfl) (by rfl) (fun _ _ _ h => h) (by assumption) rfl ?p149 ?_; (case p149 => (simp only [Act.put, sA, sB, sC]; try rfl)))
    (refine tN 23 47 ?a150 rfl (by kernel_rfl) (by rfl) (fun _ _ _ h => h) (by assumption) rfl ?p150 ?_; (case p150 => (simp only [Act.put, sA, sB, sC]; try rfl)))
    (refine tN 24 48 ?a151 rfl (by kernel_rfl) (by rfl) (fun _ _ _ h => h) (by assumption) rfl ?p151 ?_; (case p151 => (simp only [Act.put, sA, sB, sC]; try rfl)))
    (refine tN 25 49 ?a152 rfl (by kernel_rfl) (by rfl) (fun _ _ _ h => h) (by assumption) rfl ?p152 ?_; (case p152 => (simp only [Act.put, sA, sB, sC]; try rfl)))
    (refine tN 26 50 ?a153 rfl (by kernel_rfl) (by rfl) (fun _ _ _ h => h) (by assumption) rfl ?p153 ?_; (case p153 => (simp only [Act.put, sA, sB, sC]; try rfl)))
    (refine tN 27 51 ?a154 rfl (by kernel_rfl) (by rfl) (fun _ _ _ h => h) (by assumption) rfl ?p154 ?_; (case p154 => (simp only [Act.put, sA, sB, sC]; try rfl)))
    (refine tN 28 52 ?a155 rfl (by kernel_rfl) (by rfl) (fun _ _ _ h => h) (by assumption) rfl ?p155 ?_; (case p155 => (simp only [Act.put, sA, sB, sC]; try rfl)))
    (refine tN 29 53 ?a156 rfl (by kernel_rfl) (by rfl) (fun _ _ _ h => h) (by assumption) rfl ?p156 ?_; (case p156 => (simp only [Act.put, sA, sB, sC]; try rfl)))
    (refine tY 30 54 ?v157 ?a157 rfl (by kernel_rfl) (by rfl) (fun _ _ _ h => h) ?y157 (by assumption) rfl ?p157 ?_; (case y157 => (intro w hSw; (try dsimp only at hSw); simp only [gA, gB, gC, gD, gE]; go_simp; (try with_reducible rfl))); (case p157 => (simp only [Act.put, sA, sB, sC]; try rfl)))
    refine step_one (i := 31) (by kernel_rfl) (fun K o ho hK => ?_)
    simp only [List.getElem?_toArray, List.getElem?_cons_succ, List.getElem?_cons_zero, Option.some.injEq] at ho
    subst ho
    go_simp
    refine hK.out _ _ ?_ (fun hHeld => ?_)
    focus exact S0.out _ (Or.inr rfl)
    clear hK K
    try simp only [Act.put, List.setIfInBounds_toArray, List.set_cons_zero, List.set_cons_succ]
    (refine tY 32 5 ?v158 ?a158 rfl (by kernel_rfl) (by rfl) (fun _ _ _ h => h) ?y158 (by assumption) rfl ?p158 ?_; (case y158 => (intro w hSw; (try dsimp only at hSw); simp only [gA, gB, gC, gD, gE]; go_simp; (try with_reducible rfl))); (case p158 => (simp only [Act.put, sA, sB, sC]; try rfl)))
    refine wpAnyH_done (by kernel_rfl) ?_ _
    go_wp2_with fail
    refine bodyPost_ret (v := .tuple #[.agg #[.int .i64 (nb : Int), .string (str nm), .int .i64 (lo : Int), .int .u64 (hh : Int), .slice av fl.length cv], .bool false]) (by simp [results, Tryz.results190, go_sem, q0', q1', q2', q3', q4']) rfl ?_
    exact ⟨_, by rw [HR.out], HFIN.out _ rfl⟩
  ·have e1 : ¬ ((1 : Int) ≤ (nm.length : Int)) := by omega
   have HR : Hid (R = false) := hid_of (by rw [HMR.out]; simp [b1])
   clear HMR b1 hfl
   refine wp_region_held_drew (S := fun X => X.cell? ⟨w.heap.size + 1, 1, none⟩ = some (.bool false) ∧ X.cell? ⟨g, 0, none⟩ = some (.int .i64 (nb : Int)) ∧ X.cell? ⟨g, 1, none⟩ = some (.string (str nm)) ∧ X.cell? ⟨g, 2, none⟩ = some (.int .i64 (lo : Int)) ∧ X.cell? ⟨g, 3, none⟩ = some (.int .u64 (hh : Int)) ∧ X.cell? ⟨g, 4, none⟩ = some (.slice av fl.length cv)) (by kernel_rfl) (S0.out _ (Or.inl rfl)) (fun hHeld => ?_)
   (refine tY 0 24 ?v159 ?a159 rfl (by kernel_rfl) (by rfl) (fun _ _ _ h => h) ?y159 (by assumption) rfl ?p159 ?_; (case y159 => (intro w hSw; (try dsimp only at hSw); simp only [gA, gB, gC, gD, gE]; go_simp; (try with_reducible rfl))); (case p159 => (simp only [Act.put, sA, sB, sC]; try rfl)))
   (refine tY 1 25 ?v160 ?a160 rfl (by kernel_rfl) (by rfl) (fun _ _ _ h => h) ?y160 (by assumption) rfl ?p160 ?_; (case y160 => (intro w hSw; (try dsimp only at hSw); simp only [gA, gB, gC, gD, gE]; go_simp; (try with_reducible rfl))); (case p160 => (simp only [Act.put, sA, sB, sC]; try rfl)))
   (refine tY 2 26 ?v161 ?a161 rfl (by kernel_rfl) (by rfl) (fun _ _ _ h => h) ?y161 (by assumption) rfl ?p161 ?_; (case y161 => (intro w hSw; (try dsimp only at hSw); simp only [gA, gB, gC, gD, gE]; go_simp; (try with_reducible rfl))); (case p161 => (simp only [Act.put, sA, sB, sC]; try rfl)))
   (refine tY 3 27 ?v162 ?a162 rfl (by kernel_rfl) (by rfl) (fun _ _ _ h => h) ?y162 (by assumption) rfl ?p162 ?_; (case y162 => (intro w hSw; (try dsimp only at hSw); simp only [gA, gB, gC, gD, gE]; go_simp; (try with_reducible rfl))); (case p162 => (simp only [Act.put, sA, sB, sC]; try rfl)))
   (refine tY 4 28 ?v163 ?a163 rfl (by kernel_rfl) (by rfl) (fun _ _ _ h => h) ?y163 (by assumption) rfl ?p163 ?_; (case y163 => (intro w hSw; (try dsimp only at hSw); simp only [gA, gB, gC, gD, gE]; go_simp; (try with_reducible rfl))); (case p163 => (simp only [Act.put, sA, sB, sC]; try rfl)))
   (refine tY 5 29 ?v164 ?a164 rfl (by kernel_rfl) (by rfl) (fun _ _ _ h => h) ?y164 (by assumption) rfl ?p164 ?_; (case y164 => (intro w hSw; (try dsimp only at hSw); simp only [gA, gB, gC, gD, gE]; go_simp; (try with_reducible rfl))); (case p164 => (simp only [Act.put, sA, sB, sC]; try rfl)))
   (refine tY 6 30 ?v165 ?a165 rfl (by kernel_rfl) (by rfl) (fun _ _ _ h => h) ?y165 (by assumption) rfl ?p165 ?_; (case y165 => (intro w hSw; (try dsimp only at hSw); simp only [gA, gB, gC, gD, gE]; go_simp; (try with_reducible rfl))); (case p165 => (simp only [Act.put, sA, sB, sC]; try rfl)))
   (refine tY 7 31 ?v166 ?a166 rfl (by kernel_rfl) (by rfl) (fun _ _ _ h => h) ?y166 (by assumption) rfl ?p166 ?_; (case y166 => (intro w hSw; (try dsimp only at hSw); simp only [gA, gB, gC, gD, gE]; go_simp; (try with_reducible rfl))); (case p166 => (simp only [Act.put, sA, sB, sC]; try rfl)))
   (refine tY 8 32 ?v167 ?a167 rfl (by kernel_rfl) (by rfl) (fun _ _ _ h => h) ?y167 (by assumption) rfl ?p167 ?_; (case y167 => (intro w hSw; (try dsimp only at hSw); simp only [gA, gB, gC, gD, gE]; go_simp; (try with_reducible rfl))); (case p167 => (simp only [Act.put, sA, sB, sC]; try rfl)))
   (refine tY 9 33 ?v168 ?a168 rfl (by kernel_rfl) (by rfl) (fun _ _ _ h => h) ?y168 (by assumption) rfl ?p168 ?_; (case y168 => (intro w hSw; (try dsimp only at hSw); simp only [gA, gB, gC, gD, gE]; go_simp; (try with_reducible rfl))); (case p168 => (simp only [Act.put, sA, sB, sC]; try rfl)))
   (refine tY 10 34 ?v169 ?a169 rfl (by kernel_rfl) (by rfl) (fun _ _ _ h => h) ?y169 (by assumption) rfl ?p169 ?_; (case y169 => (intro w hSw; (try dsimp only at hSw); simp only [gA, gB, gC, gD, gE]; go_simp; (try with_reducible rfl))); (case p169 => (simp only [Act.put, sA, sB, sC]; try rfl)))
   (refine tN 11 35 ?a170 rfl (by kernel_rfl) (by rfl) (fun _ _ _ h => h) (by assumption) rfl ?p170 ?_; (case p170 => (simp only [Act.put, sA, sB, sC]; try rfl)))
   (refine tN 12 36 ?a171 rfl (by kernel_rfl) (by rfl) (fun _ _ _ h => h) (by assumption) rfl ?p171 ?_; (case p171 => (simp only [Act.put, sA, sB, sC]; try rfl)))
   (refine tN 13 37 ?a172 rfl (by kernel_rfl) (by rfl) (fun _ _ _ h => h) (by assumption) rfl ?p172 ?_; (case p172 => (simp only [Act.put, sA, sB, sC]; try rfl)))
   (refine tN 14 38 ?a173 rfl (by kernel_rfl) (by rfl) (fun _ _ _ h => h) (by assumption) rfl ?p173 ?_; (case p173 => (simp only [Act.put, sA, sB, sC]; try rfl)))
   (refine tY 15 39 ?v174 ?a174 rfl (by kernel_rfl) (by rfl) (fun _ _ _ h => h) ?y174 (by assumption) rfl ?p174 ?_; (case y174 => (intro w hSw; (try dsimp only at hSw); simp only [gA, gB, gC, gD, gE]; go_simp; (try with_reducible rfl))); (case p174 => (simp only [Act.put, sA, sB, sC]; try rfl)))
   (refine tY 16 40 ?v175 ?a175 rfl (by kernel_rfl) (by rfl) (fun _ _ _ h => h) ?y175 (by assumption) rfl ?p175 ?_; (case y175 => (intro w hSw; (try dsimp only at hSw); simp only [gA, gB, gC, gD, gE]; go_simp; (try with_reducible rfl))); (case p175 => (simp only [Act.put, sA, sB, sC]; try rfl)))
   (refine tN 17 41 ?a176 rfl (by kernel_rfl) (by rfl) (fun _ _ _ h => h) (by assumption) rfl ?p176 ?_; (case p176 => (simp only [Act.put, sA, sB, sC]; try rfl)))
   (refine tN 18 42 ?a177 rfl (by kernel_rfl) (by rfl) (fun _ _ _ h => h) (by assumption) rfl ?p177 ?_; (case p177 => (simp only [Act.put, sA, sB, sC]; try rfl)))
   (refine tN 19 43 ?a178 rfl (by kernel_rfl) (by rfl) (fun _ _ _ h => h) (by assumption) rfl ?p178 ?_; (case p178 => (simp only [Act.put, sA, sB, sC]; try rfl)))
   (refine tY 20 44 ?v179 ?a179 rfl (by kernel_rfl) (by rfl) (fun _ _ _ h => h) ?y179 (by assumption) rfl ?p179 ?_; (case y179 => (intro w hSw; (try dsimp only at hSw); simp only [gA, gB, gC, gD, gE]; go_simp; (try with_reducible rfl))); (case p179 => (simp only [Act.put, sA, sB, sC]; try rfl)))
   (refine tY 21 45 ?v180 ?a180 rfl (by kernel_rfl) (by rfl) (fun _ _ _ h => h) ?y180 (by assumption) rfl ?p180 ?_; (case y180 => (intro w hSw; (try dsimp only at hSw); simp only [gA, gB, gC, gD, gE]; go_simp; (try with_reducible rfl))); (case p180 => (simp only [Act.put, sA, sB, sC]; try rfl)))
   (refine tN 22 46 ?a181 rfl (by kernel_rfl) (by rfl) (fun _ _ _ h => h) (by assumption) rfl ?p181 ?_; (case p181 => (simp only [Act.put, sA, sB, sC]; try rfl)))
   (refine tN 23 47 ?a182 rfl (by kernel_rfl) (by rfl) (fun _ _ _ h => h) (by assumption) rfl ?p182 ?_; (case p182 => (simp only [Act.put, sA, sB, sC]; try rfl)))
   (refine tN 24 48 ?a183 rfl (by kernel_rfl) (by rfl) (fun _ _ _ h => h) (by assumption) rfl ?p183 ?_; (case p183 => (simp only [Act.put, sA, sB, sC]; try rfl)))
   (refine tN 25 49 ?a184 rfl (by kernel_rfl) (by rfl) (fun _ _ _ h => h) (by assumption) rfl ?p184 ?_; (case p184 => (simp only [Act.put, sA, sB, sC]; try rfl)))
   (refine tN 26 50 ?a185 rfl (by kernel_rfl) (by rfl) (fun _ _ _ h => h) (by assumption) rfl ?p185 ?_; (case p185 => (simp only [Act.put, sA, sB, sC]; try rfl)))
   (refine tN 27 51 ?a186 rfl (by kernel_rfl) (by rfl) (fun _ _ _ h => h) (by assumption) rfl ?p186 ?_; (case p186 => (simp only [Act.put, sA, sB, sC]; try rfl)))
   (refine tN 28 52 ?a187 rfl (by kernel_rfl) (by rfl) (fun _ _ _ h => h) (by assumption) rfl ?p187 ?_; (case p187 => (simp only [Act.put, sA, sB, sC]; try rfl)))
   (refine tN 29 53 ?a188 rfl (by kernel_rfl) (by rfl) (fun _ _ _ h => h) (by assumption) rfl ?p188 ?_; (case p188 => (simp only [Act.put, sA, sB, sC]; try rfl)))
   (refine tY 30 54 ?v189 ?a189 rfl (by kernel_rfl) (by rfl) (fun _ _ _ h => h) ?y189 (by assumption) rfl ?p189 ?_; (case y189 => (intro w hSw; (try dsimp only at hSw); simp only [gA, gB, gC, gD, gE]; go_simp; (try with_reducible rfl))); (case p189 => (simp only [Act.put, sA, sB, sC]; try rfl)))
   refine step_one (i := 31) (by kernel_rfl) (fun K o ho hK => ?_)
   simp only [List.getElem?_toArray, List.getElem?_cons_succ, List.getElem?_cons_zero, Option.some.injEq] at ho
   subst ho
   go_simp
   refine hK.out _ _ ?_ (fun hHeld => ?_)
   focus exact S0.out _ (Or.inr rfl)
   clear hK K
   try simp only [Act.put, List.setIfInBounds_toArray, List.set_cons_zero, List.set_cons_succ]
   (refine tY 32 5 ?v190 ?a190 rfl (by kernel_rfl) (by rfl) (fun _ _ _ h => h) ?y190 (by assumption) rfl ?p190 ?_; (case y190 => (intro w hSw; (try dsimp only at hSw); simp only [gA, gB, gC, gD, gE]; go_simp; (try with_reducible rfl))); (case p190 => (simp only [Act.put, sA, sB, sC]; try rfl)))
   refine wpAnyH_done (by kernel_rfl) ?_ _
   go_wp2_with fail
   refine bodyPost_ret (v := .tuple #[.agg #[.int .i64 (nb : Int), .string (str nm), .int .i64 (lo : Int), .int .u64 (hh : Int), .slice av fl.length cv], .bool false]) (by simp [results, Tryz.results190, go_sem, q0', q1', q2', q3', q4']) rfl ?_
   exact ⟨_, by rw [HR.out], HFIN.out _ rfl⟩
end Go.Proofs.YtonjphollmdicaaGreatDoor
