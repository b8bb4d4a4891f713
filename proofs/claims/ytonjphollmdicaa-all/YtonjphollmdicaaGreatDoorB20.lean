import Derived.Test.YtonjphollmdicaaGreatDoorB19
set_option maxRecDepth 100000
set_option maxHeartbeats 4000000
set_option linter.unusedSimpArgs false
namespace Go.Proofs.YtonjphollmdicaaGreatDoor
open Go.ChangeShapes Go.WideShapes Go.ChangeAt Go.RowKit
theorem Kl (b : List UInt8) (size : Nat) (hb : b.length ≤ 1000000) (hsz0 : 2 ≤ size) (hsz : size ≤ 32) (w : World) :
  Calls Tryz.prog 190 #[.string (str b), .int .i64 (size : Int)] w fun e w' => ∃ v, e = .returned (.tuple #[.agg #[.int .i64 (Av b : Int), .string (str (AW b)), .int .i64 (Bh b : Int), .int .u64 (BQ b : Int), v], .bool (D9 b size)]) ∧ w'.ownsRow w.heap.size 63 1 v (Ai b).length (Cz (Ai b)) ∧ Below w.heap.size w w' := by
 have hn1 : Av b < 65536 := CH _ (Nat.le_trans (Dl _ _) (by omega))
 have hn2 : fN b < 65536 := CH _ (Nat.le_trans (Dl _ _) (by omega))
 have hn3 : Bh b < 65536 := CH _ (Dl _ _)
 have l1 : (fS1 b).1.length ≤ 1000000 := Nat.le_trans (Cj _ _) hb
 have l2 : (fS2 b).1.length ≤ 1000000 := Nat.le_trans (Cj _ _) l1
 have l3 : (fS3 b).1.length ≤ 1000000 := Nat.le_trans (Cj _ _) l2
 have l4 : (fS4 b).1.length ≤ 1000000 := Nat.le_trans (Cj _ _) l3
 have l5 : (fS5 b).1.length ≤ 1000000 := Nat.le_trans (Cj _ _) l4
 have N1 : Hid (∀ W, RdAt (w.heap.size + 1) (b, false) W → Calls Tryz.prog 140 #[.pointer (some ⟨w.heap.size + 1, 0, none⟩), .int .i64 ((1 : Nat) : Int)] W fun e w' => e = .returned (.int .u64 ((Av b : Nat) : Int)) ∧ RdAt (w.heap.size + 1) (fS1 b) w' ∧ Touch [w.heap.size + 1] W w') := Aa (fun W h => Bx (w.heap.size + 1) (b, false) 1 hb (by omega) W h)
 have N2 : Hid (∀ W, RdAt (w.heap.size + 1) (fS1 b) W → Calls Tryz.prog 140 #[.pointer (some ⟨w.heap.size + 1, 0, none⟩), .int .i64 ((1 : Nat) : Int)] W fun e w' => e = .returned (.int .u64 ((fN b : Nat) : Int)) ∧ RdAt (w.heap.size + 1) (fS2 b) w' ∧ Touch [w.heap.size + 1] W w') := Aa (fun W h => Bx (w.heap.size + 1) (fS1 b) 1 l1 (by omega) W h)
 have N3 : Hid (∀ W, RdAt (w.heap.size + 1) (fS2 b) W → Calls Tryz.prog 139 #[.pointer (some ⟨w.heap.size + 1, 0, none⟩), .int .i64 ((fN b : Nat) : Int)] W fun e w' => e = .returned (.string (str (AW b))) ∧ RdAt (w.heap.size + 1) (fS3 b) w' ∧ Touch [w.heap.size + 1] W w') := Aa (fun W h => E5 (w.heap.size + 1) (fS2 b) (fN b) l2 W h)
 have N4 : Hid (∀ W, RdAt (w.heap.size + 1) (fS3 b) W → Calls Tryz.prog 140 #[.pointer (some ⟨w.heap.size + 1, 0, none⟩), .int .i64 ((2 : Nat) : Int)] W fun e w' => e = .returned (.int .u64 ((Bh b : Nat) : Int)) ∧ RdAt (w.heap.size + 1) (fS4 b) w' ∧ Touch [w.heap.size + 1] W w') := Aa (fun W h => Bx (w.heap.size + 1) (fS3 b) 2 l3 (by omega) W h)
 have N5 : Hid (∀ W, RdAt (w.heap.size + 1) (fS4 b) W → Calls Tryz.prog 140 #[.pointer (some ⟨w.heap.size + 1, 0, none⟩), .int .i64 ((8 : Nat) : Int)] W fun e w' => e = .returned (.int .u64 ((BQ b : Nat) : Int)) ∧ RdAt (w.heap.size + 1) (fS5 b) w' ∧ Touch [w.heap.size + 1] W w') := Aa (fun W h => Bx (w.heap.size + 1) (fS4 b) 8 l4 (by omega) W h)
 have N6 : Hid (∀ W, RdAt (w.heap.size + 1) (fS5 b) W → Calls Tryz.prog 194 #[.pointer (some ⟨w.heap.size + 1, 0, none⟩)] W fun e w' => ∃ v, e = .returned v ∧ w'.ownsRow W.heap.size 63 1 v (Ai b).length (Cz (Ai b)) ∧ RdAt (w.heap.size + 1) (IZ (fS5 b)) w' ∧ Touch [w.heap.size + 1] W w') := Aa (fun W h => Im (w.heap.size + 1) (fS5 b) l5 W h)
 have hmr : D9 b size = (!(IZ (fS5 b)).2 && decide (1 ≤ (AW b).length) && decide ((AW b).length ≤ 20) && decide (Bh b ≤ 400) && decide ((Ai b).length = Aj (Bh b) size)) := rfl
 have HMR := Aa hmr
 have hfl : (Ai b).length ≤ 1000000 := by unfold Ai; rw [Dp]; omega
 have hnl : (AW b).length ≤ 1000000 := Nat.le_trans (QJ _ _) l2
 obtain ⟨nb, hnb⟩ : ∃ x, x = Av b := ⟨_, rfl⟩
 obtain ⟨nn, hnn⟩ : ∃ x, x = fN b := ⟨_, rfl⟩
 obtain ⟨nm, hnm⟩ : ∃ x, x = AW b := ⟨_, rfl⟩
 obtain ⟨lo, hlo⟩ : ∃ x, x = Bh b := ⟨_, rfl⟩
 obtain ⟨hh, hhh⟩ : ∃ x, x = BQ b := ⟨_, rfl⟩
 obtain ⟨fl, hfle⟩ : ∃ x, x = Ai b := ⟨_, rfl⟩
 obtain ⟨s1, hs1⟩ : ∃ x, x = fS1 b := ⟨_, rfl⟩
 obtain ⟨s2, hs2⟩ : ∃ x, x = fS2 b := ⟨_, rfl⟩
 obtain ⟨s3, hs3⟩ : ∃ x, x = fS3 b := ⟨_, rfl⟩
 obtain ⟨s4, hs4⟩ : ∃ x, x = fS4 b := ⟨_, rfl⟩
 obtain ⟨s5, hs5⟩ : ∃ x, x = fS5 b := ⟨_, rfl⟩
 obtain ⟨R, hRe⟩ : ∃ x, x = D9 b size := ⟨_, rfl⟩
 rw [← hnb] at N1 hn1 ⊢
 rw [← hnn] at N2 N3 hn2
 rw [← hnm] at N3 HMR hnl ⊢
 rw [← hlo] at N4 hn3 HMR ⊢
 rw [← hhh] at N5 ⊢
 rw [← hfle] at N6 hfl HMR ⊢
 rw [← hs1] at N1 N2
 rw [← hs2] at N2 N3
 rw [← hs3] at N3 N4
 rw [← hs4] at N4 N5
 rw [← hs5] at N5 N6 HMR
 rw [← hRe] at HMR ⊢
 clear hnb hnn hnm hlo hhh hfle hs1 hs2 hs3 hs4 hs5 hRe hmr l1 l2 l3 l4 l5
 have w1' : IntKind.i64.wrap (nb : Int) = (nb : Int) := by rw [IntKind.wrap_i64]; omega
 have w2' : IntKind.i64.wrap (nn : Int) = (nn : Int) := by rw [IntKind.wrap_i64]; omega
 have w3' : IntKind.i64.wrap (lo : Int) = (lo : Int) := by rw [IntKind.wrap_i64]; omega
 have A1 : Hid (RdAt (w.heap.size + 1) (b, false) ((w.alloc (Obj.cells #[.int .i64 0, .string ⟨#[]⟩, .int .i64 0, .int .u64 0, .slice none 0 0] 143)).alloc (Obj.cells #[Value.string (str b), Value.bool false] 226))) := Aa ⟨by simp, by simp, by simp, by simp⟩
 go_enter Tryz.func190, Tryz.ntmps190
 go_wp2_with fail
 refine (N1.out _ A1.out).mono ?_
 rintro e w1 ⟨rfl, hr1, ht1⟩
 have hsz1 : w.heap.size + 2 ≤ w1.heap.size := by have := ht1.size; simpa using this
 have hb1 : Below w.heap.size w w1 := Below.trans ((((Below.refl w.heap.size w).alloc (Nat.le_refl _) _).alloc (by simp) _)) (ht1.below (by simp; omega) (by simp))
 have k1 : Blk w1 w.heap.size [.int .i64 0, .string ⟨#[]⟩, .int .i64 0, .int .u64 0, .slice none 0 0] := ((Blk.new w #[.int .i64 0, .string ⟨#[]⟩, .int .i64 0, .int .u64 0, .slice none 0 0] 143).alloc _).touch ht1 (by simp)
 obtain ⟨V, hV⟩ : ∃ V, V = Obj.cells #[.int .i64 (nb : Int), .string ⟨#[]⟩, .int .i64 0, .int .u64 0, .slice none 0 0] 143 := ⟨_, rfl⟩
 have A2 : Hid (RdAt (w.heap.size + 1) s1 (w1.alloc (Obj.cells #[.int .i64 (nb : Int), .string ⟨#[]⟩, .int .i64 0, .int .u64 0, .slice none 0 0] 143))) := Aa (hr1.touch ((Touch.refl [] _).alloc _) (by simp))
 have K2 := Aa (k1.alloc V)
 have G2 := Aa (Blk.new w1 #[.int .i64 (nb : Int), .string ⟨#[]⟩, .int .i64 0, .int .u64 0, .slice none 0 0] 143)
 have B2 := Aa (hb1.alloc (by omega) V)
 have HV := Aa hV
 clear ht1 A1 N1 hr1 hb1 k1 hV
 go_wp2_with fail
 refine (N2.out _ A2.out).mono ?_
 rintro e w2 ⟨rfl, hr2, ht2⟩
 go_wp2_with fail
 refine (N3.out _ hr2).mono ?_
 rintro e w3 ⟨rfl, hr3, ht3⟩
 obtain ⟨g, hg⟩ : ∃ g, g = w1.heap.size := ⟨_, rfl⟩
 rw [HV.out] at K2 B2
 rw [← hg] at G2 hsz1 ⊢
 have hgs : (w1.alloc (Obj.cells #[.int .i64 (nb : Int), .string ⟨#[]⟩, .int .i64 0, .int .u64 0, .slice none 0 0] 143)).heap.size = g + 1 := by simp [hg]
 have hgw : g ≠ w.heap.size := by omega
 have hgw' : w.heap.size + 1 ≠ g := by omega
 have ht4 := ht2.trans ht3
 have kq := K2.out.touch ht4 (by simp)
 have kg := G2.out.touch ht4 (by simp; omega)
 have hb3 : Below w.heap.size w w3 := B2.out.trans (ht4.below (by rw [hgs]; omega) (by simp))
 have hs3 : g + 1 ≤ w3.heap.size := by have := ht4.size; rw [hgs] at this; exact this
 have g1 := (kg 1 _ rfl).1
 have y1 := (kg 1 _ rfl).2
 have kq := kq
 have hb := hb3
 have hs := hs3
 have hr := hr3
 clear hb3 hs3 hr3 g1 y1 ht2 ht3 ht4 hr2 K2 G2 B2 A2 HV N2 N3 hgs hg
 have g1 := (kg 1 _ rfl).1
 have y1 := (kg 1 _ rfl).2
 have hb' := hb.setCell (show w.heap.size ≤ (⟨g, 1, none⟩ : Addr).block from by simp; omega) (.string (str nm))
 have kg' := kg.set 1 (.string (str nm))
 have kq' := kq.set_other (a := ⟨g, 1, none⟩) hgw (.string (str nm))
 have hr' : RdAt (w.heap.size + 1) s3 (w3.setCell ⟨g, 1, none⟩ (.string (str nm))) := hr.touch ((Touch.refl [g] _).setCell (.inl (by simp)) _) (by simpa using hgw')
 have hs' : g + 1 ≤ (w3.setCell ⟨g, 1, none⟩ (.string (str nm))).heap.size := by simpa using hs
 simp only [List.set_cons_succ, List.set_cons_zero] at kg'
 have B' := Aa hb'
 have KG' := Aa kg'
 have KQ' := Aa kq'
 have HR' := Aa hr'
 have HS' := Aa hs'
 clear kq kg hb hr hs kg' kq' hb' hr' hs'
 go_wp2_with fail
 refine (N4.out _ HR'.out).mono ?_
 rintro e w4 ⟨rfl, hr, ht⟩
 have kq := KQ'.out.touch ht (by simp)
 have kg := KG'.out.touch ht (by simpa using Ne.symm hgw')
 have hb : Below w.heap.size w w4 := B'.out.trans (ht.below (by have := HS'.out; omega) (by simp))
 have hs : g + 1 ≤ w4.heap.size := Nat.le_trans HS'.out ht.size
 clear ht KQ' KG' B' HS' HR'
 have g1 := (kg 2 _ rfl).1
 have y1 := (kg 2 _ rfl).2
 have hb' := hb.setCell (show w.heap.size ≤ (⟨g, 2, none⟩ : Addr).block from by simp; omega) (.int .i64 (lo : Int))
 have kg' := kg.set 2 (.int .i64 (lo : Int))
 have kq' := kq.set_other (a := ⟨g, 2, none⟩) hgw (.int .i64 (lo : Int))
 have hr' : RdAt (w.heap.size + 1) s4 (w4.setCell ⟨g, 2, none⟩ (.int .i64 (lo : Int))) := hr.touch ((Touch.refl [g] _).setCell (.inl (by simp)) _) (by simpa using hgw')
 have hs' : g + 1 ≤ (w4.setCell ⟨g, 2, none⟩ (.int .i64 (lo : Int))).heap.size := by simpa using hs
 simp only [List.set_cons_succ, List.set_cons_zero] at kg'
 have B' := Aa hb'
 have KG' := Aa kg'
 have KQ' := Aa kq'
 have HR' := Aa hr'
 have HS' := Aa hs'
 clear kq kg hb hr hs kg' kq' hb' hr' hs'
 go_wp2_with fail
 refine (N5.out _ HR'.out).mono ?_
 rintro e w5 ⟨rfl, hr, ht⟩
 have kq := KQ'.out.touch ht (by simp)
 have kg := KG'.out.touch ht (by simpa using Ne.symm hgw')
 have hb : Below w.heap.size w w5 := B'.out.trans (ht.below (by have := HS'.out; omega) (by simp))
 have hs : g + 1 ≤ w5.heap.size := Nat.le_trans HS'.out ht.size
 clear ht KQ' KG' B' HS' HR'
 have g1 := (kg 3 _ rfl).1
 have y1 := (kg 3 _ rfl).2
 have hb' := hb.setCell (show w.heap.size ≤ (⟨g, 3, none⟩ : Addr).block from by simp; omega) (.int .u64 (hh : Int))
 have kg' := kg.set 3 (.int .u64 (hh : Int))
 have kq' := kq.set_other (a := ⟨g, 3, none⟩) hgw (.int .u64 (hh : Int))
 have hr' : RdAt (w.heap.size + 1) s5 (w5.setCell ⟨g, 3, none⟩ (.int .u64 (hh : Int))) := hr.touch ((Touch.refl [g] _).setCell (.inl (by simp)) _) (by simpa using hgw')
 have hs' : g + 1 ≤ (w5.setCell ⟨g, 3, none⟩ (.int .u64 (hh : Int))).heap.size := by simpa using hs
 simp only [List.set_cons_succ, List.set_cons_zero] at kg'
 have B' := Aa hb'
 have KG' := Aa kg'
 have KQ' := Aa kq'
 have HR' := Aa hr'
 have HS' := Aa hs'
 clear kq kg hb hr hs kg' kq' hb' hr' hs'
 go_wp2_with fail
 refine (N6.out _ HR'.out).mono ?_
 rintro e w6 ⟨v, rfl, hown, hr, ht⟩
 obtain ⟨av, cv, rfl, -⟩ := Aw hown
 have kq := KQ'.out.touch ht (by simp)
 have kg := KG'.out.touch ht (by simpa using Ne.symm hgw')
 have hb : Below w.heap.size w w6 := B'.out.trans (ht.below (by have := HS'.out; omega) (by simp))
 have ho6 : w6.ownsRow w.heap.size 63 1 (.slice av fl.length cv) fl.length (Cz fl) := Ad (by have := HS'.out; omega) hown
 have hvg : (Value.slice av fl.length cv).ownBlock ≠ some g := fun e => by
  have h1 := (hown.lt g e).1
  have h2 := HS'.out
  omega
 have hvq : (Value.slice av fl.length cv).ownBlock ≠ some w.heap.size := fun e => by
  have h1 := (hown.lt _ e).1
  have h2 := HS'.out
  omega
 have g4 := (kg 4 _ rfl).1
 have y4 := (kg 4 _ rfl).2
 have hb' := hb.setCell (show w.heap.size ≤ (⟨g, 4, none⟩ : Addr).block from by simp; omega) (.slice av fl.length cv)
 have kg' := kg.set 4 (.slice av fl.length cv)
 have kq' := kq.set_other (a := ⟨g, 4, none⟩) hgw (.slice av fl.length cv)
 have hr' : RdAt (w.heap.size + 1) (IZ s5) (w6.setCell ⟨g, 4, none⟩ (.slice av fl.length cv)) := hr.touch ((Touch.refl [g] _).setCell (.inl (by simp)) _) (by simpa using hgw')
 have ho' := AQ ho6 ((Touch.refl [g] _).setCell (x := ⟨g, 4, none⟩) (.inl (by simp)) (.slice av fl.length cv)) (fun k hk => by
  simp only [List.mem_singleton]
  rintro rfl
  exact hvg hk)
 simp only [List.set_cons_succ, List.set_cons_zero] at kg'
 clear kq kg hb hr ht hown ho6 KQ' KG' B' HS' HR' N4 N5 N6
 have B' := Aa hb'
 have KG' := Aa kg'
 have KQ' := Aa kq'
 have HR' := Aa hr'
 have HO' := Aa ho'
 have HVQ := Aa hvq
 clear hb' kg' kq' hr' ho' hvq hvg
 go_wp2_with fail
 obtain ⟨W, hW⟩ : ∃ W, W = w6.setCell ⟨g, 4, none⟩ (.slice av fl.length cv) := ⟨_, rfl⟩
 rw [← hW] at B' KG' KQ' HR' HO' ⊢
 have hfin : ∀ X : World, X = (((((W.setCell ⟨w.heap.size, 0, none⟩ (.int .i64 (nb : Int))).setCell ⟨w.heap.size, 1, none⟩ (.string (str nm))).setCell ⟨w.heap.size, 2, none⟩ (.int .i64 (lo : Int))).setCell ⟨w.heap.size, 3, none⟩ (.int .u64 (hh : Int))).setCell ⟨w.heap.size, 4, none⟩ (.slice av fl.length cv)).drew → X.ownsRow w.heap.size 63 1 (.slice av fl.length cv) fl.length (Cz fl) ∧ Below w.heap.size w X := by
  rintro X rfl
  refine ⟨AQ HO'.out ((((((Touch.refl [w.heap.size] _).setCell (.inl (by simp)) _).setCell (.inl (by simp)) _).setCell (.inl (by simp)) _).setCell (.inl (by simp)) _).setCell (.inl (by simp)) _).drew (fun k hk => ?_), (((((B'.out.setCell (Nat.le_refl _) _).setCell (Nat.le_refl _) _).setCell (Nat.le_refl _) _).setCell (Nat.le_refl _) _).setCell (Nat.le_refl _) _).drew⟩
  simp only [List.mem_singleton]
  rintro rfl
  exact HVQ.out hk
 have HFIN := Aa hfin
 obtain ⟨sh, hsh⟩ : ∃ x, x = (IZ s5).2 := ⟨_, rfl⟩
 have r1' := HR'.out.c1
 rw [← hsh] at HMR r1'
 have hS0 : ∀ X : World, (X = W.drew ∨ X = (((((W.setCell ⟨w.heap.size, 0, none⟩ (.int .i64 (nb : Int))).setCell ⟨w.heap.size, 1, none⟩ (.string (str nm))).setCell ⟨w.heap.size, 2, none⟩ (.int .i64 (lo : Int))).setCell ⟨w.heap.size, 3, none⟩ (.int .u64 (hh : Int))).setCell ⟨w.heap.size, 4, none⟩ (.slice av fl.length cv)).drew) → X.cell? ⟨w.heap.size + 1, 1, none⟩ = some (.bool sh) ∧ X.cell? ⟨g, 0, none⟩ = some (.int .i64 (nb : Int)) ∧ X.cell? ⟨g, 1, none⟩ = some (.string (str nm)) ∧ X.cell? ⟨g, 2, none⟩ = some (.int .i64 (lo : Int)) ∧ X.cell? ⟨g, 3, none⟩ = some (.int .u64 (hh : Int)) ∧ X.cell? ⟨g, 4, none⟩ = some (.slice av fl.length cv) := by
  have kgf : ∀ X : World, (X = W.drew ∨ X = (((((W.setCell ⟨w.heap.size, 0, none⟩ (.int .i64 (nb : Int))).setCell ⟨w.heap.size, 1, none⟩ (.string (str nm))).setCell ⟨w.heap.size, 2, none⟩ (.int .i64 (lo : Int))).setCell ⟨w.heap.size, 3, none⟩ (.int .u64 (hh : Int))).setCell ⟨w.heap.size, 4, none⟩ (.slice av fl.length cv)).drew) → Blk X g [.int .i64 (nb : Int), .string (str nm), .int .i64 (lo : Int), .int .u64 (hh : Int), .slice av fl.length cv] ∧ X.cell? ⟨w.heap.size + 1, 1, none⟩ = some (.bool sh) := by
   rintro X (rfl | rfl)
   ·exact ⟨KG'.out.drew, r1'⟩
   ·have ht : Touch [w.heap.size] W ((((((W.setCell ⟨w.heap.size, 0, none⟩ (.int .i64 (nb : Int))).setCell ⟨w.heap.size, 1, none⟩ (.string (str nm))).setCell ⟨w.heap.size, 2, none⟩ (.int .i64 (lo : Int))).setCell ⟨w.heap.size, 3, none⟩ (.int .u64 (hh : Int))).setCell ⟨w.heap.size, 4, none⟩ (.slice av fl.length cv)).drew) := ((((((Touch.refl [w.heap.size] _).setCell (.inl (by simp)) _).setCell (.inl (by simp)) _).setCell (.inl (by simp)) _).setCell (.inl (by simp)) _).setCell (.inl (by simp)) _).drew
    exact ⟨KG'.out.touch ht (by simpa using hgw), by rw [ht.cell (x := ⟨w.heap.size + 1, 1, none⟩) HR'.out.lt (by simp)]; exact r1'⟩
  intro X hX
  obtain ⟨h1, h2⟩ := kgf X hX
  exact ⟨h2, (h1 0 _ rfl).1, (h1 1 _ rfl).1, (h1 2 _ rfl).1, (h1 3 _ rfl).1, (h1 4 _ rfl).1⟩
 have S0 := Aa hS0
 have kq' := KQ'.out
 have q0' := (kq' 0 _ rfl).1
 have q1' := (kq' 1 _ rfl).1
 have q2' := (kq' 2 _ rfl).1
 have q3' := (kq' 3 _ rfl).1
 have q4' := (kq' 4 _ rfl).1
 have z0' := (kq' 0 _ rfl).2
 have z1' := (kq' 1 _ rfl).2
 have z2' := (kq' 2 _ rfl).2
 have z3' := (kq' 3 _ rfl).2
 have z4' := (kq' 4 _ rfl).2
 have hns := Ae nm
 have hcall := fun W => EP lo size (by omega) (by omega) (by omega) W
 clear hW hfin hS0 kq' r1' hsh B' KG' KQ' HR' HO' HVQ g4 y4 hgw hgw' hsz1 hn1 hn2 w1' w2' w3' hb hsz0 hsz hn3 hnl
 have HC := Aa hcall
 clear hcall
 cases sh with
 | true =>
  have HR : Hid (R = false) := Aa (by rw [HMR.out]; rfl)
  clear HMR
  refine wp_region_held_drew (S := fun X => X.cell? ⟨w.heap.size + 1, 1, none⟩ = some (.bool true) ∧ X.cell? ⟨g, 0, none⟩ = some (.int .i64 (nb : Int)) ∧ X.cell? ⟨g, 1, none⟩ = some (.string (str nm)) ∧ X.cell? ⟨g, 2, none⟩ = some (.int .i64 (lo : Int)) ∧ X.cell? ⟨g, 3, none⟩ = some (.int .u64 (hh : Int)) ∧ X.cell? ⟨g, 4, none⟩ = some (.slice av fl.length cv)) (by kernel_rfl) (S0.out _ (Or.inl rfl)) (fun hHeld => ?_)
  refine tY 0 24 ?_
  refine tY 1 25 ?_
  refine tY 2 26 ?_
  refine tY 3 27 ?_
  refine tY 4 28 ?_
  refine tN 5 29 ?_
  refine tN 6 30 ?_
  refine tN 7 31 ?_
  refine tN 8 32 ?_
  refine tY 9 33 ?_
  refine tY 10 34 ?_
  refine tN 11 35 ?_
  refine tN 12 36 ?_
  refine tN 13 37 ?_
  refine tN 14 38 ?_
  refine tY 15 39 ?_
  refine tY 16 40 ?_
  refine tN 17 41 ?_
  refine tN 18 42 ?_
  refine tN 19 43 ?_
  refine tY 20 44 ?_
  refine tY 21 45 ?_
  refine tN 22 46 ?_
  refine tN 23 47 ?_
  refine tN 24 48 ?_
  refine tN 25 49 ?_
  refine tN 26 50 ?_
  refine tN 27 51 ?_
  refine tN 28 52 ?_
  refine tN 29 53 ?_
  refine tY 30 54 ?_
  refine Ah (i := 31) (by kernel_rfl) (fun K o ho hK => ?_)
  simp only [gA, gB, gC, gE] at ho
  subst ho
  go_simp
  refine hK.out _ _ ?_ (fun hHeld => ?_)
  focus exact S0.out _ (Or.inr rfl)
  clear hK K
  try simp only [Act.put, sA, sB, sC]
  refine tY 32 5 ?_
  refine wpAnyH_done (by kernel_rfl) ?_ _
  go_wp2_with fail
  refine bodyPost_ret (v := .tuple #[.agg #[.int .i64 (nb : Int), .string (str nm), .int .i64 (lo : Int), .int .u64 (hh : Int), .slice av fl.length cv], .bool false]) (by simp [results, Tryz.results190, go_sem, q0', q1', q2', q3', q4']) rfl ?_
  exact ⟨_, by rw [HR.out], HFIN.out _ rfl⟩
 | false =>
  by_cases b1 : 1 ≤ nm.length
  ·have e1 : (1 : Int) ≤ (nm.length : Int) := by omega
   by_cases b2 : nm.length ≤ 20
   ·have e2 : (nm.length : Int) ≤ 20 := by omega
    by_cases b3 : lo ≤ 400
    ·have e3 : (lo : Int) ≤ 400 := by omega
     by_cases b4 : fl.length = Aj lo size
     ·have e4 : ((fl.length : Int) == (Aj lo size : Int)) = true := by simp [b4]
      have HR : Hid (R = true) := Aa (by rw [HMR.out]; rw [decide_eq_true b1, decide_eq_true b2, decide_eq_true b3, decide_eq_true b4]; rfl)
      clear HMR b4 b3 b2 b1 hfl
      refine wp_region_held_drew (S := fun X => X.cell? ⟨w.heap.size + 1, 1, none⟩ = some (.bool false) ∧ X.cell? ⟨g, 0, none⟩ = some (.int .i64 (nb : Int)) ∧ X.cell? ⟨g, 1, none⟩ = some (.string (str nm)) ∧ X.cell? ⟨g, 2, none⟩ = some (.int .i64 (lo : Int)) ∧ X.cell? ⟨g, 3, none⟩ = some (.int .u64 (hh : Int)) ∧ X.cell? ⟨g, 4, none⟩ = some (.slice av fl.length cv)) (by kernel_rfl) (S0.out _ (Or.inl rfl)) (fun hHeld => ?_)
      refine tY 0 24 ?_
      refine tY 1 25 ?_
      refine tY 2 26 ?_
      refine tY 3 27 ?_
      refine tY 4 28 ?_
      refine tY 5 29 ?_
      refine tY 6 30 ?_
      refine tY 7 31 ?_
      refine tY 8 32 ?_
      refine tY 9 33 ?_
      refine tY 10 34 ?_
      refine tY 11 35 ?_
      refine tY 12 36 ?_
      refine tY 13 37 ?_
      refine tY 14 38 ?_
      refine tY 15 39 ?_
      refine tY 16 40 ?_
      refine tY 17 41 ?_
      refine tY 18 42 ?_
      refine tY 19 43 ?_
      refine tY 20 44 ?_
      refine tY 21 45 ?_
      refine tY 22 46 ?_
      refine tY 23 47 ?_
      refine tY 24 48 ?_
      refine tY 25 49 ?_
      refine tY 26 50 ?_
      refine tY 27 51 ?_
      refine Ah (i := 28) (by kernel_rfl) (fun K o ho hK => ?_)
      simp only [gA, gB, gC, gE] at ho
      subst ho
      go_simp
      refine (HC.out _).mono ?_
      rintro e w' ⟨rfl, rfl⟩
      refine hK.out _ _ ?_ (fun hHeld => ?_)
      focus exact S0.out _ (Or.inl rfl)
      clear hK K
      try simp only [Act.put, sA, sB, sC]
      refine tY 29 53 ?_
      refine tY 30 54 ?_
      refine Ah (i := 31) (by kernel_rfl) (fun K o ho hK => ?_)
      simp only [gA, gB, gC, gE] at ho
      subst ho
      go_simp
      refine hK.out _ _ ?_ (fun hHeld => ?_)
      focus exact S0.out _ (Or.inr rfl)
      clear hK K
      try simp only [Act.put, sA, sB, sC]
      refine tY 32 5 ?_
      refine wpAnyH_done (by kernel_rfl) ?_ _
      go_wp2_with fail
      refine bodyPost_ret (v := .tuple #[.agg #[.int .i64 (nb : Int), .string (str nm), .int .i64 (lo : Int), .int .u64 (hh : Int), .slice av fl.length cv], .bool true]) (by simp [results, Tryz.results190, go_sem, q0', q1', q2', q3', q4']) rfl ?_
      exact ⟨_, by rw [HR.out], HFIN.out _ rfl⟩
     ·have e4 : ((fl.length : Int) == (Aj lo size : Int)) = false := by simp; omega
      have HR : Hid (R = false) := Aa (by rw [HMR.out]; simp [b4])
      clear HMR b4 b3 b2 b1 hfl
      refine wp_region_held_drew (S := fun X => X.cell? ⟨w.heap.size + 1, 1, none⟩ = some (.bool false) ∧ X.cell? ⟨g, 0, none⟩ = some (.int .i64 (nb : Int)) ∧ X.cell? ⟨g, 1, none⟩ = some (.string (str nm)) ∧ X.cell? ⟨g, 2, none⟩ = some (.int .i64 (lo : Int)) ∧ X.cell? ⟨g, 3, none⟩ = some (.int .u64 (hh : Int)) ∧ X.cell? ⟨g, 4, none⟩ = some (.slice av fl.length cv)) (by kernel_rfl) (S0.out _ (Or.inl rfl)) (fun hHeld => ?_)
      refine tY 0 24 ?_
      refine tY 1 25 ?_
      refine tY 2 26 ?_
      refine tY 3 27 ?_
      refine tY 4 28 ?_
      refine tY 5 29 ?_
      refine tY 6 30 ?_
      refine tY 7 31 ?_
      refine tY 8 32 ?_
      refine tY 9 33 ?_
      refine tY 10 34 ?_
      refine tY 11 35 ?_
      refine tY 12 36 ?_
      refine tY 13 37 ?_
      refine tY 14 38 ?_
      refine tY 15 39 ?_
      refine tY 16 40 ?_
      refine tY 17 41 ?_
      refine tY 18 42 ?_
      refine tY 19 43 ?_
      refine tY 20 44 ?_
      refine tY 21 45 ?_
      refine tY 22 46 ?_
      refine tY 23 47 ?_
      refine tY 24 48 ?_
      refine tY 25 49 ?_
      refine tY 26 50 ?_
      refine tY 27 51 ?_
      refine Ah (i := 28) (by kernel_rfl) (fun K o ho hK => ?_)
      simp only [gA, gB, gC, gE] at ho
      subst ho
      go_simp
      refine (HC.out _).mono ?_
      rintro e w' ⟨rfl, rfl⟩
      refine hK.out _ _ ?_ (fun hHeld => ?_)
      focus exact S0.out _ (Or.inl rfl)
      clear hK K
      try simp only [Act.put, sA, sB, sC]
      refine tY 29 53 ?_
      refine tY 30 54 ?_
      refine Ah (i := 31) (by kernel_rfl) (fun K o ho hK => ?_)
      simp only [gA, gB, gC, gE] at ho
      subst ho
      go_simp
      refine hK.out _ _ ?_ (fun hHeld => ?_)
      focus exact S0.out _ (Or.inr rfl)
      clear hK K
      try simp only [Act.put, sA, sB, sC]
      refine tY 32 5 ?_
      refine wpAnyH_done (by kernel_rfl) ?_ _
      go_wp2_with fail
      refine bodyPost_ret (v := .tuple #[.agg #[.int .i64 (nb : Int), .string (str nm), .int .i64 (lo : Int), .int .u64 (hh : Int), .slice av fl.length cv], .bool false]) (by simp [results, Tryz.results190, go_sem, q0', q1', q2', q3', q4']) rfl ?_
      exact ⟨_, by rw [HR.out], HFIN.out _ rfl⟩
    ·have e3 : ¬ ((lo : Int) ≤ 400) := by omega
     have HR : Hid (R = false) := Aa (by rw [HMR.out]; simp [b3])
     clear HMR b3 b2 b1 hfl
     refine wp_region_held_drew (S := fun X => X.cell? ⟨w.heap.size + 1, 1, none⟩ = some (.bool false) ∧ X.cell? ⟨g, 0, none⟩ = some (.int .i64 (nb : Int)) ∧ X.cell? ⟨g, 1, none⟩ = some (.string (str nm)) ∧ X.cell? ⟨g, 2, none⟩ = some (.int .i64 (lo : Int)) ∧ X.cell? ⟨g, 3, none⟩ = some (.int .u64 (hh : Int)) ∧ X.cell? ⟨g, 4, none⟩ = some (.slice av fl.length cv)) (by kernel_rfl) (S0.out _ (Or.inl rfl)) (fun hHeld => ?_)
     refine tY 0 24 ?_
     refine tY 1 25 ?_
     refine tY 2 26 ?_
     refine tY 3 27 ?_
     refine tY 4 28 ?_
     refine tY 5 29 ?_
     refine tY 6 30 ?_
     refine tY 7 31 ?_
     refine tY 8 32 ?_
     refine tY 9 33 ?_
     refine tY 10 34 ?_
     refine tY 11 35 ?_
     refine tY 12 36 ?_
     refine tY 13 37 ?_
     refine tY 14 38 ?_
     refine tY 15 39 ?_
     refine tY 16 40 ?_
     refine tY 17 41 ?_
     refine tY 18 42 ?_
     refine tY 19 43 ?_
     refine tY 20 44 ?_
     refine tY 21 45 ?_
     refine tN 22 46 ?_
     refine tN 23 47 ?_
     refine tN 24 48 ?_
     refine tN 25 49 ?_
     refine tN 26 50 ?_
     refine tN 27 51 ?_
     refine tN 28 52 ?_
     refine tN 29 53 ?_
     refine tY 30 54 ?_
     refine Ah (i := 31) (by kernel_rfl) (fun K o ho hK => ?_)
     simp only [gA, gB, gC, gE] at ho
     subst ho
     go_simp
     refine hK.out _ _ ?_ (fun hHeld => ?_)
     focus exact S0.out _ (Or.inr rfl)
     clear hK K
     try simp only [Act.put, sA, sB, sC]
     refine tY 32 5 ?_
     refine wpAnyH_done (by kernel_rfl) ?_ _
     go_wp2_with fail
     refine bodyPost_ret (v := .tuple #[.agg #[.int .i64 (nb : Int), .string (str nm), .int .i64 (lo : Int), .int .u64 (hh : Int), .slice av fl.length cv], .bool false]) (by simp [results, Tryz.results190, go_sem, q0', q1', q2', q3', q4']) rfl ?_
     exact ⟨_, by rw [HR.out], HFIN.out _ rfl⟩
   ·have e2 : ¬ ((nm.length : Int) ≤ 20) := by omega
    have HR : Hid (R = false) := Aa (by rw [HMR.out]; simp [b2])
    clear HMR b2 b1 hfl
    refine wp_region_held_drew (S := fun X => X.cell? ⟨w.heap.size + 1, 1, none⟩ = some (.bool false) ∧ X.cell? ⟨g, 0, none⟩ = some (.int .i64 (nb : Int)) ∧ X.cell? ⟨g, 1, none⟩ = some (.string (str nm)) ∧ X.cell? ⟨g, 2, none⟩ = some (.int .i64 (lo : Int)) ∧ X.cell? ⟨g, 3, none⟩ = some (.int .u64 (hh : Int)) ∧ X.cell? ⟨g, 4, none⟩ = some (.slice av fl.length cv)) (by kernel_rfl) (S0.out _ (Or.inl rfl)) (fun hHeld => ?_)
    refine tY 0 24 ?_
    refine tY 1 25 ?_
    refine tY 2 26 ?_
    refine tY 3 27 ?_
    refine tY 4 28 ?_
    refine tY 5 29 ?_
    refine tY 6 30 ?_
    refine tY 7 31 ?_
    refine tY 8 32 ?_
    refine tY 9 33 ?_
    refine tY 10 34 ?_
    refine tY 11 35 ?_
    refine tY 12 36 ?_
    refine tY 13 37 ?_
    refine tY 14 38 ?_
    refine tY 15 39 ?_
    refine tY 16 40 ?_
    refine tN 17 41 ?_
    refine tN 18 42 ?_
    refine tN 19 43 ?_
    refine tY 20 44 ?_
    refine tY 21 45 ?_
    refine tN 22 46 ?_
    refine tN 23 47 ?_
    refine tN 24 48 ?_
    refine tN 25 49 ?_
    refine tN 26 50 ?_
    refine tN 27 51 ?_
    refine tN 28 52 ?_
    refine tN 29 53 ?_
    refine tY 30 54 ?_
    refine Ah (i := 31) (by kernel_rfl) (fun K o ho hK => ?_)
    simp only [gA, gB, gC, gE] at ho
    subst ho
    go_simp
    refine hK.out _ _ ?_ (fun hHeld => ?_)
    focus exact S0.out _ (Or.inr rfl)
    clear hK K
    try simp only [Act.put, sA, sB, sC]
    refine tY 32 5 ?_
    refine wpAnyH_done (by kernel_rfl) ?_ _
    go_wp2_with fail
    refine bodyPost_ret (v := .tuple #[.agg #[.int .i64 (nb : Int), .string (str nm), .int .i64 (lo : Int), .int .u64 (hh : Int), .slice av fl.length cv], .bool false]) (by simp [results, Tryz.results190, go_sem, q0', q1', q2', q3', q4']) rfl ?_
    exact ⟨_, by rw [HR.out], HFIN.out _ rfl⟩
  ·have e1 : ¬ ((1 : Int) ≤ (nm.length : Int)) := by omega
   have HR : Hid (R = false) := Aa (by rw [HMR.out]; simp [b1])
   clear HMR b1 hfl
   refine wp_region_held_drew (S := fun X => X.cell? ⟨w.heap.size + 1, 1, none⟩ = some (.bool false) ∧ X.cell? ⟨g, 0, none⟩ = some (.int .i64 (nb : Int)) ∧ X.cell? ⟨g, 1, none⟩ = some (.string (str nm)) ∧ X.cell? ⟨g, 2, none⟩ = some (.int .i64 (lo : Int)) ∧ X.cell? ⟨g, 3, none⟩ = some (.int .u64 (hh : Int)) ∧ X.cell? ⟨g, 4, none⟩ = some (.slice av fl.length cv)) (by kernel_rfl) (S0.out _ (Or.inl rfl)) (fun hHeld => ?_)
   refine tY 0 24 ?_
   refine tY 1 25 ?_
   refine tY 2 26 ?_
   refine tY 3 27 ?_
   refine tY 4 28 ?_
   refine tY 5 29 ?_
   refine tY 6 30 ?_
   refine tY 7 31 ?_
   refine tY 8 32 ?_
   refine tY 9 33 ?_
   refine tY 10 34 ?_
   refine tN 11 35 ?_
   refine tN 12 36 ?_
   refine tN 13 37 ?_
   refine tN 14 38 ?_
   refine tY 15 39 ?_
   refine tY 16 40 ?_
   refine tN 17 41 ?_
   refine tN 18 42 ?_
   refine tN 19 43 ?_
   refine tY 20 44 ?_
   refine tY 21 45 ?_
   refine tN 22 46 ?_
   refine tN 23 47 ?_
   refine tN 24 48 ?_
   refine tN 25 49 ?_
   refine tN 26 50 ?_
   refine tN 27 51 ?_
   refine tN 28 52 ?_
   refine tN 29 53 ?_
   refine tY 30 54 ?_
   refine Ah (i := 31) (by kernel_rfl) (fun K o ho hK => ?_)
   simp only [gA, gB, gC, gE] at ho
   subst ho
   go_simp
   refine hK.out _ _ ?_ (fun hHeld => ?_)
   focus exact S0.out _ (Or.inr rfl)
   clear hK K
   try simp only [Act.put, sA, sB, sC]
   refine tY 32 5 ?_
   refine wpAnyH_done (by kernel_rfl) ?_ _
   go_wp2_with fail
   refine bodyPost_ret (v := .tuple #[.agg #[.int .i64 (nb : Int), .string (str nm), .int .i64 (lo : Int), .int .u64 (hh : Int), .slice av fl.length cv], .bool false]) (by simp [results, Tryz.results190, go_sem, q0', q1', q2', q3', q4']) rfl ?_
   exact ⟨_, by rw [HR.out], HFIN.out _ rfl⟩
end Go.Proofs.YtonjphollmdicaaGreatDoor
