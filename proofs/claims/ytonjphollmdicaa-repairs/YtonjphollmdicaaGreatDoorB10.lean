import Derived.Test.YtonjphollmdicaaGreatDoorB05
import Derived.Test.YtonjphollmdicaaGreatDoorB06
import Derived.Test.YtonjphollmdicaaGreatDoorB07
import Derived.Test.YtonjphollmdicaaGreatDoorB09
namespace Go.Proofs.YtonjphollmdicaaGreatDoor
open Go.ChangeShapes Go.WideShapes Go.ChangeAt Go.RowKit
def setCellsV (kn : Bool) (h sz : Nat) (fl : Value) (F E : Nat) : List Value := [.bool kn, .int .u64 (h : Int), .int .i64 (sz : Int), fl, .map (some F), .map (some E)]
set_option linter.unusedSimpArgs false in
set_option maxRecDepth 100000 in
set_option maxHeartbeats 4000000 in
theorem readMain_walk (B : Nat) (kn : Bool) (h sz : Nat) (av : Option Addr) (ln cp F E : Nat) (f : FoundL) (hf : f.body.length ≤ 1000000) (w : World) (hB : Blk w B (setCellsV kn h sz (.slice av ln cp) F E)) :
  Calls Tryz.prog 185 #[.pointer (some ⟨B, 0, none⟩), packV f.kind.toNat f.set f.body] w fun e w' => e = .returned (.tuple #[]) ∧
   if kn = false ∧ isMain f = true then ∃ v, Blk w' B (setCellsV true f.set (mainSize f.body) v F E) ∧ w'.ownsRow w.heap.size 63 1 v (mainFiles f.body).length (u64V (mainFiles f.body)) ∧ Touch [B] w w' else Below w.heap.size w w' := by
 have hBlt : B < w.heap.size := hB.lt (by simp [setCellsV])
 have hR := hid_of (fun W => ReadMain_walk f.body hf W)
 have hH := hid_of (fun W => Hash_l f.body hf W)
 have him : isMain f = (mainRight f.body && (hashL f.body == f.set)) := rfl
 have HIM := hid_of him
 unfold packV
 have HB := hid_of hB
 clear him hB
 obtain ⟨R, hRe⟩ : ∃ x, x = mainRight f.body := ⟨_, rfl⟩
 obtain ⟨ms, hms⟩ : ∃ x, x = mainSize f.body := ⟨_, rfl⟩
 obtain ⟨mf, hmf⟩ : ∃ x, x = mainFiles f.body := ⟨_, rfl⟩
 obtain ⟨hv, hhv⟩ : ∃ x, x = hashL f.body := ⟨_, rfl⟩
 rw [← hRe] at hR HIM
 rw [← hms] at hR ⊢
 rw [← hmf] at hR ⊢
 rw [← hhv] at hH HIM
 clear hRe hms hmf hhv hf
 obtain ⟨Q0, hQ0⟩ : ∃ Q : World → Prop, Q = (fun w' => if kn = false ∧ isMain f = true then ∃ v, Blk w' B (setCellsV true f.set ms v F E) ∧ w'.ownsRow w.heap.size 63 1 v mf.length (u64V mf) ∧ Touch [B] w w' else Below w.heap.size w w') := ⟨_, rfl⟩
 have hQno : (kn = true ∨ isMain f = false) → ∀ w', Below w.heap.size w w' → Q0 w' := by
  intro hc w' hw'
  rw [hQ0]
  simp only
  rw [if_neg]
  ·exact hw'
  ·rintro ⟨h1, h2⟩
   rcases hc with h3 | h3
   ·rw [h1] at h3; cases h3
   ·rw [h2] at h3; cases h3
 have hQyes : (kn = false ∧ isMain f = true) → ∀ w' v, Blk w' B (setCellsV true f.set ms v F E) → w'.ownsRow w.heap.size 63 1 v mf.length (u64V mf) → Touch [B] w w' → Q0 w' := by
  intro hc w' v h1 h2 h3
  rw [hQ0]
  simp only
  rw [if_pos hc]
  exact ⟨v, h1, h2, h3⟩
 have HNO := hid_of hQno
 have HYES := hid_of hQyes
 have hpost : ∀ (e : Ending) (w' : World), (e = .returned (.tuple #[]) ∧ Q0 w') → (e = .returned (.tuple #[]) ∧ if kn = false ∧ isMain f = true then ∃ v, Blk w' B (setCellsV true f.set ms v F E) ∧ w'.ownsRow w.heap.size 63 1 v mf.length (u64V mf) ∧ Touch [B] w w' else Below w.heap.size w w') := by
  intro e w' hh
  rw [hQ0] at hh
  exact hh
 refine Calls.mono ?_ hpost
 clear hQ0 hQno hQyes hpost
 go_enter Tryz.func185, Tryz.ntmps185
 go_wp2_with fail
 refine (hR.out _).mono ?_
 rintro e w1 ⟨v, rfl, hown, hb1⟩
 obtain ⟨va, vc, rfl, -⟩ := ownsRow_rd hown
 have hs1 : w.heap.size + 1 ≤ w1.heap.size := by have := hb1.size; simpa using this
 have hbw : Below w.heap.size w (w1.alloc (Obj.cells #[Value.int IntKind.i64 (ms : Int), Value.slice va mf.length vc] 128)) := Below.alloc (Below.trans ((Below.refl w.heap.size w).alloc (Nat.le_refl _) _) (hb1.mono (by simp))) (by omega) _
 have kf := ((Blk.new w #[Value.int IntKind.u8 (f.kind.toNat : Int), Value.int IntKind.u64 (f.set : Int), Value.string (str f.body)] 181).touch (Touch.of_below hb1 []) (by simp)).alloc (Obj.cells #[Value.int IntKind.i64 (ms : Int), Value.slice va mf.length vc] 128)
 have km := Blk.new w1 #[Value.int IntKind.i64 (ms : Int), Value.slice va mf.length vc] 128
 have kb := HB.out.touch (Touch.of_below hbw []) (by simp)
 have ho1 : (w1.alloc (Obj.cells #[Value.int IntKind.i64 (ms : Int), Value.slice va mf.length vc] 128)).ownsRow w.heap.size 63 1 (.slice va mf.length vc) mf.length (u64V mf) := (ownsRow_base (by simp) hown).alloc _
 go_wp2_with fail
 obtain ⟨g, hg⟩ : ∃ g, g = w1.heap.size := ⟨_, rfl⟩
 obtain ⟨W, hW⟩ : ∃ W, W = w1.alloc (Obj.cells #[Value.int IntKind.i64 (ms : Int), Value.slice va mf.length vc] 128) := ⟨_, rfl⟩
 rw [← hg] at km hs1 ⊢
 rw [← hW] at hbw kf km kb ho1 ⊢
 have f1 := (kf 1 _ rfl).1
 have f2 := (kf 2 _ rfl).1
 have m0 := (km 0 _ rfl).1
 have m1 := (km 1 _ rfl).1
 have b0 := (kb 0 _ rfl).1
 have b1 := (kb 1 _ rfl).1
 have b2 := (kb 2 _ rfl).1
 have b3 := (kb 3 _ rfl).1
 have z0 := (kb 0 _ rfl).2
 have z1 := (kb 1 _ rfl).2
 have z2 := (kb 2 _ rfl).2
 have z3 := (kb 3 _ rfl).2
 have HBW := hid_of hbw
 have HKB := hid_of kb
 have HO1 := hid_of ho1
 clear hbw kf km kb ho1 hown hb1 hW hg HB hR
 cases kn with
 | true =>
  clear HYES
  go_quiet (fail)
  go_wp2_with fail
  refine bodyPost_ret (v := .tuple #[]) (by simp [results, Tryz.results185, go_sem]) rfl ?_
  exact ⟨rfl, HNO.out (.inl (by simp)) _ (rdrewN HBW.out _)⟩
 | false =>
  cases R with
  | false =>
   have HM : Hid (isMain f = false) := hid_of (by rw [HIM.out]; rfl)
   clear HYES HIM
   go_quiet (fail)
   go_wp2_with fail
   refine bodyPost_ret (v := .tuple #[]) (by simp [results, Tryz.results185, go_sem]) rfl ?_
   exact ⟨rfl, HNO.out (.inr HM.out) _ (rdrewN HBW.out _)⟩
  | true =>
   by_cases c : hv = f.set
   ·have e1 : ((hv : Int) != (f.set : Int)) = false := by simp [c]
    have e2 : ((hv : Int) == (f.set : Int)) = true := by simp [c]
    have HM : Hid (isMain f = true) := hid_of (by rw [HIM.out, c]; simp)
    clear HNO c HIM
    go_quiet (refine Calls.quiet_of_same (hH.out _))
    go_wp2_with fail
    obtain ⟨X, hX⟩ : ∃ X, X = W.drewN nq := ⟨_, rfl⟩
    have hBX : Below w.heap.size w X := by rw [hX]; exact rdrewN HBW.out _
    have hWX : Touch [] W X := by rw [hX]; exact ⟨rfl, rfl, rfl, Nat.le_refl _, fun _ _ _ => rfl⟩
    rw [← hX]
    clear hX f2 b0 b1 b2 b3 z0 z1 z2 z3
    have kb := HKB.out.touch hWX (by simp)
    have b0 := (kb 0 _ rfl).1
    have b1 := (kb 1 _ rfl).1
    have b2 := (kb 2 _ rfl).1
    have b3 := (kb 3 _ rfl).1
    have z0 := (kb 0 _ rfl).2
    have z1 := (kb 1 _ rfl).2
    have z2 := (kb 2 _ rfl).2
    have z3 := (kb 3 _ rfl).2
    have hlg : w.heap.size < W.heap.size ∧ g < W.heap.size := ⟨World.block_lt_of_cell? W _ f1, World.block_lt_of_cell? W _ m0⟩
    have hSt : ∀ Y : World, Touch [B] W Y → Y.cell? ⟨w.heap.size, 1, none⟩ = some (.int .u64 (f.set : Int)) ∧ Y.cell? ⟨g, 0, none⟩ = some (.int .i64 (ms : Int)) ∧ Y.cell? ⟨g, 1, none⟩ = some (.slice va mf.length vc) := fun Y ht =>
     ⟨by rw [ht.cell (x := ⟨w.heap.size, 1, none⟩) hlg.1 (by simp; omega)]; exact f1, by rw [ht.cell (x := ⟨g, 0, none⟩) hlg.2 (by simp; omega)]; exact m0, by rw [ht.cell (x := ⟨g, 1, none⟩) hlg.2 (by simp; omega)]; exact m1⟩
    have T0 : Touch [B] W X := hWX.mono (by simp)
    have ho := owns_touch HO1.out hWX (by simp)
    have hfin : ∀ Y : World, Y = ((((X.setCell ⟨B, 0, none⟩ (.bool true)).setCell ⟨B, 1, none⟩ (.int .u64 (f.set : Int))).setCell ⟨B, 2, none⟩ (.int .i64 (ms : Int))).setCell ⟨B, 3, none⟩ (.slice va mf.length vc)).drew → Q0 Y := by
     rintro Y rfl
     have hk := ((((kb.set 0 (.bool true)).set 1 (.int .u64 (f.set : Int))).set 2 (.int .i64 (ms : Int))).set 3 (.slice va mf.length vc)).drew
     have ht := (((((Touch.refl [B] X).setCell (x := ⟨B, 0, none⟩) (.inl (by simp)) (.bool true)).setCell (x := ⟨B, 1, none⟩) (.inl (by simp)) (.int .u64 (f.set : Int))).setCell (x := ⟨B, 2, none⟩) (.inl (by simp)) (.int .i64 (ms : Int))).setCell (x := ⟨B, 3, none⟩) (.inl (by simp)) (.slice va mf.length vc)).drew
     simp only [setCellsV, List.set_cons_succ, List.set_cons_zero] at hk
     refine HYES.out ⟨by simp, HM.out⟩ _ (.slice va mf.length vc) hk (owns_touch ho ht (by simpa using hBlt)) ?_
     exact (Touch.of_below hBX [B]).trans ht
    have HST := hid_of hSt
    have HFIN := hid_of hfin
    clear hSt hfin kb ho hBX HO1 HKB HBW HYES
    refine wp_region_held_drew (S := fun Y => Y.cell? ⟨w.heap.size, 1, none⟩ = some (.int .u64 (f.set : Int)) ∧ Y.cell? ⟨g, 0, none⟩ = some (.int .i64 (ms : Int)) ∧ Y.cell? ⟨g, 1, none⟩ = some (.slice va mf.length vc)) (by kernel_rfl) (HST.out _ T0.drew) (fun hHeld => ?_)
    (refine tY 0 28 ?v1 ?a1 rfl (by kernel_rfl) (by rfl) (fun _ _ _ h => h) ?y1 (by assumption) rfl ?p1 ?_; (case y1 => (intro w hSw; (try dsimp only at hSw); simp only [gA, gB, gC, gD, gE]; go_simp; (try with_reducible rfl))); (case p1 => (simp only [Act.put, sA, sB, sC]; try rfl)))
    (refine tY 1 29 ?v2 ?a2 rfl (by kernel_rfl) (by rfl) (fun _ _ _ h => h) ?y2 (by assumption) rfl ?p2 ?_; (case y2 => (intro w hSw; (try dsimp only at hSw); simp only [gA, gB, gC, gD, gE]; go_simp; (try with_reducible rfl))); (case p2 => (simp only [Act.put, sA, sB, sC]; try rfl)))
    (refine tY 2 30 ?v3 ?a3 rfl (by kernel_rfl) (by rfl) (fun _ _ _ h => h) ?y3 (by assumption) rfl ?p3 ?_; (case y3 => (intro w hSw; (try dsimp only at hSw); simp only [gA, gB, gC, gD, gE]; go_simp; (try with_reducible rfl))); (case p3 => (simp only [Act.put, sA, sB, sC]; try rfl)))
    (refine tY 3 31 ?v4 ?a4 rfl (by kernel_rfl) (by rfl) (fun _ _ _ h => h) ?y4 (by assumption) rfl ?p4 ?_; (case y4 => (intro w hSw; (try dsimp only at hSw); simp only [gA, gB, gC, gD, gE]; go_simp; (try with_reducible rfl))); (case p4 => (simp only [Act.put, sA, sB, sC]; try rfl)))
    (refine tY 4 32 ?v5 ?a5 rfl (by kernel_rfl) (by rfl) (fun _ _ _ h => h) ?y5 (by assumption) rfl ?p5 ?_; (case y5 => (intro w hSw; (try dsimp only at hSw); simp only [gA, gB, gC, gD, gE]; go_simp; (try with_reducible rfl))); (case p5 => (simp only [Act.put, sA, sB, sC]; try rfl)))
    (refine tY 5 33 ?v6 ?a6 rfl (by kernel_rfl) (by rfl) (fun _ _ _ h => h) ?y6 (by assumption) rfl ?p6 ?_; (case y6 => (intro w hSw; (try dsimp only at hSw); simp only [gA, gB, gC, gD, gE]; go_simp; (try with_reducible rfl))); (case p6 => (simp only [Act.put, sA, sB, sC]; try rfl)))
    (refine tY 6 34 ?v7 ?a7 rfl (by kernel_rfl) (by rfl) (fun _ _ _ h => h) ?y7 (by assumption) rfl ?p7 ?_; (case y7 => (intro w hSw; (try dsimp only at hSw); simp only [gA, gB, gC, gD, gE]; go_simp; (try with_reducible rfl))); (case p7 => (simp only [Act.put, sA, sB, sC]; try rfl)))
    (refine tY 7 35 ?v8 ?a8 rfl (by kernel_rfl) (by rfl) (fun _ _ _ h => h) ?y8 (by assumption) rfl ?p8 ?_; (case y8 => (intro w hSw; (try dsimp only at hSw); simp only [gA, gB, gC, gD, gE]; go_simp; (try with_reducible rfl))); (case p8 => (simp only [Act.put, sA, sB, sC]; try rfl)))
    refine step_one (i := 8) (by kernel_rfl) (fun K o ho hK => ?_)
    simp only [List.getElem?_toArray, List.getElem?_cons_succ, List.getElem?_cons_zero, Option.some.injEq] at ho
    subst ho
    go_simp
    refine hK.out _ _ ?_ (fun hHeld => ?_)
    focus exact HST.out _ (T0.setCell (.inl (by simp)) _).drew
    clear hK K
    try simp only [Act.put, List.setIfInBounds_toArray, List.set_cons_zero, List.set_cons_succ]
    (refine tY 9 36 ?v9 ?a9 rfl (by kernel_rfl) (by rfl) (fun _ _ _ h => h) ?y9 (by assumption) rfl ?p9 ?_; (case y9 => (intro w hSw; (try dsimp only at hSw); simp only [gA, gB, gC, gD, gE]; go_simp; (try with_reducible rfl))); (case p9 => (simp only [Act.put, sA, sB, sC]; try rfl)))
    (refine tY 10 37 ?v10 ?a10 rfl (by kernel_rfl) (by rfl) (fun _ _ _ h => h) ?y10 (by assumption) rfl ?p10 ?_; (case y10 => (intro w hSw; (try dsimp only at hSw); simp only [gA, gB, gC, gD, gE]; go_simp; (try with_reducible rfl))); (case p10 => (simp only [Act.put, sA, sB, sC]; try rfl)))
    refine step_one (i := 11) (by kernel_rfl) (fun K o ho hK => ?_)
    simp only [List.getElem?_toArray, List.getElem?_cons_succ, List.getElem?_cons_zero, Option.some.injEq] at ho
    subst ho
    go_simp
    refine hK.out _ _ ?_ (fun hHeld => ?_)
    focus exact HST.out _ ((T0.setCell (.inl (by simp)) _).setCell (.inl (by simp)) _).drew
    clear hK K
    try simp only [Act.put, List.setIfInBounds_toArray, List.set_cons_zero, List.set_cons_succ]
    (refine tY 12 38 ?v11 ?a11 rfl (by kernel_rfl) (by rfl) (fun _ _ _ h => h) ?y11 (by assumption) rfl ?p11 ?_; (case y11 => (intro w hSw; (try dsimp only at hSw); simp only [gA, gB, gC, gD, gE]; go_simp; (try with_reducible rfl))); (case p11 => (simp only [Act.put, sA, sB, sC]; try rfl)))
    (refine tY 13 39 ?v12 ?a12 rfl (by kernel_rfl) (by rfl) (fun _ _ _ h => h) ?y12 (by assumption) rfl ?p12 ?_; (case y12 => (intro w hSw; (try dsimp only at hSw); simp only [gA, gB, gC, gD, gE]; go_simp; (try with_reducible rfl))); (case p12 => (simp only [Act.put, sA, sB, sC]; try rfl)))
    refine step_one (i := 14) (by kernel_rfl) (fun K o ho hK => ?_)
    simp only [List.getElem?_toArray, List.getElem?_cons_succ, List.getElem?_cons_zero, Option.some.injEq] at ho
    subst ho
    go_simp
    refine hK.out _ _ ?_ (fun hHeld => ?_)
    focus exact HST.out _ ((((T0.setCell (.inl (by simp)) _).setCell (.inl (by simp)) _).setCell (.inl (by simp)) _).setCell (.inl (by simp)) _).drew
    clear hK K
    try simp only [Act.put, List.setIfInBounds_toArray, List.set_cons_zero, List.set_cons_succ]
    refine wpAnyH_done (by kernel_rfl) ?_ _
    go_wp2_with fail
    go_end0
    exact ⟨rfl, HFIN.out _ rfl⟩
   ·have e1 : ((hv : Int) != (f.set : Int)) = true := by simp; omega
    have e2 : ((hv : Int) == (f.set : Int)) = false := by simp; omega
    have HM : Hid (isMain f = false) := hid_of (by rw [HIM.out, beq_eq_false_iff_ne.2 c]; rfl)
    clear HYES c HIM
    go_quiet (refine Calls.quiet_of_same (hH.out _))
    go_wp2_with fail
    refine bodyPost_ret (v := .tuple #[]) (by simp [results, Tryz.results185, go_sem]) rfl ?_
    exact ⟨rfl, HNO.out (.inr HM.out) _ (rdrewN HBW.out _)⟩
end Go.Proofs.YtonjphollmdicaaGreatDoor
namespace Go.Proofs.YtonjphollmdicaaGreatDoor
open Go.ChangeShapes Go.WideShapes Go.ChangeAt Go.RowKit
open Go.Maps
set_option linter.unusedSimpArgs false in
set_option maxRecDepth 100000 in
set_option maxHeartbeats 1000000 in
theorem owns_walk (B : Nat) (kn : Bool) (h sz : Nat) (fl : Value) (F E : Nat) (f : FoundL) (w : World) (hB : Blk w B (setCellsV kn h sz fl F E)) :
  Calls Tryz.prog 189 #[.pointer (some ⟨B, 0, none⟩), packV f.kind.toNat f.set f.body] w fun e w' => e = .returned (.bool (kn && decide (f.set = h))) ∧ Below w.heap.size w w' := by
 have hBlt : B < w.heap.size := hB.lt (by simp [setCellsV])
 unfold packV
 have kb := hB.alloc (Obj.cells #[Value.int IntKind.u8 (f.kind.toNat : Int), Value.int IntKind.u64 (f.set : Int), Value.string (str f.body)] 181)
 have b0 := (kb 0 _ rfl).1
 have b1 := (kb 1 _ rfl).1
 go_enter Tryz.func189, Tryz.ntmps189
 go_wp2_with fail
 cases kn with
 | false =>
  go_quiet (fail)
  go_wp2_with fail
  go_ret
  exact ⟨rfl, rdrewN ((Below.refl _ _).alloc (Nat.le_refl _) _) _⟩
 | true =>
  by_cases c : f.set = h
  ·have e1 : ((f.set : Int) == (h : Int)) = true := by simp [c]
   have hR : decide (f.set = h) = true := decide_eq_true c
   have HR := hid_of hR
   clear c hR
   go_quiet (fail)
   go_wp2_with fail
   go_ret
   exact ⟨by rw [HR.out]; rfl, rdrewN ((Below.refl _ _).alloc (Nat.le_refl _) _) _⟩
  ·have e1 : ((f.set : Int) == (h : Int)) = false := by simp; omega
   have hR : decide (f.set = h) = false := decide_eq_false c
   have HR := hid_of hR
   clear c hR
   go_quiet (fail)
   go_wp2_with fail
   go_ret
   exact ⟨by rw [HR.out]; rfl, rdrewN ((Below.refl _ _).alloc (Nat.le_refl _) _) _⟩
theorem Tryz.lawInt : Keyed Tryz.prog 3 := int_keyed Tryz.underlying3
theorem Tryz.zeroFI (w : World) : (zeroValue 143).run Tryz.prog w = .ok (.agg #[.int .i64 0, .string ⟨#[]⟩, .int .i64 0, .int .u64 0, .slice none 0 0]) w := by kernel_rfl
theorem Tryz.zeroEI (w : World) : (zeroValue 192).run Tryz.prog w = .ok (.agg #[.int .i64 0, .string ⟨#[]⟩]) w := by kernel_rfl
def numK (n : Nat) : Lit := .int .i64 (n : Int)
theorem numK_key (n : Nat) (h : n < 1000000) : keyOf Tryz.prog 3 (.int .i64 (n : Int)) = some (numK n) := keyOf_int_mk Tryz.underlying3 (WalkArith.wf_i64 (by omega))
theorem numK_ne {n m : Nat} (h : n ≠ m) : numK n ≠ numK m := fun e => by
 unfold numK at e
 simp only [Lit.int.injEq, true_and] at e
 exact h (by exact_mod_cast e)
theorem numK_isKey (n : Nat) : WideAt.IsKeyLit (numK n) := by trivial
def IsFI (v : Value) : Prop := ∃ (y0 : Int) (y1 : ByteArray) (y2 y3 : Int) (ya : Option Addr) (yl yc : Nat), v = .agg #[.int .i64 y0, .string y1, .int .i64 y2, .int .u64 y3, .slice ya yl yc]
def IsEI (v : Value) : Prop := ∃ (y0 : Int) (y1 : ByteArray), v = .agg #[.int .i64 y0, .string y1]
set_option linter.unusedSimpArgs false in
set_option maxRecDepth 100000 in
set_option maxHeartbeats 1000000 in
theorem keepFirstF_walk (F c n : Nat) (D : DataW Value) (x1 : List UInt8) (x0 x2 x3 : Nat) (sl : Option Addr) (ln cp : Nat) (hn : n < 1000000) (hc : c < 1000000) (hsh : ∀ v, atM D (numK n) = some v → IsFI v) (w : World) (hm : w.ownsMap Tryz.prog 3 rawE F c D) :
  Calls Tryz.prog 191 #[.map (some F), .int .i64 (n : Int), .agg #[.int .i64 (x0 : Int), .string (str x1), .int .i64 (x2 : Int), .int .u64 (x3 : Int), .slice sl ln cp]] w fun e w' => e = .returned (.tuple #[]) ∧
   if (atM D (numK n)).isSome = true then Below w.heap.size w w' else w'.ownsMap Tryz.prog 3 rawE F (c + 1) (D.put (numK n) (.held (.agg #[.int .i64 (x0 : Int), .string (str x1), .int .i64 (x2 : Int), .int .u64 (x3 : Int), .slice sl ln cp]))) ∧ Touch [F] w w' := by
 have hkey := numK_key n hn
 have hm1 := hm.alloc (Obj.cells #[.int .i64 (x0 : Int), .string (str x1), .int .i64 (x2 : Int), .int .u64 (x3 : Int), .slice sl ln cp] 143)
 have hlk := own_look_ok hm1 Tryz.lawInt Tryz.underlying129 (Tryz.zeroFI _) hkey
 have HM1 := hid_of hm1
 have HKEY := hid_of hkey
 clear hm hm1 hkey
 obtain ⟨x, hx⟩ : ∃ x, x = (atM D (numK n)).getD (.agg #[.int .i64 0, .string ⟨#[]⟩, .int .i64 0, .int .u64 0, .slice none 0 0]) := ⟨_, rfl⟩
 rw [← hx] at hlk
 have hxi : IsFI x := by
  rw [hx]
  cases ha : atM D (numK n) with
  | none => exact ⟨0, ⟨#[]⟩, 0, 0, none, 0, 0, rfl⟩
  | some v => exact hsh v ha
 clear hx hsh
 obtain ⟨y0, y1, y2, y3, ya, yl, yc, rfl⟩ := hxi
 cases hs : (atM D (numK n)).isSome with
 | true =>
  rw [hs] at hlk
  simp only [if_pos]
  go_enter Tryz.func191, Tryz.ntmps191
  go_wp2_with fail
  go_end0
  exact ⟨rfl, ((Below.refl _ _).alloc (Nat.le_refl _) _).alloc (by simp) _⟩
 | false =>
  rw [hs] at hlk
  simp only [Bool.false_eq_true, if_false]
  go_enter Tryz.func191, Tryz.ntmps191
  go_wp2_with (at_mapUpdate; refine wpList_store _ rfl _ _ _ 129 rfl 3 143 Tryz.lawInt Tryz.underlying129 F c D rfl (HM1.out.alloc _) (by unfold maxLen; omega) _ _ _ rfl rfl HKEY.out ?_)
  intro w' hm' ht'
  go_wp2_with fail
  go_end0
  exact ⟨rfl, hm', (((Touch.refl [F] _).alloc _).alloc _).trans ht'⟩
set_option linter.unusedSimpArgs false in
set_option maxRecDepth 100000 in
set_option maxHeartbeats 1000000 in
theorem keepFirstE_walk (F c n : Nat) (D : DataW Value) (x1 : List UInt8) (x0 : Nat) (hn : n < 1000000) (hc : c < 1000000) (hsh : ∀ v, atM D (numK n) = some v → IsEI v) (w : World) (hm : w.ownsMap Tryz.prog 3 rawE F c D) :
  Calls Tryz.prog 193 #[.map (some F), .int .i64 (n : Int), .agg #[.int .i64 (x0 : Int), .string (str x1)]] w fun e w' => e = .returned (.tuple #[]) ∧
   if (atM D (numK n)).isSome = true then Below w.heap.size w w' else w'.ownsMap Tryz.prog 3 rawE F (c + 1) (D.put (numK n) (.held (.agg #[.int .i64 (x0 : Int), .string (str x1)]))) ∧ Touch [F] w w' := by
 have hkey := numK_key n hn
 have hm1 := hm.alloc (Obj.cells #[.int .i64 (x0 : Int), .string (str x1)] 192)
 have hlk := own_look_ok hm1 Tryz.lawInt Tryz.underlying130 (Tryz.zeroEI _) hkey
 have HM1 := hid_of hm1
 have HKEY := hid_of hkey
 clear hm hm1 hkey
 obtain ⟨x, hx⟩ : ∃ x, x = (atM D (numK n)).getD (.agg #[.int .i64 0, .string ⟨#[]⟩]) := ⟨_, rfl⟩
 rw [← hx] at hlk
 have hxi : IsEI x := by
  rw [hx]
  cases ha : atM D (numK n) with
  | none => exact ⟨0, ⟨#[]⟩, rfl⟩
  | some v => exact hsh v ha
 clear hx hsh
 obtain ⟨y0, y1, rfl⟩ := hxi
 cases hs : (atM D (numK n)).isSome with
 | true =>
  rw [hs] at hlk
  simp only [if_pos]
  go_enter Tryz.func193, Tryz.ntmps193
  go_wp2_with fail
  go_end0
  exact ⟨rfl, ((Below.refl _ _).alloc (Nat.le_refl _) _).alloc (by simp) _⟩
 | false =>
  rw [hs] at hlk
  simp only [Bool.false_eq_true, if_false]
  go_enter Tryz.func193, Tryz.ntmps193
  go_wp2_with (at_mapUpdate; refine wpList_store _ rfl _ _ _ 130 rfl 3 192 Tryz.lawInt Tryz.underlying130 F c D rfl (HM1.out.alloc _) (by unfold maxLen; omega) _ _ _ rfl rfl HKEY.out ?_)
  intro w' hm' ht'
  go_wp2_with fail
  go_end0
  exact ⟨rfl, hm', (((Touch.refl [F] _).alloc _).alloc _).trans ht'⟩
end Go.Proofs.YtonjphollmdicaaGreatDoor
