import Derived.Test.YtonjphollmdicaaGreatDoorB23
set_option maxRecDepth 100000
set_option maxHeartbeats 4000000
set_option linter.unusedSimpArgs false
namespace Go.Proofs.YtonjphollmdicaaGreatDoor
open Go.ChangeShapes Go.WideShapes Go.ChangeAt Go.RowKit
open Go.Maps
def DY (sz : Nat) (f : FoundL) : Value := .agg #[.int .i64 (AY f.body : Int), .string (str (Ce f.body sz))]
theorem FN (B : Nat) (kn : Bool) (h sz : Nat) (fl : List Nat) (av : Option Addr) (cp F E c : Nat) (D : DataW Value) (f : FoundL) (hf : f.body.length ≤ 1000000) (hsz0 : kn = true → 2 ≤ sz ∧ sz ≤ 32) (hc : c < 1000000) (w : World)
    (hB : Blk w B (Bb kn h sz (.slice av fl.length cp) F E)) (hm : w.ownsMap Tryz.prog 3 CK E c D) (hsh : ∀ n v, atM D (Bo n) = some v → Sr v) :
    Calls Tryz.prog 187 #[.pointer (some ⟨B, 0, none⟩), CC f.kind.toNat f.set f.body] w fun e w' => e = .returned (.tuple #[]) ∧
      ((Below w.heap.size w w' ∧ (∀ i, kn = true → A7 ⟨sz, fl, h⟩ f = some i → (atM D (Bo i)).isSome = true)) ∨
       (∃ i v, kn = true ∧ A7 ⟨sz, fl, h⟩ f = some i ∧ atM D (Bo i) = none ∧ v = DY sz f ∧ w'.ownsMap Tryz.prog 3 CK E (c + 1) (D.put (Bo i) (.held v)) ∧ Touch [E] w w')) := by
  have hBlt : B < w.heap.size := hB.lt (by simp [Bb])
  obtain ⟨Q0, hQ0⟩ : ∃ Q : World → Prop, Q = (fun w' => (Below w.heap.size w w' ∧ (∀ i, kn = true → A7 ⟨sz, fl, h⟩ f = some i → (atM D (Bo i)).isSome = true)) ∨
       (∃ i v, kn = true ∧ A7 ⟨sz, fl, h⟩ f = some i ∧ atM D (Bo i) = none ∧ v = DY sz f ∧ w'.ownsMap Tryz.prog 3 CK E (c + 1) (D.put (Bo i) (.held v)) ∧ Touch [E] w w')) := ⟨_, rfl⟩
  have hpost : ∀ (e : Ending) (w' : World), (e = .returned (.tuple #[]) ∧ Q0 w') → (e = .returned (.tuple #[]) ∧ ((Below w.heap.size w w' ∧ (∀ i, kn = true → A7 ⟨sz, fl, h⟩ f = some i → (atM D (Bo i)).isSome = true)) ∨
       (∃ i v, kn = true ∧ A7 ⟨sz, fl, h⟩ f = some i ∧ atM D (Bo i) = none ∧ v = DY sz f ∧ w'.ownsMap Tryz.prog 3 CK E (c + 1) (D.put (Bo i) (.held v)) ∧ Touch [E] w w'))) := by
    intro e w' hh
    rw [hQ0] at hh
    exact hh
  refine Calls.mono ?_ hpost
  have HNO : Hid ((∀ i, kn = true → A7 ⟨sz, fl, h⟩ f = some i → (atM D (Bo i)).isSome = true) → ∀ w', Below w.heap.size w w' → Q0 w') := Aa (fun h1 w' h2 => by rw [hQ0]; exact .inl ⟨h2, h1⟩)
  have HYES : Hid (∀ i v w', kn = true → A7 ⟨sz, fl, h⟩ f = some i → atM D (Bo i) = none → v = DY sz f → w'.ownsMap Tryz.prog 3 CK E (c + 1) (D.put (Bo i) (.held v)) → Touch [E] w w' → Q0 w') := Aa (fun i v w' h1 h2 h3 h4 h5 h6 => by rw [hQ0]; exact .inr ⟨i, v, h1, h2, h3, h4, h5, h6⟩)
  clear hpost hQ0
  have HM := Aa hm
  have HB := Aa hB
  have HSH := Aa hsh
  have hO := Aa (fun W hW => LD B kn h sz (.slice av fl.length cp) F E f W hW)
  unfold CC
  clear hm hB hsh
  unfold CC at hO
  go_enter Tryz.func187, Tryz.ntmps187
  go_wp2_with fail
  refine (hO.out _ (HB.out.alloc _)).mono ?_
  rintro e w1 ⟨rfl, hb1⟩
  have hs1 : w.heap.size + 1 ≤ w1.heap.size := by have := hb1.size; simpa using this
  have hbw1 : Below w.heap.size w w1 := Below.trans ((Below.refl w.heap.size w).alloc (Nat.le_refl _) _) (hb1.mono (by simp))
  have kf := (Blk.new w #[Value.int IntKind.u8 (f.kind.toNat : Int), Value.int IntKind.u64 (f.set : Int), Value.string (str f.body)] 181).touch (Touch.of_below hb1 []) (by simp)
  have kb := HB.out.touch (Touch.of_below hbw1 []) (by simp)
  clear hb1
  cases ho : (kn && decide (f.set = h)) with
  | false =>
    have hno : ∀ i, kn = true → A7 ⟨sz, fl, h⟩ f = some i → (atM D (Bo i)).isSome = true := by
      intro i h1 h2
      exfalso
      unfold A7 at h2
      split at h2
      · rename_i hc
        rw [h1, decide_eq_true hc.1] at ho
        cases ho
      · cases h2
    have HQ := Aa (HNO.out hno w1 hbw1)
    clear hno HNO HYES hbw1 kf kb
    go_wp2_with fail
    refine bodyPost_ret (v := .tuple #[]) (by simp [results, Tryz.results187, go_sem]) rfl ?_
    exact ⟨rfl, HQ.out⟩
  | true =>
    simp only [Bool.and_eq_true, decide_eq_true_eq] at ho
    obtain ⟨rfl, hset⟩ := ho
    obtain ⟨z1, z2⟩ := hsz0 rfl
    have b2 := (kb 2 _ rfl).1
    have f2 := (kf 2 _ rfl).1
    have hRF := Aa (fun W => I6 f.body sz hf W)
    clear hsz0
    have HKF := Aa kf
    have HBW1 := Aa hbw1
    have HKB := Aa kb
    clear kf kb hbw1
    go_wp2_with fail
    have S0 : ∀ X : World, Touch [] w1 X → X.cell? ⟨w.heap.size, 2, none⟩ = some (.string (str f.body)) ∧ X.cell? ⟨B, 2, none⟩ = some (.int .i64 (sz : Int)) := fun X hX =>
      ⟨(HKF.out.touch hX (by simp) 2 _ rfl).1, (HKB.out.touch hX (by simp) 2 _ rfl).1⟩
    have HS0 := Aa S0
    clear S0
    refine wp_region_held_drew (S := fun X => X.cell? ⟨w.heap.size, 2, none⟩ = some (.string (str f.body)) ∧ X.cell? ⟨B, 2, none⟩ = some (.int .i64 (sz : Int))) (by kernel_rfl) ⟨f2, b2⟩ (fun hHeld => ?_)
    refine tY 0 11 ?_
    refine tY 1 12 ?_
    refine tY 2 13 ?_
    refine tY 3 14 ?_
    refine tY 4 15 ?_
    refine tY 5 16 ?_
    refine tY 6 17 ?_
    refine EK (i := 7) (j := 11) (by kernel_rfl) (fun K o ho hK => ?_) (fun K o ho hK => ?_)
    focus
      simp only [gA, gB, gC, gE] at ho
      subst ho
      go_simp
      refine (hRF.out _).mono ?_
      rintro e w2 ⟨rfl, hb2⟩
      have ht2 : Touch [] w1 w2 := (Touch.refl [] w1).drew.trans (Touch.of_below hb2 [])
      have hs2 : w1.heap.size ≤ w2.heap.size := ht2.size
      refine hK.out _ _ ?_ (fun hHeld => ?_)
      focus exact HS0.out _ ht2
      clear hK K
      try simp only [Act.put, sA, sB, sC]
      refine tY 8 10 ?_
      refine tY 9 19 ?_
      refine tY 10 20 ?_
      refine Ah (i := 11) (by kernel_rfl) (fun K o ho hK => ?_)
      simp only [gA, gB, gC, gE] at ho
      subst ho
      go_simp
      refine hK.out _ _ ?_ (fun hHeld => ?_)
      focus exact HS0.out _ (ht2.alloc _)
      clear hK K
      try simp only [Act.put, sA, sB, sC]
      refine Ah (i := 12) (by kernel_rfl) (fun K o ho hK => ?_)
      simp only [gA, gB, gC, gE] at ho
      subst ho
      go_simp
      refine hK.out _ _ ?_ (fun hHeld => ?_)
      focus exact HS0.out _ (ht2.alloc _)
      clear hK K
      try simp only [Act.put, sA, sB, sC]
      refine tY 13 5 ?_
      refine wpAnyH_done (by kernel_rfl) ?_ _
      have tW := ht2.alloc (Obj.cells #[Value.int .i64 (AY f.body : Int), .string (str (Ce f.body sz))] 192)
      have kg := Blk.new w2 #[Value.int .i64 (AY f.body : Int), .string (str (Ce f.body sz))] 192
      obtain ⟨W, hW⟩ : ∃ W, W = w2.alloc (Obj.cells #[Value.int .i64 (AY f.body : Int), .string (str (Ce f.body sz))] 192) := ⟨_, rfl⟩
      obtain ⟨g, hg⟩ : ∃ g, g = w2.heap.size := ⟨_, rfl⟩
      rw [← hW] at kg tW
      rw [← hg] at kg
      rw [← hW, ← hg]
      have hbW : Below w.heap.size w W := HBW1.out.trans (tW.below (by omega) (by simp))
      have HBW := Aa hbW
      have hmW := HM.out.kept (Touch.of_below hbW []).grown_none (by simp)
      have HMW := Aa hmW
      have kbW := HKB.out.touch tW (by simp)
      have g0 := (kg 0 _ rfl).1
      have g1 := (kg 1 _ rfl).1
      have q5 := (kbW 5 _ rfl).1
      have hnb : AY f.body < 65536 := CH _ (Dl _ _)
      clear hW hg tW kg kbW hHeld f2 b2 hbW hmW ht2 hs2 hb2 HS0 hRF HKF HKB HBW1 hs1
      cases hr : FP f.body sz with
      | false =>
        have hno : ∀ i, True → A7 ⟨sz, fl, h⟩ f = some i → (atM D (Bo i)).isSome = true := by
          intro i _ h2
          exfalso
          unfold A7 at h2
          split at h2
          · rename_i hc
            rw [hc.2] at hr
            cases hr
          · cases h2
        have HQ := Aa (HNO.out hno)
        clear hno HNO HYES
        go_wp2_with fail
        go_end0
        exact ⟨rfl, HQ.out _ HBW.out⟩
      | true =>
        have htk : A7 ⟨sz, fl, h⟩ f = some (AY f.body) := by
          unfold A7
          rw [if_pos ⟨hset, hr⟩]
        have HTK := Aa htk
        have hKF := Aa (fun W hW => Fx E c (AY f.body) D (Ce f.body sz) (AY f.body) (by omega) hc (fun v hv => HSH.out _ v hv) W hW)
        clear htk
        go_wp2_with fail
        have nB : B ≠ E := G7 HMW.out q5
        have nG : g ≠ E := G7 HMW.out g0
        have hlB : B < W.heap.size := World.block_lt_of_cell? W _ q5
        have hlG : g < W.heap.size := World.block_lt_of_cell? W _ g0
        have hSt : ∀ Y : World, Touch [E] W Y → Y.cell? ⟨B, 5, none⟩ = some (.map (some E)) ∧ Y.cell? ⟨g, 0, none⟩ = some (.int .i64 (AY f.body : Int)) ∧ Y.cell? ⟨g, 1, none⟩ = some (.string (str (Ce f.body sz))) := fun Y ht =>
          ⟨by rw [ht.cell (x := ⟨B, 5, none⟩) hlB (by simpa using nB)]; exact q5, by rw [ht.cell (x := ⟨g, 0, none⟩) hlG (by simpa using nG)]; exact g0, by rw [ht.cell (x := ⟨g, 1, none⟩) hlG (by simpa using nG)]; exact g1⟩
        have HST := Aa hSt
        clear hSt hlB hlG q5 g0 g1 nB nG
        refine wp_region_held_drew (S := fun Y => Y.cell? ⟨B, 5, none⟩ = some (.map (some E)) ∧ Y.cell? ⟨g, 0, none⟩ = some (.int .i64 (AY f.body : Int)) ∧ Y.cell? ⟨g, 1, none⟩ = some (.string (str (Ce f.body sz)))) (by kernel_rfl) (HST.out _ (Touch.refl _ _).drew) (fun hHeld => ?_)
        refine tY 0 22 ?_
        refine tY 1 23 ?_
        refine tY 2 24 ?_
        refine tY 3 25 ?_
        refine tY 4 26 ?_
        refine tY 5 27 ?_
        refine tY 6 28 ?_
        refine Ah (i := 7) (by kernel_rfl) (fun K o ho hK => ?_)
        simp only [gA, gB, gC, gE] at ho
        subst ho
        go_simp
        refine (hKF.out _ HMW.out.drew).mono ?_
        rintro e w9 ⟨rfl, h9⟩
        have t9 : Touch [E] W.drew w9 := by
          split at h9
          · exact Touch.of_below h9 _
          · exact h9.2
        refine hK.out _ _ ?_ (fun hHeld => ?_)
        focus exact HST.out _ ((Touch.refl [E] W).drew.trans t9)
        clear hK K
        try simp only [Act.put, sA, sB, sC]
        refine wpAnyH_done (by kernel_rfl) ?_ _
        have hB9 : Touch [E] w w9 := (Touch.of_below HBW.out [E]).drew.trans t9
        have hfinal : Q0 w9 := by
          split at h9
          · rename_i hsome
            refine HNO.out (fun i _ h2 => ?_) w9 (HBW.out.drew.trans (h9.mono (by have := HBW.out.size; exact this)))
            rw [HTK.out] at h2
            cases h2
            exact hsome
          · rename_i hnone
            have hnn : atM D (Bo (AY f.body)) = none := by
              cases hh : atM D (Bo (AY f.body)) with
              | none => rfl
              | some u => rw [hh] at hnone; exact absurd rfl hnone
            exact HYES.out (AY f.body) (DY sz f) w9 (by simp) HTK.out hnn rfl h9.1 hB9
        have HFINAL := Aa hfinal
        clear hfinal h9 HNO HYES
        go_wp2_with fail
        go_end0
        exact ⟨rfl, HFINAL.out⟩
    focus
      simp only [gA, gB, gC, gE] at ho
      subst ho
      go_simp
      refine hK.out _ _ ?_ (fun hHeld => ?_)
      focus exact HS0.out _ ((Touch.refl [] w1).alloc _).drew
      clear hK K
      try simp only [Act.put, sA, sB, sC]
      refine Ah (i := 7) (by kernel_rfl) (fun K o ho hK => ?_)
      simp only [gA, gB, gC, gE] at ho
      subst ho
      go_simp
      refine (hRF.out _).mono ?_
      rintro e w2 ⟨rfl, hb2⟩
      have hsd : (w1.alloc (Obj.cells #[Value.int .i64 0, .string ⟨#[]⟩] 192)).drew.heap.size = w1.heap.size + 1 := by simp
      have ht2 : Touch [] w1 w2 := (((Touch.refl [] w1).alloc _).drew).trans (Touch.of_below hb2 [])
      have hs2 : w1.heap.size + 1 ≤ w2.heap.size := by have := hb2.size; rw [hsd] at this; exact this
      have kg0 := ((Blk.new w1 #[Value.int .i64 0, .string ⟨#[]⟩] 192).drew).touch (Touch.of_below hb2 []) (by simp)
      have c0 := (kg0 0 _ rfl).1
      have c1' := (kg0 1 _ rfl).1
      have d0 := (kg0 0 _ rfl).2
      have d1 := (kg0 1 _ rfl).2
      refine hK.out _ _ ?_ (fun hHeld => ?_)
      focus exact HS0.out _ ht2
      clear hK K
      try simp only [Act.put, sA, sB, sC]
      refine tY 8 10 ?_
      refine tY 9 19 ?_
      refine tY 10 20 ?_
      refine Ah (i := 12) (by kernel_rfl) (fun K o ho hK => ?_)
      simp only [gA, gB, gC, gE] at ho
      subst ho
      go_simp
      have tW := ((ht2.setCell (x := ⟨w1.heap.size, 0, none⟩) (.inr (Nat.le_refl _)) (.int .i64 (AY f.body : Int))).setCell (x := ⟨w1.heap.size, 1, none⟩) (.inr (Nat.le_refl _)) (.string (str (Ce f.body sz))))
      refine hK.out _ _ ?_ (fun hHeld => ?_)
      focus exact HS0.out _ tW
      clear hK K
      try simp only [Act.put, sA, sB, sC]
      refine tY 13 5 ?_
      refine wpAnyH_done (by kernel_rfl) ?_ _
      have kg := ((kg0.set 0 (.int .i64 (AY f.body : Int))).set 1 (.string (str (Ce f.body sz))))
      simp only [List.set_cons_succ, List.set_cons_zero] at kg
      obtain ⟨W, hW⟩ : ∃ W, W = (w2.setCell ⟨w1.heap.size, 0, none⟩ (.int .i64 (AY f.body : Int))).setCell ⟨w1.heap.size, 1, none⟩ (.string (str (Ce f.body sz))) := ⟨_, rfl⟩
      obtain ⟨g, hg⟩ : ∃ g, g = w1.heap.size := ⟨_, rfl⟩
      clear hsd kg0 c0 c1' d0 d1
      rw [← hW] at kg tW
      rw [← hg] at kg
      rw [← hW, ← hg]
      have hbW : Below w.heap.size w W := HBW1.out.trans (tW.below (by omega) (by simp))
      have HBW := Aa hbW
      have hmW := HM.out.kept (Touch.of_below hbW []).grown_none (by simp)
      have HMW := Aa hmW
      have kbW := HKB.out.touch tW (by simp)
      have g0 := (kg 0 _ rfl).1
      have g1 := (kg 1 _ rfl).1
      have q5 := (kbW 5 _ rfl).1
      have hnb : AY f.body < 65536 := CH _ (Dl _ _)
      clear hW hg tW kg kbW hHeld f2 b2 hbW hmW ht2 hs2 hb2 HS0 hRF HKF HKB HBW1 hs1
      cases hr : FP f.body sz with
      | false =>
        have hno : ∀ i, True → A7 ⟨sz, fl, h⟩ f = some i → (atM D (Bo i)).isSome = true := by
          intro i _ h2
          exfalso
          unfold A7 at h2
          split at h2
          · rename_i hc
            rw [hc.2] at hr
            cases hr
          · cases h2
        have HQ := Aa (HNO.out hno)
        clear hno HNO HYES
        go_wp2_with fail
        go_end0
        exact ⟨rfl, HQ.out _ HBW.out⟩
      | true =>
        have htk : A7 ⟨sz, fl, h⟩ f = some (AY f.body) := by
          unfold A7
          rw [if_pos ⟨hset, hr⟩]
        have HTK := Aa htk
        have hKF := Aa (fun W hW => Fx E c (AY f.body) D (Ce f.body sz) (AY f.body) (by omega) hc (fun v hv => HSH.out _ v hv) W hW)
        clear htk
        go_wp2_with fail
        have nB : B ≠ E := G7 HMW.out q5
        have nG : g ≠ E := G7 HMW.out g0
        have hlB : B < W.heap.size := World.block_lt_of_cell? W _ q5
        have hlG : g < W.heap.size := World.block_lt_of_cell? W _ g0
        have hSt : ∀ Y : World, Touch [E] W Y → Y.cell? ⟨B, 5, none⟩ = some (.map (some E)) ∧ Y.cell? ⟨g, 0, none⟩ = some (.int .i64 (AY f.body : Int)) ∧ Y.cell? ⟨g, 1, none⟩ = some (.string (str (Ce f.body sz))) := fun Y ht =>
          ⟨by rw [ht.cell (x := ⟨B, 5, none⟩) hlB (by simpa using nB)]; exact q5, by rw [ht.cell (x := ⟨g, 0, none⟩) hlG (by simpa using nG)]; exact g0, by rw [ht.cell (x := ⟨g, 1, none⟩) hlG (by simpa using nG)]; exact g1⟩
        have HST := Aa hSt
        clear hSt hlB hlG q5 g0 g1 nB nG
        refine wp_region_held_drew (S := fun Y => Y.cell? ⟨B, 5, none⟩ = some (.map (some E)) ∧ Y.cell? ⟨g, 0, none⟩ = some (.int .i64 (AY f.body : Int)) ∧ Y.cell? ⟨g, 1, none⟩ = some (.string (str (Ce f.body sz)))) (by kernel_rfl) (HST.out _ (Touch.refl _ _).drew) (fun hHeld => ?_)
        refine tY 0 22 ?_
        refine tY 1 23 ?_
        refine tY 2 24 ?_
        refine tY 3 25 ?_
        refine tY 4 26 ?_
        refine tY 5 27 ?_
        refine tY 6 28 ?_
        refine Ah (i := 7) (by kernel_rfl) (fun K o ho hK => ?_)
        simp only [gA, gB, gC, gE] at ho
        subst ho
        go_simp
        refine (hKF.out _ HMW.out.drew).mono ?_
        rintro e w9 ⟨rfl, h9⟩
        have t9 : Touch [E] W.drew w9 := by
          split at h9
          · exact Touch.of_below h9 _
          · exact h9.2
        refine hK.out _ _ ?_ (fun hHeld => ?_)
        focus exact HST.out _ ((Touch.refl [E] W).drew.trans t9)
        clear hK K
        try simp only [Act.put, sA, sB, sC]
        refine wpAnyH_done (by kernel_rfl) ?_ _
        have hB9 : Touch [E] w w9 := (Touch.of_below HBW.out [E]).drew.trans t9
        have hfinal : Q0 w9 := by
          split at h9
          · rename_i hsome
            refine HNO.out (fun i _ h2 => ?_) w9 (HBW.out.drew.trans (h9.mono (by have := HBW.out.size; exact this)))
            rw [HTK.out] at h2
            cases h2
            exact hsome
          · rename_i hnone
            have hnn : atM D (Bo (AY f.body)) = none := by
              cases hh : atM D (Bo (AY f.body)) with
              | none => rfl
              | some u => rw [hh] at hnone; exact absurd rfl hnone
            exact HYES.out (AY f.body) (DY sz f) w9 (by simp) HTK.out hnn rfl h9.1 hB9
        have HFINAL := Aa hfinal
        clear hfinal h9 HNO HYES
        go_wp2_with fail
        go_end0
        exact ⟨rfl, HFINAL.out⟩
end Go.Proofs.YtonjphollmdicaaGreatDoor
namespace Go.Proofs.YtonjphollmdicaaGreatDoor
open Go.ChangeShapes Go.WideShapes Go.ChangeAt Go.RowKit
open Go.Maps
structure KMap (D : DataW Value) (g : FoundL → Option Nat) (l : List FoundL) (N : Nat) (R : Value → FoundL → Prop) : Prop where
 size : Maps.size D = (Ba g l N).length
 keys : ∀ kl, Maps.has D kl = true → ∃ i, i < N ∧ kl = Bo i
 gone : ∀ i, AN g l i = none → atM D (Bo i) = none
 there : ∀ i f, AN g l i = some f → ∃ v, atM D (Bo i) = some v ∧ R v f
theorem Hx (g : FoundL → Option Nat) (i : Nat) : AN g [] i = none := rfl
theorem KMap.empty (g : FoundL → Option Nat) (N : Nat) (R : Value → FoundL → Prop) : KMap (.map []) g [] N R := by
 refine ⟨?_, fun kl h => ?_, fun i _ => EE _, fun i f h => ?_⟩
 ·unfold Ba
  have : ((List.range N).filter fun i => (AN g [] i).isSome) = [] := List.filter_eq_nil_iff.2 (fun i _ => by rw [Hx]; simp)
  rw [this]
  rfl
 ·simp [Maps.has] at h
 ·rw [Hx] at h
  cases h
theorem KMap.mono {D : DataW Value} {g : FoundL → Option Nat} {l : List FoundL} {N : Nat} {R R' : Value → FoundL → Prop} (h : KMap D g l N R) (hR : ∀ v f, R v f → R' v f) : KMap D g l N R' :=
 ⟨h.size, h.keys, h.gone, fun i f hf => let ⟨v, h1, h2⟩ := h.there i f hf; ⟨v, h1, hR v f h2⟩⟩
theorem KMap.isSome {D : DataW Value} {g : FoundL → Option Nat} {l : List FoundL} {N : Nat} {R : Value → FoundL → Prop} (h : KMap D g l N R) (i : Nat) : (atM D (Bo i)).isSome = (AN g l i).isSome := by
 cases hf : AN g l i with
 | none => rw [h.gone i hf]; rfl
 | some f => obtain ⟨v, h1, _⟩ := h.there i f hf; rw [h1]; rfl
theorem KMap.same {D : DataW Value} {g : FoundL → Option Nat} {l : List FoundL} {N : Nat} {R : Value → FoundL → Prop} (h : KMap D g l N R) {f : FoundL} (hf : ∀ i, g f = some i → (atM D (Bo i)).isSome = true) : KMap D g (l ++ [f]) N R := by
 have hf' : ∀ i, g f = some i → (AN g l i).isSome = true := fun i hi => by rw [← h.isSome]; exact hf i hi
 refine ⟨by rw [PR hf']; exact h.size, h.keys, fun i hi => h.gone i (by rw [← Fe hf']; exact hi), fun i x hi => h.there i x (by rw [← Fe hf']; exact hi)⟩
theorem KMap.add {D : DataW Value} {g : FoundL → Option Nat} {l : List FoundL} {N : Nat} {R : Value → FoundL → Prop} (h : KMap D g l N R) (hT : Tidy D) {f : FoundL} {j : Nat} {v : Value} (hf : g f = some j) (hj : j < N) (ha : atM D (Bo j) = none) (hh : Maps.has D (Bo j) = false) (hv : R v f) : KMap (D.put (Bo j) (.held v)) g (l ++ [f]) N R := by
 have hn : AN g l j = none := by
  have := h.isSome j
  rw [ha] at this
  cases hx : AN g l j with
  | none => rfl
  | some x => rw [hx] at this; simp at this
 refine ⟨?_, ?_, ?_, ?_⟩
 ·rw [Maps.size_put hT, hh, QS hf hn hj, ← h.size]
  rfl
 ·intro kl hk
  by_cases c : kl = Bo j
  ·exact ⟨j, hj, c⟩
  ·rw [Maps.has_put_other c] at hk
   exact h.keys kl hk
 ·intro i hi
  rw [Ge hf hn] at hi
  by_cases c : i = j
  ·rw [if_pos c] at hi; cases hi
  ·rw [if_neg c] at hi
   rw [Dg _ (GD c)]
   exact h.gone i hi
 ·intro i x hi
  rw [Ge hf hn] at hi
  by_cases c : i = j
  ·subst c
   rw [if_pos rfl] at hi
   cases hi
   exact ⟨v, Ej hT.isMap (JK _) v, hv⟩
  ·rw [if_neg c] at hi
   rw [Dg _ (GD c)]
   exact h.there i x hi
theorem JG {w : World} {b n : Nat} {D : DataW Value} {t e : TypeId} (h : w.ownsMap Tryz.prog 3 CK b n D) (ht : Tryz.prog.underlying t = some (.map 3 e)) {z : Value} (hz : (zeroValue e).run Tryz.prog w = .ok z w) (j : Nat) (hj : j < 1000000) (ha : atM D (Bo j) = none) : Maps.has D (Bo j) = false := by
 rw [(GO h Tryz.lawInt ht hz (Di j hj)).1, ha]
 rfl
def MSt (W : World) (B F E base : Nat) (mo : Option FoundL) : Prop := match mo with
 | none => Blk W B (Bb false 0 0 (.slice none 0 0) F E)
 | some f => ∃ a c, Blk W B (Bb true f.set (Al f.body) (.slice a (Ax f.body).length c) F E) ∧ W.ownsRow base 63 1 (.slice a (Ax f.body).length c) (Ax f.body).length (Cz (Ax f.body))
def FSt (W : World) (F base : Nat) (mo : Option FoundL) (l : List FoundL) : Prop := ∃ c D, c ≤ l.length ∧ W.ownsMap Tryz.prog 3 CK F c D ∧ match mo with
 | none => D = .map []
 | some f => KMap D (AZ (Ag f)) l (Ax f.body).length (IsFile W base)
def ESt (W : World) (E : Nat) (mo : Option FoundL) (l : List FoundL) : Prop := ∃ c D, c ≤ l.length ∧ W.ownsMap Tryz.prog 3 CK E c D ∧ match mo with
 | none => D = .map []
 | some f => KMap D (A7 (Ag f)) l 20 (fun v g => v = DY (Al f.body) g)
theorem MSt.touch {W W' : World} {B F E base : Nat} {mo : Option FoundL} (h : MSt W B F E base mo) {L : List Nat} (ht : Touch L W W') (hB : B ∉ L) (hL : ∀ x ∈ L, x < base) : MSt W' B F E base mo := by
 cases mo with
 | none => exact Blk.touch h ht hB
 | some f =>
  obtain ⟨a, c, h1, h2⟩ := h
  exact ⟨a, c, h1.touch ht hB, Ac h2 ht hL⟩
theorem Ar {W W' : World} {P : Program} {k : TypeId} {F n : Nat} {D : DataW Value} (h : W.ownsMap P k CK F n D) {L : List Nat} (ht : Touch L W W') (hF : F ∉ L) : W'.ownsMap P k CK F n D := by
 have hblk : W'.heap[F]? = W.heap[F]? := ht.block F h.lt hF
 obtain ⟨es, clock, hb, r⟩ := h
 exact ⟨es, clock, hblk.trans hb, r⟩
theorem IsFile.touch {W W' : World} {base : Nat} {v : Value} {f : FoundL} (h : IsFile W base v f) {L : List Nat} (ht : Touch L W W') (hL : ∀ x ∈ L, x < base) : IsFile W' base v f := by
 obtain ⟨a, c, h1, h2⟩ := h
 exact ⟨a, c, h1, Ac h2 ht hL⟩
theorem FSt.touch {W W' : World} {F base : Nat} {mo : Option FoundL} {l : List FoundL} (h : FSt W F base mo l) {L : List Nat} (ht : Touch L W W') (hF : F ∉ L) (hL : ∀ x ∈ L, x < base) : FSt W' F base mo l := by
 obtain ⟨c, D, hc, hm, hk⟩ := h
 refine ⟨c, D, hc, Ar hm ht hF, ?_⟩
 cases mo with
 | none => exact hk
 | some f => exact KMap.mono hk (fun v g hv => hv.touch ht hL)
theorem ESt.touch {W W' : World} {E : Nat} {mo : Option FoundL} {l : List FoundL} (h : ESt W E mo l) {L : List Nat} (ht : Touch L W W') (hE : E ∉ L) : ESt W' E mo l := by
 obtain ⟨c, D, hc, hm, hk⟩ := h
 exact ⟨c, D, hc, Ar hm ht hE, hk⟩
end Go.Proofs.YtonjphollmdicaaGreatDoor
namespace Go.Proofs.YtonjphollmdicaaGreatDoor
open Go.ChangeShapes Go.WideShapes Go.ChangeAt Go.RowKit
open Go.Maps
theorem O7 (a : List FoundL) (f : FoundL) : (a ++ [f]).find? Cs = (a.find? Cs).or (if Cs f then some f else none) := by
 rw [List.find?_append, List.find?_cons, List.find?_nil]
 cases Cs f <;> rfl
theorem stepM (B F E base : Nat) (a : List FoundL) (f : FoundL) (hf : f.body.length ≤ 1000000) (w : World) (hb : base ≤ w.heap.size) (h : MSt w B F E base (a.find? Cs)) :
  Calls Tryz.prog 185 #[.pointer (some ⟨B, 0, none⟩), CC f.kind.toNat f.set f.body] w fun e w' => e = .returned (.tuple #[]) ∧ MSt w' B F E base ((a ++ [f]).find? Cs) ∧ Touch [B] w w' := by
 rw [O7]
 cases hm : a.find? Cs with
 | none =>
  rw [hm] at h
  refine (Gv B false 0 0 none 0 0 F E f hf w h).mono ?_
  rintro e w' ⟨rfl, h1⟩
  refine ⟨rfl, ?_⟩
  simp only [Option.none_or]
  by_cases c : Cs f = true
  ·rw [if_pos ⟨rfl, c⟩] at h1
   obtain ⟨v, k1, o1, t1⟩ := h1
   rw [if_pos c]
   obtain ⟨va, vc, rfl, -⟩ := Aw o1
   exact ⟨⟨va, vc, k1, Ad hb o1⟩, t1⟩
  ·rw [if_neg (fun e => c e.2)] at h1
   rw [if_neg c]
   have t1 := Touch.of_below h1 []
   exact ⟨Blk.touch h t1 (by simp), t1.mono (by simp)⟩
 | some g =>
  rw [hm] at h
  obtain ⟨va, vc, k1, o1⟩ := h
  refine (Gv B true _ _ va _ vc F E f hf w k1).mono ?_
  rintro e w' ⟨rfl, h1⟩
  rw [if_neg (fun e => by cases e.1)] at h1
  have t1 := Touch.of_below h1 []
  exact ⟨rfl, ⟨va, vc, k1.touch t1 (by simp), Ac o1 t1 (by simp)⟩, t1.mono (by simp)⟩
theorem KV {a : List FoundL} {g : FoundL} (h : a.find? Cs = some g) : (Ax g.body).length ≤ 6 ∧ 2 ≤ Al g.body ∧ Al g.body ≤ 32 := by
 have h1 := List.find?_some h
 unfold Cs at h1
 simp only [Bool.and_eq_true] at h1
 obtain ⟨_, e2, _, e4, _, e6⟩ := Eg h1.1
 rw [e2, List.length_map, List.length_range]
 unfold Ay at e6
 have := of_decide_eq_true e6
 omega
theorem stepF (B F E base : Nat) (mo : Option FoundL) (hmo : ∀ g, mo = some g → (Ax g.body).length ≤ 6 ∧ 2 ≤ Al g.body ∧ Al g.body ≤ 32) (b : List FoundL) (hbl : b.length < 1000000) (f : FoundL) (hf : f.body.length ≤ 1000000) (w : World) (hb : base ≤ w.heap.size) (hFb : F < base) (hBF : B ≠ F) (h : MSt w B F E base mo) (hF : FSt w F base mo b) :
  Calls Tryz.prog 186 #[.pointer (some ⟨B, 0, none⟩), CC f.kind.toNat f.set f.body] w fun e w' => e = .returned (.tuple #[]) ∧ MSt w' B F E base mo ∧ FSt w' F base mo (b ++ [f]) ∧ Touch [F] w w' := by
 obtain ⟨c, D, hc, hm, hk⟩ := hF
 cases mo with
 | none =>
  subst hk
  refine (Gr B false 0 0 [] none 0 F E c (.map []) f hf (by simp) (by omega) w h (fun k u hu => by simp [Cz] at hu) hm (fun n v hv => by rw [EE] at hv; cases hv)).mono ?_
  rintro e w' ⟨rfl, h1⟩
  rcases h1 with ⟨h1, _⟩ | ⟨i, v, e1, _⟩
  ·have t1 := Touch.of_below h1 []
   exact ⟨rfl, Blk.touch h t1 (by simp), ⟨c, _, by simp; omega, Ar hm t1 (by simp), rfl⟩, t1.mono (by simp)⟩
  ·cases e1
 | some g =>
  obtain ⟨z1, z2⟩ := hmo g rfl
  obtain ⟨va, vc, k1, o1⟩ := h
  obtain ⟨_, _, e1, _, _, hrd⟩ := Aw o1
  cases e1
  have hk' : KMap D (AZ (Ag g)) b (Ax g.body).length (IsFile w base) := hk
  refine (Gr B true g.set (Al g.body) (Ax g.body) va vc F E c D f hf (fun _ => z2) (by omega) w k1 hrd hm (fun n v hv => ?_)).mono ?_
  ·cases hx : AN (AZ (Ag g)) b n with
   | none => rw [hk'.gone n hx] at hv; cases hv
   | some x =>
    obtain ⟨v', hv', hx'⟩ := hk'.there n x hx
    rw [hv'] at hv
    cases hv
    exact hx'.fi
  ·rintro e w' ⟨rfl, h1⟩
   rcases h1 with ⟨h1, h2⟩ | ⟨i, v, _, htk, hnone, hv, hm', t1⟩
   ·have t1 := Touch.of_below h1 []
    refine ⟨rfl, ⟨va, vc, k1.touch t1 (by simp), Ac o1 t1 (by simp)⟩, ⟨c, D, by simp; omega, Ar hm t1 (by simp), ?_⟩, t1.mono (by simp)⟩
    exact (hk'.same (fun i hi => h2 i rfl hi)).mono (fun v x hx => hx.touch t1 (by simp))
   ·refine ⟨rfl, ⟨va, vc, k1.touch t1 (by simpa using hBF), Ac o1 t1 (by simpa using hFb)⟩, ⟨c + 1, _, by simp; omega, hm', ?_⟩, t1⟩
    have hi := Ph htk
    have hh := JG hm Tryz.underlying129 (Tryz.zeroFI w) i (by have : (Ax g.body).length ≤ 6 := z1; simp only at hi; omega) hnone
    refine (hk'.mono (fun v x hx => hx.touch t1 (by simpa using hFb))).add (hm.tidy Tryz.lawInt) htk hi hnone hh ?_
    obtain ⟨va', vc', e1, e2⟩ := hv
    exact ⟨va', vc', e1, Ad hb e2⟩
theorem stepE (B F E base : Nat) (mo : Option FoundL) (hmo : ∀ g, mo = some g → (Ax g.body).length ≤ 6 ∧ 2 ≤ Al g.body ∧ Al g.body ≤ 32) (b : List FoundL) (hbl : b.length < 1000000) (f : FoundL) (hf : f.body.length ≤ 1000000) (w : World) (hEb : E < base) (hBE : B ≠ E) (h : MSt w B F E base mo) (hE : ESt w E mo b) :
  Calls Tryz.prog 187 #[.pointer (some ⟨B, 0, none⟩), CC f.kind.toNat f.set f.body] w fun e w' => e = .returned (.tuple #[]) ∧ MSt w' B F E base mo ∧ ESt w' E mo (b ++ [f]) ∧ Touch [E] w w' := by
 obtain ⟨c, D, hc, hm, hk⟩ := hE
 cases mo with
 | none =>
  subst hk
  refine (FN B false 0 0 [] none 0 F E c (.map []) f hf (by simp) (by omega) w h hm (fun n v hv => by rw [EE] at hv; cases hv)).mono ?_
  rintro e w' ⟨rfl, h1⟩
  rcases h1 with ⟨h1, _⟩ | ⟨i, v, e1, _⟩
  ·have t1 := Touch.of_below h1 []
   exact ⟨rfl, Blk.touch h t1 (by simp), ⟨c, _, by simp; omega, Ar hm t1 (by simp), rfl⟩, t1.mono (by simp)⟩
  ·cases e1
 | some g =>
  obtain ⟨z1, z2⟩ := hmo g rfl
  obtain ⟨va, vc, k1, o1⟩ := h
  have hk' : KMap D (A7 (Ag g)) b 20 (fun v x => v = DY (Al g.body) x) := hk
  refine (FN B true g.set (Al g.body) (Ax g.body) va vc F E c D f hf (fun _ => z2) (by omega) w k1 hm (fun n v hv => ?_)).mono ?_
  ·cases hx : AN (A7 (Ag g)) b n with
   | none => rw [hk'.gone n hx] at hv; cases hv
   | some x =>
    obtain ⟨v', hv', rfl⟩ := hk'.there n x hx
    rw [hv'] at hv
    cases hv
    exact ⟨_, _, rfl⟩
  ·rintro e w' ⟨rfl, h1⟩
   rcases h1 with ⟨h1, h2⟩ | ⟨i, v, _, htk, hnone, hv, hm', t1⟩
   ·have t1 := Touch.of_below h1 []
    refine ⟨rfl, ⟨va, vc, k1.touch t1 (by simp), Ac o1 t1 (by simp)⟩, ⟨c, D, by simp; omega, Ar hm t1 (by simp), ?_⟩, t1.mono (by simp)⟩
    exact hk'.same (fun i hi => h2 i rfl hi)
   ·refine ⟨rfl, ⟨va, vc, k1.touch t1 (by simpa using hBE), Ac o1 t1 (by simpa using hEb)⟩, ⟨c + 1, _, by simp; omega, hm', ?_⟩, t1⟩
    have hi := OZ htk
    have hh := JG hm Tryz.underlying130 (Tryz.zeroEI w) i (by omega) hnone
    exact hk'.add (hm.tidy Tryz.lawInt) htk hi hnone hh hv
end Go.Proofs.YtonjphollmdicaaGreatDoor
