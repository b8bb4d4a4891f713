import Derived.Test.YtonjphollmdicaaGreatDoorB11
namespace Go.Proofs.YtonjphollmdicaaGreatDoor
open Go.ChangeShapes Go.WideShapes Go.ChangeAt Go.RowKit
open Go.Maps
def extraV (sz : Nat) (f : FoundL) : Value := .agg #[.int .i64 (eNumber f.body : Int), .string (str (eSlice f.body sz))]
set_option linter.unusedSimpArgs false in
set_option maxRecDepth 100000 in
set_option maxHeartbeats 4000000 in
theorem readExtra_walk (B : Nat) (kn : Bool) (h sz : Nat) (fl : List Nat) (av : Option Addr) (cp F E c : Nat) (D : DataW Value) (f : FoundL) (hf : f.body.length ≤ 1000000) (hsz0 : kn = true → 2 ≤ sz ∧ sz ≤ 32) (hc : c < 1000000) (w : World)
    (hB : Blk w B (setCellsV kn h sz (.slice av fl.length cp) F E)) (hm : w.ownsMap Tryz.prog 3 rawE E c D) (hsh : ∀ n v, atM D (numK n) = some v → IsEI v) :
    Calls Tryz.prog 187 #[.pointer (some ⟨B, 0, none⟩), packV f.kind.toNat f.set f.body] w fun e w' => e = .returned (.tuple #[]) ∧
      ((Below w.heap.size w w' ∧ (∀ i, kn = true → takesE ⟨sz, fl, h⟩ f = some i → (atM D (numK i)).isSome = true)) ∨
       (∃ i v, kn = true ∧ takesE ⟨sz, fl, h⟩ f = some i ∧ atM D (numK i) = none ∧ v = extraV sz f ∧ w'.ownsMap Tryz.prog 3 rawE E (c + 1) (D.put (numK i) (.held v)) ∧ Touch [E] w w')) := by
  have hBlt : B < w.heap.size := hB.lt (by simp [setCellsV])
  obtain ⟨Q0, hQ0⟩ : ∃ Q : World → Prop, Q = (fun w' => (Below w.heap.size w w' ∧ (∀ i, kn = true → takesE ⟨sz, fl, h⟩ f = some i → (atM D (numK i)).isSome = true)) ∨
       (∃ i v, kn = true ∧ takesE ⟨sz, fl, h⟩ f = some i ∧ atM D (numK i) = none ∧ v = extraV sz f ∧ w'.ownsMap Tryz.prog 3 rawE E (c + 1) (D.put (numK i) (.held v)) ∧ Touch [E] w w')) := ⟨_, rfl⟩
  have hpost : ∀ (e : Ending) (w' : World), (e = .returned (.tuple #[]) ∧ Q0 w') → (e = .returned (.tuple #[]) ∧ ((Below w.heap.size w w' ∧ (∀ i, kn = true → takesE ⟨sz, fl, h⟩ f = some i → (atM D (numK i)).isSome = true)) ∨
       (∃ i v, kn = true ∧ takesE ⟨sz, fl, h⟩ f = some i ∧ atM D (numK i) = none ∧ v = extraV sz f ∧ w'.ownsMap Tryz.prog 3 rawE E (c + 1) (D.put (numK i) (.held v)) ∧ Touch [E] w w'))) := by
    intro e w' hh
    rw [hQ0] at hh
    exact hh
  refine Calls.mono ?_ hpost
  have HNO : Hid ((∀ i, kn = true → takesE ⟨sz, fl, h⟩ f = some i → (atM D (numK i)).isSome = true) → ∀ w', Below w.heap.size w w' → Q0 w') := hid_of (fun h1 w' h2 => by rw [hQ0]; exact .inl ⟨h2, h1⟩)
  have HYES : Hid (∀ i v w', kn = true → takesE ⟨sz, fl, h⟩ f = some i → atM D (numK i) = none → v = extraV sz f → w'.ownsMap Tryz.prog 3 rawE E (c + 1) (D.put (numK i) (.held v)) → Touch [E] w w' → Q0 w') := hid_of (fun i v w' h1 h2 h3 h4 h5 h6 => by rw [hQ0]; exact .inr ⟨i, v, h1, h2, h3, h4, h5, h6⟩)
  clear hpost hQ0
  have HM := hid_of hm
  have HB := hid_of hB
  have HSH := hid_of hsh
  have hO := hid_of (fun W hW => owns_walk B kn h sz (.slice av fl.length cp) F E f W hW)
  unfold packV
  clear hm hB hsh
  unfold packV at hO
  go_enter Tryz.func187, Tryz.ntmps187
  go_wp2_with fail
  refine (hO.out _ (HB.out.alloc _)).mono ?_
  rintro e w1 ⟨rfl, hb1⟩
  have hs1 : w.heap.size + 1 ≤ w1.heap.size := by have := hb1.size; simpa using this
  have hbw1 : Below w.heap.size w w1 := Below.trans ((Below.refl w.heap.size w).alloc (Nat.le_refl _) _) (hb1.mono (by simp))
  have kf := (Blk.new w #[Value.int IntKind.u8 (f.kind.toNat : Int), Value.int IntKind.u64 (f.set : Int), Value.string (str f.body)] 181).touch (Touch.of_below hb1 []) (by simp)
  have kb := HB.out.touch (Touch.of_below hbw1 []) (by simp)
  clear hb1
  cases ho : (kn && decide (f.set = h)) with
  | false =>
    have hno : ∀ i, kn = true → takesE ⟨sz, fl, h⟩ f = some i → (atM D (numK i)).isSome = true := by
      intro i h1 h2
      exfalso
      unfold takesE at h2
      split at h2
      · rename_i hc
        rw [h1, decide_eq_true hc.1] at ho
        cases ho
      · cases h2
    have HQ := hid_of (HNO.out hno w1 hbw1)
    clear hno HNO HYES hbw1 kf kb
    go_wp2_with fail
    refine bodyPost_ret (v := .tuple #[]) (by simp [results, Tryz.results187, go_sem]) rfl ?_
    exact ⟨rfl, HQ.out⟩
  | true =>
    simp only [Bool.and_eq_true, decide_eq_true_eq] at ho
    obtain ⟨rfl, hset⟩ := ho
    obtain ⟨z1, z2⟩ := hsz0 rfl
    have b2 := (kb 2 _ rfl).1
    have f2 := (kf 2 _ rfl).1
    have hRF := hid_of (fun W => ReadExtra_walk f.body sz hf W)
    clear hsz0
    have HKF := hid_of kf
    have HBW1 := hid_of hbw1
    have HKB := hid_of kb
    clear kf kb hbw1
    go_wp2_with fail
    have S0 : ∀ X : World, Touch [] w1 X → X.cell? ⟨w.heap.size, 2, none⟩ = some (.string (str f.body)) ∧ X.cell? ⟨B, 2, none⟩ = some (.int .i64 (sz : Int)) := fun X hX =>
      ⟨(HKF.out.touch hX (by simp) 2 _ rfl).1, (HKB.out.touch hX (by simp) 2 _ rfl).1⟩
    have HS0 := hid_of S0
    clear S0
    refine wp_region_held_drew (S := fun X => X.cell? ⟨w.heap.size, 2, none⟩ = some (.string (str f.body)) ∧ X.cell? ⟨B, 2, none⟩ = some (.int .i64 (sz : Int))) (by kernel_rfl) ⟨f2, b2⟩ (fun hHeld => ?_)
    (refine tY 0 11 ?v1 ?a1 rfl (by kernel_rfl) (by rfl) (fun _ _ _ h => h) ?y1 (by assumption) rfl ?p1 ?_; (case y1 => (intro w hSw; (try dsimp only at hSw); simp only [gA, gB, gC, gD, gE]; go_simp; (try with_reducible rfl))); (case p1 => (simp only [Act.put, sA, sB, sC]; try rfl)))
    (refine tY 1 12 ?v2 ?a2 rfl (by kernel_rfl) (by rfl) (fun _ _ _ h => h) ?y2 (by assumption) rfl ?p2 ?_; (case y2 => (intro w hSw; (try dsimp only at hSw); simp only [gA, gB, gC, gD, gE]; go_simp; (try with_reducible rfl))); (case p2 => (simp only [Act.put, sA, sB, sC]; try rfl)))
    (refine tY 2 13 ?v3 ?a3 rfl (by kernel_rfl) (by rfl) (fun _ _ _ h => h) ?y3 (by assumption) rfl ?p3 ?_; (case y3 => (intro w hSw; (try dsimp only at hSw); simp only [gA, gB, gC, gD, gE]; go_simp; (try with_reducible rfl))); (case p3 => (simp only [Act.put, sA, sB, sC]; try rfl)))
    (refine tY 3 14 ?v4 ?a4 rfl (by kernel_rfl) (by rfl) (fun _ _ _ h => h) ?y4 (by assumption) rfl ?p4 ?_; (case y4 => (intro w hSw; (try dsimp only at hSw); simp only [gA, gB, gC, gD, gE]; go_simp; (try with_reducible rfl))); (case p4 => (simp only [Act.put, sA, sB, sC]; try rfl)))
    (refine tY 4 15 ?v5 ?a5 rfl (by kernel_rfl) (by rfl) (fun _ _ _ h => h) ?y5 (by assumption) rfl ?p5 ?_; (case y5 => (intro w hSw; (try dsimp only at hSw); simp only [gA, gB, gC, gD, gE]; go_simp; (try with_reducible rfl))); (case p5 => (simp only [Act.put, sA, sB, sC]; try rfl)))
    (refine tY 5 16 ?v6 ?a6 rfl (by kernel_rfl) (by rfl) (fun _ _ _ h => h) ?y6 (by assumption) rfl ?p6 ?_; (case y6 => (intro w hSw; (try dsimp only at hSw); simp only [gA, gB, gC, gD, gE]; go_simp; (try with_reducible rfl))); (case p6 => (simp only [Act.put, sA, sB, sC]; try rfl)))
    (refine tY 6 17 ?v7 ?a7 rfl (by kernel_rfl) (by rfl) (fun _ _ _ h => h) ?y7 (by assumption) rfl ?p7 ?_; (case y7 => (intro w hSw; (try dsimp only at hSw); simp only [gA, gB, gC, gD, gE]; go_simp; (try with_reducible rfl))); (case p7 => (simp only [Act.put, sA, sB, sC]; try rfl)))
    refine step_two (i := 7) (j := 11) (by kernel_rfl) (fun K o ho hK => ?_) (fun K o ho hK => ?_)
    focus
      simp only [List.getElem?_toArray, List.getElem?_cons_succ, List.getElem?_cons_zero, Option.some.injEq] at ho
      subst ho
      go_simp
      refine (hRF.out _).mono ?_
      rintro e w2 ⟨rfl, hb2⟩
      have ht2 : Touch [] w1 w2 := (Touch.refl [] w1).drew.trans (Touch.of_below hb2 [])
      have hs2 : w1.heap.size ≤ w2.heap.size := ht2.size
      refine hK.out _ _ ?_ (fun hHeld => ?_)
      focus exact HS0.out _ ht2
      clear hK K
      try simp only [Act.put, List.setIfInBounds_toArray, List.set_cons_zero, List.set_cons_succ]
      (refine tY 8 10 ?v8 ?a8 rfl (by kernel_rfl) (by rfl) (fun _ _ _ h => h) ?y8 (by assumption) rfl ?p8 ?_; (case y8 => (intro w hSw; (try dsimp only at hSw); simp only [gA, gB, gC, gD, gE]; go_simp; (try with_reducible rfl))); (case p8 => (simp only [Act.put, sA, sB, sC]; try rfl)))
      (refine tY 9 19 ?v9 ?a9 rfl (by kernel_rfl) (by rfl) (fun _ _ _ h => h) ?y9 (by assumption) rfl ?p9 ?_; (case y9 => (intro w hSw; (try dsimp only at hSw); simp only [gA, gB, gC, gD, gE]; go_simp; (try with_reducible rfl))); (case p9 => (simp only [Act.put, sA, sB, sC]; try rfl)))
      (refine tY 10 20 ?v10 ?a10 rfl (by kernel_rfl) (by rfl) (fun _ _ _ h => h) ?y10 (by assumption) rfl ?p10 ?_; (case y10 => (intro w hSw; (try dsimp only at hSw); simp only [gA, gB, gC, gD, gE]; go_simp; (try with_reducible rfl))); (case p10 => (simp only [Act.put, sA, sB, sC]; try rfl)))
      refine step_one (i := 11) (by kernel_rfl) (fun K o ho hK => ?_)
      simp only [List.getElem?_toArray, List.getElem?_cons_succ, List.getElem?_cons_zero, Option.some.injEq] at ho
      subst ho
      go_simp
      refine hK.out _ _ ?_ (fun hHeld => ?_)
      focus exact HS0.out _ (ht2.alloc _)
      clear hK K
      try simp only [Act.put, List.setIfInBounds_toArray, List.set_cons_zero, List.set_cons_succ]
      refine step_one (i := 12) (by kernel_rfl) (fun K o ho hK => ?_)
      simp only [List.getElem?_toArray, List.getElem?_cons_succ, List.getElem?_cons_zero, Option.some.injEq] at ho
      subst ho
      go_simp
      refine hK.out _ _ ?_ (fun hHeld => ?_)
      focus exact HS0.out _ (ht2.alloc _)
      clear hK K
      try simp only [Act.put, List.setIfInBounds_toArray, List.set_cons_zero, List.set_cons_succ]
      (refine tY 13 5 ?v11 ?a11 rfl (by kernel_rfl) (by rfl) (fun _ _ _ h => h) ?y11 (by assumption) rfl ?p11 ?_; (case y11 => (intro w hSw; (try dsimp only at hSw); simp only [gA, gB, gC, gD, gE]; go_simp; (try with_reducible rfl))); (case p11 => (simp only [Act.put, sA, sB, sC]; try rfl)))
      refine wpAnyH_done (by kernel_rfl) ?_ _
      have tW := ht2.alloc (Obj.cells #[Value.int .i64 (eNumber f.body : Int), .string (str (eSlice f.body sz))] 192)
      have kg := Blk.new w2 #[Value.int .i64 (eNumber f.body : Int), .string (str (eSlice f.body sz))] 192
      obtain ⟨W, hW⟩ : ∃ W, W = w2.alloc (Obj.cells #[Value.int .i64 (eNumber f.body : Int), .string (str (eSlice f.body sz))] 192) := ⟨_, rfl⟩
      obtain ⟨g, hg⟩ : ∃ g, g = w2.heap.size := ⟨_, rfl⟩
      rw [← hW] at kg tW
      rw [← hg] at kg
      rw [← hW, ← hg]
      have hbW : Below w.heap.size w W := HBW1.out.trans (tW.below (by omega) (by simp))
      have HBW := hid_of hbW
      have hmW := HM.out.kept (Touch.of_below hbW []).grown_none (by simp)
      have HMW := hid_of hmW
      have kbW := HKB.out.touch tW (by simp)
      have g0 := (kg 0 _ rfl).1
      have g1 := (kg 1 _ rfl).1
      have q5 := (kbW 5 _ rfl).1
      have hnb : eNumber f.body < 65536 := numL_two _ (rdT_len _ _)
      clear hW hg tW kg kbW hHeld f2 b2 hbW hmW ht2 hs2 hb2 HS0 hRF HKF HKB HBW1 hs1
      cases hr : eRight f.body sz with
      | false =>
        have hno : ∀ i, True → takesE ⟨sz, fl, h⟩ f = some i → (atM D (numK i)).isSome = true := by
          intro i _ h2
          exfalso
          unfold takesE at h2
          split at h2
          · rename_i hc
            rw [hc.2] at hr
            cases hr
          · cases h2
        have HQ := hid_of (HNO.out hno)
        clear hno HNO HYES
        go_wp2_with fail
        go_end0
        exact ⟨rfl, HQ.out _ HBW.out⟩
      | true =>
        have htk : takesE ⟨sz, fl, h⟩ f = some (eNumber f.body) := by
          unfold takesE
          rw [if_pos ⟨hset, hr⟩]
        have HTK := hid_of htk
        have hKF := hid_of (fun W hW => keepFirstE_walk E c (eNumber f.body) D (eSlice f.body sz) (eNumber f.body) (by omega) hc (fun v hv => HSH.out _ v hv) W hW)
        clear htk
        go_wp2_with fail
        have nB : B ≠ E := map_ne HMW.out q5
        have nG : g ≠ E := map_ne HMW.out g0
        have hlB : B < W.heap.size := World.block_lt_of_cell? W _ q5
        have hlG : g < W.heap.size := World.block_lt_of_cell? W _ g0
        have hSt : ∀ Y : World, Touch [E] W Y → Y.cell? ⟨B, 5, none⟩ = some (.map (some E)) ∧ Y.cell? ⟨g, 0, none⟩ = some (.int .i64 (eNumber f.body : Int)) ∧ Y.cell? ⟨g, 1, none⟩ = some (.string (str (eSlice f.body sz))) := fun Y ht =>
          ⟨by rw [ht.cell (x := ⟨B, 5, none⟩) hlB (by simpa using nB)]; exact q5, by rw [ht.cell (x := ⟨g, 0, none⟩) hlG (by simpa using nG)]; exact g0, by rw [ht.cell (x := ⟨g, 1, none⟩) hlG (by simpa using nG)]; exact g1⟩
        have HST := hid_of hSt
        clear hSt hlB hlG q5 g0 g1 nB nG
        refine wp_region_held_drew (S := fun Y => Y.cell? ⟨B, 5, none⟩ = some (.map (some E)) ∧ Y.cell? ⟨g, 0, none⟩ = some (.int .i64 (eNumber f.body : Int)) ∧ Y.cell? ⟨g, 1, none⟩ = some (.string (str (eSlice f.body sz)))) (by kernel_rfl) (HST.out _ (Touch.refl _ _).drew) (fun hHeld => ?_)
        (refine tY 0 22 ?v12 ?a12 rfl (by kernel_rfl) (by rfl) (fun _ _ _ h => h) ?y12 (by assumption) rfl ?p12 ?_; (case y12 => (intro w hSw; (try dsimp only at hSw); simp only [gA, gB, gC, gD, gE]; go_simp; (try with_reducible rfl))); (case p12 => (simp only [Act.put, sA, sB, sC]; try rfl)))
        (refine tY 1 23 ?v13 ?a13 rfl (by kernel_rfl) (by rfl) (fun _ _ _ h => h) ?y13 (by assumption) rfl ?p13 ?_; (case y13 => (intro w hSw; (try dsimp only at hSw); simp only [gA, gB, gC, gD, gE]; go_simp; (try with_reducible rfl))); (case p13 => (simp only [Act.put, sA, sB, sC]; try rfl)))
        (refine tY 2 24 ?v14 ?a14 rfl (by kernel_rfl) (by rfl) (fun _ _ _ h => h) ?y14 (by assumption) rfl ?p14 ?_; (case y14 => (intro w hSw; (try dsimp only at hSw); simp only [gA, gB, gC, gD, gE]; go_simp; (try with_reducible rfl))); (case p14 => (simp only [Act.put, sA, sB, sC]; try rfl)))
        (refine tY 3 25 ?v15 ?a15 rfl (by kernel_rfl) (by rfl) (fun _ _ _ h => h) ?y15 (by assumption) rfl ?p15 ?_; (case y15 => (intro w hSw; (try dsimp only at hSw); simp only [gA, gB, gC, gD, gE]; go_simp; (try with_reducible rfl))); (case p15 => (simp only [Act.put, sA, sB, sC]; try rfl)))
        (refine tY 4 26 ?v16 ?a16 rfl (by kernel_rfl) (by rfl) (fun _ _ _ h => h) ?y16 (by assumption) rfl ?p16 ?_; (case y16 => (intro w hSw; (try dsimp only at hSw); simp only [gA, gB, gC, gD, gE]; go_simp; (try with_reducible rfl))); (case p16 => (simp only [Act.put, sA, sB, sC]; try rfl)))
        (refine tY 5 27 ?v17 ?a17 rfl (by kernel_rfl) (by rfl) (fun _ _ _ h => h) ?y17 (by assumption) rfl ?p17 ?_; (case y17 => (intro w hSw; (try dsimp only at hSw); simp only [gA, gB, gC, gD, gE]; go_simp; (try with_reducible rfl))); (case p17 => (simp only [Act.put, sA, sB, sC]; try rfl)))
        (refine tY 6 28 ?v18 ?a18 rfl (by kernel_rfl) (by rfl) (fun _ _ _ h => h) ?y18 (by assumption) rfl ?p18 ?_; (case y18 => (intro w hSw; (try dsimp only at hSw); simp only [gA, gB, gC, gD, gE]; go_simp; (try with_reducible rfl))); (case p18 => (simp only [Act.put, sA, sB, sC]; try rfl)))
        refine step_one (i := 7) (by kernel_rfl) (fun K o ho hK => ?_)
        simp only [List.getElem?_toArray, List.getElem?_cons_succ, List.getElem?_cons_zero, Option.some.injEq] at ho
        subst ho
        go_simp
        refine (hKF.out _ HMW.out.drew).mono ?_
        rintro e w9 ⟨rfl, h9⟩
        have t9 : Touch [E] W.drew w9 := by
          split at h9
          · exact Touch.of_below h9 _
          · exact h9.2
        refine hK.out _ _ ?_ (fun hHeld => ?_)
        focus exact HST.out _ ((Touch.refl [E] W).drew.trans t9)
        clear hK K
        try simp only [Act.put, List.setIfInBounds_toArray, List.set_cons_zero, List.set_cons_succ]
        refine wpAnyH_done (by kernel_rfl) ?_ _
        have hB9 : Touch [E] w w9 := (Touch.of_below HBW.out [E]).drew.trans t9
        have hfinal : Q0 w9 := by
          split at h9
          · rename_i hsome
            refine HNO.out (fun i _ h2 => ?_) w9 (HBW.out.drew.trans (h9.mono (by have := HBW.out.size; exact this)))
            rw [HTK.out] at h2
            cases h2
            exact hsome
          · rename_i hnone
            have hnn : atM D (numK (eNumber f.body)) = none := by
              cases hh : atM D (numK (eNumber f.body)) with
              | none => rfl
              | some u => rw [hh] at hnone; exact absurd rfl hnone
            exact HYES.out (eNumber f.body) (extraV sz f) w9 (by simp) HTK.out hnn rfl h9.1 hB9
        have HFINAL := hid_of hfinal
        clear hfinal h9 HNO HYES
        go_wp2_with fail
        go_end0
        exact ⟨rfl, HFINAL.out⟩
    focus
      simp only [List.getElem?_toArray, List.getElem?_cons_succ, List.getElem?_cons_zero, Option.some.injEq] at ho
      subst ho
      go_simp
      refine hK.out _ _ ?_ (fun hHeld => ?_)
      focus exact HS0.out _ ((Touch.refl [] w1).alloc _).drew
      clear hK K
      try simp only [Act.put, List.setIfInBounds_toArray, List.set_cons_zero, List.set_cons_succ]
      refine step_one (i := 7) (by kernel_rfl) (fun K o ho hK => ?_)
      simp only [List.getElem?_toArray, List.getElem?_cons_succ, List.getElem?_cons_zero, Option.some.injEq] at ho
      subst ho
      go_simp
      refine (hRF.out _).mono ?_
      rintro e w2 ⟨rfl, hb2⟩
      have hsd : (w1.alloc (Obj.cells #[Value.int .i64 0, .string ⟨#[]⟩] 192)).drew.heap.size = w1.heap.size + 1 := by simp
      have ht2 : Touch [] w1 w2 := (((Touch.refl [] w1).alloc _).drew).trans (Touch.of_below hb2 [])
      have hs2 : w1.heap.size + 1 ≤ w2.heap.size := by have := hb2.size; rw [hsd] at this; exact this
      have kg0 := ((Blk.new w1 #[Value.int .i64 0, .string ⟨#[]⟩] 192).drew).touch (Touch.of_below hb2 []) (by simp)
      have c0 := (kg0 0 _ rfl).1
      have c1' := (kg0 1 _ rfl).1
      have d0 := (kg0 0 _ rfl).2
      have d1 := (kg0 1 _ rfl).2
      refine hK.out _ _ ?_ (fun hHeld => ?_)
      focus exact HS0.out _ ht2
      clear hK K
      try simp only [Act.put, List.setIfInBounds_toArray, List.set_cons_zero, List.set_cons_succ]
      (refine tY 8 10 ?v19 ?a19 rfl (by kernel_rfl) (by rfl) (fun _ _ _ h => h) ?y19 (by assumption) rfl ?p19 ?_; (case y19 => (intro w hSw; (try dsimp only at hSw); simp only [gA, gB, gC, gD, gE]; go_simp; (try with_reducible rfl))); (case p19 => (simp only [Act.put, sA, sB, sC]; try rfl)))
      (refine tY 9 19 ?v20 ?a20 rfl (by kernel_rfl) (by rfl) (fun _ _ _ h => h) ?y20 (by assumption) rfl ?p20 ?_; (case y20 => (intro w hSw; (try dsimp only at hSw); simp only [gA, gB, gC, gD, gE]; go_simp; (try with_reducible rfl))); (case p20 => (simp only [Act.put, sA, sB, sC]; try rfl)))
      (refine tY 10 20 ?v21 ?a21 rfl (by kernel_rfl) (by rfl) (fun _ _ _ h => h) ?y21 (by assumption) rfl ?p21 ?_; (case y21 => (intro w hSw; (try dsimp only at hSw); simp only [gA, gB, gC, gD, gE]; go_simp; (try with_reducible rfl))); (case p21 => (simp only [Act.put, sA, sB, sC]; try rfl)))
      refine step_one (i := 12) (by kernel_rfl) (fun K o ho hK => ?_)
      simp only [List.getElem?_toArray, List.getElem?_cons_succ, List.getElem?_cons_zero, Option.some.injEq] at ho
      subst ho
      go_simp
      have tW := ((ht2.setCell (x := ⟨w1.heap.size, 0, none⟩) (.inr (Nat.le_refl _)) (.int .i64 (eNumber f.body : Int))).setCell (x := ⟨w1.heap.size, 1, none⟩) (.inr (Nat.le_refl _)) (.string (str (eSlice f.body sz))))
      refine hK.out _ _ ?_ (fun hHeld => ?_)
      focus exact HS0.out _ tW
      clear hK K
      try simp only [Act.put, List.setIfInBounds_toArray, List.set_cons_zero, List.set_cons_succ]
      (refine tY 13 5 ?v22 ?a22 rfl (by kernel_rfl) (by rfl) (fun _ _ _ h => h) ?y22 (by assumption) rfl ?p22 ?_; (case y22 => (intro w hSw; (try dsimp only at hSw); simp only [gA, gB, gC, gD, gE]; go_simp; (try with_reducible rfl))); (case p22 => (simp only [Act.put, sA, sB, sC]; try rfl)))
      refine wpAnyH_done (by kernel_rfl) ?_ _
      have kg := ((kg0.set 0 (.int .i64 (eNumber f.body : Int))).set 1 (.string (str (eSlice f.body sz))))
      simp only [List.set_cons_succ, List.set_cons_zero] at kg
      obtain ⟨W, hW⟩ : ∃ W, W = (w2.setCell ⟨w1.heap.size, 0, none⟩ (.int .i64 (eNumber f.body : Int))).setCell ⟨w1.heap.size, 1, none⟩ (.string (str (eSlice f.body sz))) := ⟨_, rfl⟩
      obtain ⟨g, hg⟩ : ∃ g, g = w1.heap.size := ⟨_, rfl⟩
      clear hsd kg0 c0 c1' d0 d1
      rw [← hW] at kg tW
      rw [← hg] at kg
      rw [← hW, ← hg]
      have hbW : Below w.heap.size w W := HBW1.out.trans (tW.below (by omega) (by simp))
      have HBW := hid_of hbW
      have hmW := HM.out.kept (Touch.of_below hbW []).grown_none (by simp)
      have HMW := hid_of hmW
      have kbW := HKB.out.touch tW (by simp)
      have g0 := (kg 0 _ rfl).1
      have g1 := (kg 1 _ rfl).1
      have q5 := (kbW 5 _ rfl).1
      have hnb : eNumber f.body < 65536 := numL_two _ (rdT_len _ _)
      clear hW hg tW kg kbW hHeld f2 b2 hbW hmW ht2 hs2 hb2 HS0 hRF HKF HKB HBW1 hs1
      cases hr : eRight f.body sz with
      | false =>
        have hno : ∀ i, True → takesE ⟨sz, fl, h⟩ f = some i → (atM D (numK i)).isSome = true := by
          intro i _ h2
          exfalso
          unfold takesE at h2
          split at h2
          · rename_i hc
            rw [hc.2] at hr
            cases hr
          · cases h2
        have HQ := hid_of (HNO.out hno)
        clear hno HNO HYES
        go_wp2_with fail
        go_end0
        exact ⟨rfl, HQ.out _ HBW.out⟩
      | true =>
        have htk : takesE ⟨sz, fl, h⟩ f = some (eNumber f.body) := by
          unfold takesE
          rw [if_pos ⟨hset, hr⟩]
        have HTK := hid_of htk
        have hKF := hid_of (fun W hW => keepFirstE_walk E c (eNumber f.body) D (eSlice f.body sz) (eNumber f.body) (by omega) hc (fun v hv => HSH.out _ v hv) W hW)
        clear htk
        go_wp2_with fail
        have nB : B ≠ E := map_ne HMW.out q5
        have nG : g ≠ E := map_ne HMW.out g0
        have hlB : B < W.heap.size := World.block_lt_of_cell? W _ q5
        have hlG : g < W.heap.size := World.block_lt_of_cell? W _ g0
        have hSt : ∀ Y : World, Touch [E] W Y → Y.cell? ⟨B, 5, none⟩ = some (.map (some E)) ∧ Y.cell? ⟨g, 0, none⟩ = some (.int .i64 (eNumber f.body : Int)) ∧ Y.cell? ⟨g, 1, none⟩ = some (.string (str (eSlice f.body sz))) := fun Y ht =>
          ⟨by rw [ht.cell (x := ⟨B, 5, none⟩) hlB (by simpa using nB)]; exact q5, by rw [ht.cell (x := ⟨g, 0, none⟩) hlG (by simpa using nG)]; exact g0, by rw [ht.cell (x := ⟨g, 1, none⟩) hlG (by simpa using nG)]; exact g1⟩
        have HST := hid_of hSt
        clear hSt hlB hlG q5 g0 g1 nB nG
        refine wp_region_held_drew (S := fun Y => Y.cell? ⟨B, 5, none⟩ = some (.map (some E)) ∧ Y.cell? ⟨g, 0, none⟩ = some (.int .i64 (eNumber f.body : Int)) ∧ Y.cell? ⟨g, 1, none⟩ = some (.string (str (eSlice f.body sz)))) (by kernel_rfl) (HST.out _ (Touch.refl _ _).drew) (fun hHeld => ?_)
        (refine tY 0 22 ?v23 ?a23 rfl (by kernel_rfl) (by rfl) (fun _ _ _ h => h) ?y23 (by assumption) rfl ?p23 ?_; (case y23 => (intro w hSw; (try dsimp only at hSw); simp only [gA, gB, gC, gD, gE]; go_simp; (try with_reducible rfl))); (case p23 => (simp only [Act.put, sA, sB, sC]; try rfl)))
        (refine tY 1 23 ?v24 ?a24 rfl (by kernel_rfl) (by rfl) (fun _ _ _ h => h) ?y24 (by assumption) rfl ?p24 ?_; (case y24 => (intro w hSw; (try dsimp only at hSw); simp only [gA, gB, gC, gD, gE]; go_simp; (try with_reducible rfl))); (case p24 => (simp only [Act.put, sA, sB, sC]; try rfl)))
        (refine tY 2 24 ?v25 ?a25 rfl (by kernel_rfl) (by rfl) (fun _ _ _ h => h) ?y25 (by assumption) rfl ?p25 ?_; (case y25 => (intro w hSw; (try dsimp only at hSw); simp only [gA, gB, gC, gD, gE]; go_simp; (try with_reducible rfl))); (case p25 => (simp only [Act.put, sA, sB, sC]; try rfl)))
        (refine tY 3 25 ?v26 ?a26 rfl (by kernel_rfl) (by rfl) (fun _ _ _ h => h) ?y26 (by assumption) rfl ?p26 ?_; (case y26 => (intro w hSw; (try dsimp only at hSw); simp only [gA, gB, gC, gD, gE]; go_simp; (try with_reducible rfl))); (case p26 => (simp only [Act.put, sA, sB, sC]; try rfl)))
        (refine tY 4 26 ?v27 ?a27 rfl (by kernel_rfl) (by rfl) (fun _ _ _ h => h) ?y27 (by assumption) rfl ?p27 ?_; (case y27 => (intro w hSw; (try dsimp only at hSw); simp only [gA, gB, gC, gD, gE]; go_simp; (try with_reducible rfl))); (case p27 => (simp only [Act.put, sA, sB, sC]; try rfl)))
        (refine tY 5 27 ?v28 ?a28 rfl (by kernel_rfl) (by rfl) (fun _ _ _ h => h) ?y28 (by assumption) rfl ?p28 ?_; (case y28 => (intro w hSw; (try dsimp only at hSw); simp only [gA, gB, gC, gD, gE]; go_simp; (try with_reducible rfl))); (case p28 => (simp only [Act.put, sA, sB, sC]; try rfl)))
        (refine tY 6 28 ?v29 ?a29 rfl (by kernel_rfl) (by rfl) (fun _ _ _ h => h) ?y29 (by assumption) rfl ?p29 ?_; (case y29 => (intro w hSw; (try dsimp only at hSw); simp only [gA, gB, gC, gD, gE]; go_simp; (try with_reducible rfl))); (case p29 => (simp only [Act.put, sA, sB, sC]; try rfl)))
        refine step_one (i := 7) (by kernel_rfl) (fun K o ho hK => ?_)
        simp only [List.getElem?_toArray, List.getElem?_cons_succ, List.getElem?_cons_zero, Option.some.injEq] at ho
        subst ho
        go_simp
        refine (hKF.out _ HMW.out.drew).mono ?_
        rintro e w9 ⟨rfl, h9⟩
        have t9 : Touch [E] W.drew w9 := by
          split at h9
          · exact Touch.of_below h9 _
          · exact h9.2
        refine hK.out _ _ ?_ (fun hHeld => ?_)
        focus exact HST.out _ ((Touch.refl [E] W).drew.trans t9)
        clear hK K
        try simp only [Act.put, List.setIfInBounds_toArray, List.set_cons_zero, List.set_cons_succ]
        refine wpAnyH_done (by kernel_rfl) ?_ _
        have hB9 : Touch [E] w w9 := (Touch.of_below HBW.out [E]).drew.trans t9
        have hfinal : Q0 w9 := by
          split at h9
          · rename_i hsome
            refine HNO.out (fun i _ h2 => ?_) w9 (HBW.out.drew.trans (h9.mono (by have := HBW.out.size; exact this)))
            rw [HTK.out] at h2
            cases h2
            exact hsome
          · rename_i hnone
            have hnn : atM D (numK (eNumber f.body)) = none := by
              cases hh : atM D (numK (eNumber f.body)) with
              | none => rfl
              | some u => rw [hh] at hnone; exact absurd rfl hnone
            exact HYES.out (eNumber f.body) (extraV sz f) w9 (by simp) HTK.out hnn rfl h9.1 hB9
        have HFINAL := hid_of hfinal
        clear hfinal h9 HNO HYES
        go_wp2_with fail
        go_end0
        exact ⟨rfl, HFINAL.out⟩
end Go.Proofs.YtonjphollmdicaaGreatDoor
namespace Go.Proofs.YtonjphollmdicaaGreatDoor
open Go.ChangeShapes Go.WideShapes Go.ChangeAt Go.RowKit
open Go.Maps
structure KMap (D : DataW Value) (g : FoundL → Option Nat) (l : List FoundL) (N : Nat) (R : Value → FoundL → Prop) : Prop where
 size : Maps.size D = (keysOf g l N).length
 keys : ∀ kl, Maps.has D kl = true → ∃ i, i < N ∧ kl = numK i
 gone : ∀ i, firstOf g l i = none → atM D (numK i) = none
 there : ∀ i f, firstOf g l i = some f → ∃ v, atM D (numK i) = some v ∧ R v f
theorem firstOf_nil (g : FoundL → Option Nat) (i : Nat) : firstOf g [] i = none := rfl
theorem KMap.empty (g : FoundL → Option Nat) (N : Nat) (R : Value → FoundL → Prop) : KMap (.map []) g [] N R := by
 refine ⟨?_, fun kl h => ?_, fun i _ => atM_empty _, fun i f h => ?_⟩
 ·unfold keysOf
  have : ((List.range N).filter fun i => (firstOf g [] i).isSome) = [] := List.filter_eq_nil_iff.2 (fun i _ => by rw [firstOf_nil]; simp)
  rw [this]
  rfl
 ·simp [Maps.has] at h
 ·rw [firstOf_nil] at h
  cases h
theorem KMap.mono {D : DataW Value} {g : FoundL → Option Nat} {l : List FoundL} {N : Nat} {R R' : Value → FoundL → Prop} (h : KMap D g l N R) (hR : ∀ v f, R v f → R' v f) : KMap D g l N R' :=
 ⟨h.size, h.keys, h.gone, fun i f hf => let ⟨v, h1, h2⟩ := h.there i f hf; ⟨v, h1, hR v f h2⟩⟩
theorem KMap.isSome {D : DataW Value} {g : FoundL → Option Nat} {l : List FoundL} {N : Nat} {R : Value → FoundL → Prop} (h : KMap D g l N R) (i : Nat) : (atM D (numK i)).isSome = (firstOf g l i).isSome := by
 cases hf : firstOf g l i with
 | none => rw [h.gone i hf]; rfl
 | some f => obtain ⟨v, h1, _⟩ := h.there i f hf; rw [h1]; rfl
theorem KMap.same {D : DataW Value} {g : FoundL → Option Nat} {l : List FoundL} {N : Nat} {R : Value → FoundL → Prop} (h : KMap D g l N R) {f : FoundL} (hf : ∀ i, g f = some i → (atM D (numK i)).isSome = true) : KMap D g (l ++ [f]) N R := by
 have hf' : ∀ i, g f = some i → (firstOf g l i).isSome = true := fun i hi => by rw [← h.isSome]; exact hf i hi
 refine ⟨by rw [keys_same hf']; exact h.size, h.keys, fun i hi => h.gone i (by rw [← firstOf_same hf']; exact hi), fun i x hi => h.there i x (by rw [← firstOf_same hf']; exact hi)⟩
theorem KMap.add {D : DataW Value} {g : FoundL → Option Nat} {l : List FoundL} {N : Nat} {R : Value → FoundL → Prop} (h : KMap D g l N R) (hT : Tidy D) {f : FoundL} {j : Nat} {v : Value} (hf : g f = some j) (hj : j < N) (ha : atM D (numK j) = none) (hh : Maps.has D (numK j) = false) (hv : R v f) : KMap (D.put (numK j) (.held v)) g (l ++ [f]) N R := by
 have hn : firstOf g l j = none := by
  have := h.isSome j
  rw [ha] at this
  cases hx : firstOf g l j with
  | none => rfl
  | some x => rw [hx] at this; simp at this
 refine ⟨?_, ?_, ?_, ?_⟩
 ·rw [Maps.size_put hT, hh, keys_new hf hn hj, ← h.size]
  rfl
 ·intro kl hk
  by_cases c : kl = numK j
  ·exact ⟨j, hj, c⟩
  ·rw [Maps.has_put_other c] at hk
   exact h.keys kl hk
 ·intro i hi
  rw [firstOf_new hf hn] at hi
  by_cases c : i = j
  ·rw [if_pos c] at hi; cases hi
  ·rw [if_neg c] at hi
   rw [atM_put_other _ (numK_ne c)]
   exact h.gone i hi
 ·intro i x hi
  rw [firstOf_new hf hn] at hi
  by_cases c : i = j
  ·subst c
   rw [if_pos rfl] at hi
   cases hi
   exact ⟨v, atM_put_same hT.isMap (numK_isKey _) v, hv⟩
  ·rw [if_neg c] at hi
   rw [atM_put_other _ (numK_ne c)]
   exact h.there i x hi
theorem has_of_atM {w : World} {b n : Nat} {D : DataW Value} {t e : TypeId} (h : w.ownsMap Tryz.prog 3 rawE b n D) (ht : Tryz.prog.underlying t = some (.map 3 e)) {z : Value} (hz : (zeroValue e).run Tryz.prog w = .ok z w) (j : Nat) (hj : j < 1000000) (ha : atM D (numK j) = none) : Maps.has D (numK j) = false := by
 rw [(atM_has h Tryz.lawInt ht hz (numK_key j hj)).1, ha]
 rfl
def MSt (W : World) (B F E base : Nat) (mo : Option FoundL) : Prop := match mo with
 | none => Blk W B (setCellsV false 0 0 (.slice none 0 0) F E)
 | some f => ∃ a c, Blk W B (setCellsV true f.set (mainSize f.body) (.slice a (mainFiles f.body).length c) F E) ∧ W.ownsRow base 63 1 (.slice a (mainFiles f.body).length c) (mainFiles f.body).length (u64V (mainFiles f.body))
def FSt (W : World) (F base : Nat) (mo : Option FoundL) (l : List FoundL) : Prop := ∃ c D, c ≤ l.length ∧ W.ownsMap Tryz.prog 3 rawE F c D ∧ match mo with
 | none => D = .map []
 | some f => KMap D (takesF (mainOf f)) l (mainFiles f.body).length (IsFile W base)
def ESt (W : World) (E : Nat) (mo : Option FoundL) (l : List FoundL) : Prop := ∃ c D, c ≤ l.length ∧ W.ownsMap Tryz.prog 3 rawE E c D ∧ match mo with
 | none => D = .map []
 | some f => KMap D (takesE (mainOf f)) l 20 (fun v g => v = extraV (mainSize f.body) g)
theorem MSt.touch {W W' : World} {B F E base : Nat} {mo : Option FoundL} (h : MSt W B F E base mo) {L : List Nat} (ht : Touch L W W') (hB : B ∉ L) (hL : ∀ x ∈ L, x < base) : MSt W' B F E base mo := by
 cases mo with
 | none => exact Blk.touch h ht hB
 | some f =>
  obtain ⟨a, c, h1, h2⟩ := h
  exact ⟨a, c, h1.touch ht hB, owns_touch h2 ht hL⟩
theorem ownsMap_touch {W W' : World} {P : Program} {k : TypeId} {F n : Nat} {D : DataW Value} (h : W.ownsMap P k rawE F n D) {L : List Nat} (ht : Touch L W W') (hF : F ∉ L) : W'.ownsMap P k rawE F n D := by
 have hblk : W'.heap[F]? = W.heap[F]? := ht.block F h.lt hF
 obtain ⟨es, clock, hb, r⟩ := h
 exact ⟨es, clock, hblk.trans hb, r⟩
theorem IsFile.touch {W W' : World} {base : Nat} {v : Value} {f : FoundL} (h : IsFile W base v f) {L : List Nat} (ht : Touch L W W') (hL : ∀ x ∈ L, x < base) : IsFile W' base v f := by
 obtain ⟨a, c, h1, h2⟩ := h
 exact ⟨a, c, h1, owns_touch h2 ht hL⟩
theorem FSt.touch {W W' : World} {F base : Nat} {mo : Option FoundL} {l : List FoundL} (h : FSt W F base mo l) {L : List Nat} (ht : Touch L W W') (hF : F ∉ L) (hL : ∀ x ∈ L, x < base) : FSt W' F base mo l := by
 obtain ⟨c, D, hc, hm, hk⟩ := h
 refine ⟨c, D, hc, ownsMap_touch hm ht hF, ?_⟩
 cases mo with
 | none => exact hk
 | some f => exact KMap.mono hk (fun v g hv => hv.touch ht hL)
theorem ESt.touch {W W' : World} {E : Nat} {mo : Option FoundL} {l : List FoundL} (h : ESt W E mo l) {L : List Nat} (ht : Touch L W W') (hE : E ∉ L) : ESt W' E mo l := by
 obtain ⟨c, D, hc, hm, hk⟩ := h
 exact ⟨c, D, hc, ownsMap_touch hm ht hE, hk⟩
end Go.Proofs.YtonjphollmdicaaGreatDoor
