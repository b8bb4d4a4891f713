import Derived.Test.YtonjphollmdicaaGreatDoorB10
namespace Go.Proofs.YtonjphollmdicaaGreatDoor
open Go.ChangeShapes Go.WideShapes Go.ChangeAt Go.RowKit
open Go.Maps
theorem map_ne {w : World} {P : Program} {k : TypeId} {F n : Nat} {D : DataW Value} {a : Addr} {v : Value} (h : w.ownsMap P k rawE F n D) (hc : w.cell? a = some v) : a.block ≠ F := by
  intro e
  obtain ⟨es, clock, hb, _⟩ := h
  rw [← e] at hb
  simp [World.cell?, hb] at hc
def IsFile (w : World) (base : Nat) (v : Value) (f : FoundL) : Prop := ∃ a c, v = .agg #[.int .i64 (fNumber f.body : Int), .string (str (fName f.body)), .int .i64 (fLong f.body : Int), .int .u64 (fHash f.body : Int), .slice a (fSlices f.body).length c] ∧ w.ownsRow base 63 1 (.slice a (fSlices f.body).length c) (fSlices f.body).length (u64V (fSlices f.body))
theorem IsFile.fi {w : World} {base : Nat} {v : Value} {f : FoundL} (h : IsFile w base v f) : IsFI v := by
  obtain ⟨a, c, rfl, _⟩ := h
  exact ⟨_, _, _, _, _, _, _, rfl⟩
set_option linter.unusedSimpArgs false in
set_option maxRecDepth 100000 in
set_option maxHeartbeats 4000000 in
theorem readFile_walk (B : Nat) (kn : Bool) (h sz : Nat) (fl : List Nat) (av : Option Addr) (cp F E c : Nat) (D : DataW Value) (f : FoundL) (hf : f.body.length ≤ 1000000) (hsz0 : kn = true → 2 ≤ sz ∧ sz ≤ 32) (hc : c < 1000000) (w : World)
    (hB : Blk w B (setCellsV kn h sz (.slice av fl.length cp) F E)) (hrd : Rd w av (u64V fl)) (hm : w.ownsMap Tryz.prog 3 rawE F c D) (hsh : ∀ n v, atM D (numK n) = some v → IsFI v) :
    Calls Tryz.prog 186 #[.pointer (some ⟨B, 0, none⟩), packV f.kind.toNat f.set f.body] w fun e w' => e = .returned (.tuple #[]) ∧
      ((Below w.heap.size w w' ∧ (∀ i, kn = true → takesF ⟨sz, fl, h⟩ f = some i → (atM D (numK i)).isSome = true)) ∨
       (∃ i v, kn = true ∧ takesF ⟨sz, fl, h⟩ f = some i ∧ atM D (numK i) = none ∧ IsFile w' w.heap.size v f ∧ w'.ownsMap Tryz.prog 3 rawE F (c + 1) (D.put (numK i) (.held v)) ∧ Touch [F] w w')) := by
  have hBlt : B < w.heap.size := hB.lt (by simp [setCellsV])
  obtain ⟨Q0, hQ0⟩ : ∃ Q : World → Prop, Q = (fun w' => (Below w.heap.size w w' ∧ (∀ i, kn = true → takesF ⟨sz, fl, h⟩ f = some i → (atM D (numK i)).isSome = true)) ∨
       (∃ i v, kn = true ∧ takesF ⟨sz, fl, h⟩ f = some i ∧ atM D (numK i) = none ∧ IsFile w' w.heap.size v f ∧ w'.ownsMap Tryz.prog 3 rawE F (c + 1) (D.put (numK i) (.held v)) ∧ Touch [F] w w')) := ⟨_, rfl⟩
  have hpost : ∀ (e : Ending) (w' : World), (e = .returned (.tuple #[]) ∧ Q0 w') → (e = .returned (.tuple #[]) ∧ ((Below w.heap.size w w' ∧ (∀ i, kn = true → takesF ⟨sz, fl, h⟩ f = some i → (atM D (numK i)).isSome = true)) ∨
       (∃ i v, kn = true ∧ takesF ⟨sz, fl, h⟩ f = some i ∧ atM D (numK i) = none ∧ IsFile w' w.heap.size v f ∧ w'.ownsMap Tryz.prog 3 rawE F (c + 1) (D.put (numK i) (.held v)) ∧ Touch [F] w w'))) := by
    intro e w' hh
    rw [hQ0] at hh
    exact hh
  refine Calls.mono ?_ hpost
  have HNO : Hid ((∀ i, kn = true → takesF ⟨sz, fl, h⟩ f = some i → (atM D (numK i)).isSome = true) → ∀ w', Below w.heap.size w w' → Q0 w') := hid_of (fun h1 w' h2 => by rw [hQ0]; exact .inl ⟨h2, h1⟩)
  have HYES : Hid (∀ i v w', kn = true → takesF ⟨sz, fl, h⟩ f = some i → atM D (numK i) = none → IsFile w' w.heap.size v f → w'.ownsMap Tryz.prog 3 rawE F (c + 1) (D.put (numK i) (.held v)) → Touch [F] w w' → Q0 w') := hid_of (fun i v w' h1 h2 h3 h4 h5 h6 => by rw [hQ0]; exact .inr ⟨i, v, h1, h2, h3, h4, h5, h6⟩)
  clear hpost hQ0
  have HM := hid_of hm
  have HB := hid_of hB
  have HSH := hid_of hsh
  have HRD := hid_of hrd
  have hO := hid_of (fun W hW => owns_walk B kn h sz (.slice av fl.length cp) F E f W hW)
  unfold packV
  clear hm hB hsh hrd
  unfold packV at hO
  go_enter Tryz.func186, Tryz.ntmps186
  go_wp2_with fail
  refine (hO.out _ (HB.out.alloc _)).mono ?_
  rintro e w1 ⟨rfl, hb1⟩
  have hs1 : w.heap.size + 1 ≤ w1.heap.size := by have := hb1.size; simpa using this
  have hbw1 : Below w.heap.size w w1 := Below.trans ((Below.refl w.heap.size w).alloc (Nat.le_refl _) _) (hb1.mono (by simp))
  have kf := (Blk.new w #[Value.int IntKind.u8 (f.kind.toNat : Int), Value.int IntKind.u64 (f.set : Int), Value.string (str f.body)] 181).touch (Touch.of_below hb1 []) (by simp)
  have kb := HB.out.touch (Touch.of_below hbw1 []) (by simp)
  clear hb1
  cases ho : (kn && decide (f.set = h)) with
  | false =>
    have hno : ∀ i, kn = true → takesF ⟨sz, fl, h⟩ f = some i → (atM D (numK i)).isSome = true := by
      intro i h1 h2
      exfalso
      unfold takesF at h2
      split at h2
      · rename_i hc
        rw [h1, decide_eq_true hc.1] at ho
        cases ho
      · cases h2
    have HQ := hid_of (HNO.out hno w1 hbw1)
    clear hno HNO HYES hbw1 kf kb
    go_wp2_with fail
    refine bodyPost_ret (v := .tuple #[]) (by simp [results, Tryz.results186, go_sem]) rfl ?_
    exact ⟨rfl, HQ.out⟩
  | true =>
    simp only [Bool.and_eq_true, decide_eq_true_eq] at ho
    obtain ⟨rfl, hset⟩ := ho
    obtain ⟨z1, z2⟩ := hsz0 rfl
    have b2 := (kb 2 _ rfl).1
    have f2 := (kf 2 _ rfl).1
    have hRF := hid_of (fun W => ReadFile_walk f.body sz hf z1 z2 W)
    clear hsz0
    have HKF := hid_of kf
    have HBW1 := hid_of hbw1
    have HKB := hid_of kb
    have z4 : ∀ o, (w1.alloc o).cell? ⟨B, 2, none⟩ = some (.int .i64 (sz : Int)) := fun o => (kb.alloc o 2 _ rfl).1
    have z5 : ∀ o, (w1.alloc o).cell? ⟨w.heap.size, 2, none⟩ = some (.string (str f.body)) := fun o => (kf.alloc o 2 _ rfl).1
    have Z4 := hid_of z4
    have Z5 := hid_of z5
    clear kf kb hbw1 z4 z5
    go_wp2_with fail
    have S0 : ∀ X : World, Touch [] w1 X → X.cell? ⟨w.heap.size, 2, none⟩ = some (.string (str f.body)) ∧ X.cell? ⟨B, 2, none⟩ = some (.int .i64 (sz : Int)) := fun X hX =>
      ⟨(HKF.out.touch hX (by simp) 2 _ rfl).1, (HKB.out.touch hX (by simp) 2 _ rfl).1⟩
    have HS0 := hid_of S0
    clear S0
    refine wp_region_held_drew (S := fun X => X.cell? ⟨w.heap.size, 2, none⟩ = some (.string (str f.body)) ∧ X.cell? ⟨B, 2, none⟩ = some (.int .i64 (sz : Int))) (by kernel_rfl) ⟨f2, b2⟩ (fun hHeld => ?_)
    (refine tY 0 11 ?v1 ?a1 rfl (by kernel_rfl) (by rfl) (fun _ _ _ h => h) ?y1 (by assumption) rfl ?p1 ?_; (case y1 => (intro w hSw; (try dsimp only at hSw); simp only [gA, gB, gC, gD, gE]; go_simp; (try with_reducible rfl))); (case p1 => (simp only [Act.put, sA, sB, sC]; try rfl)))
    (refine tY 1 12 ?v2 ?a2 rfl (by kernel_rfl) (by rfl) (fun _ _ _ h => h) ?y2 (by assumption) rfl ?p2 ?_; (case y2 => (intro w hSw; (try dsimp only at hSw); simp only [gA, gB, gC, gD, gE]; go_simp; (try with_reducible rfl))); (case p2 => (simp only [Act.put, sA, sB, sC]; try rfl)))
    (refine tY 2 13 ?v3 ?a3 rfl (by kernel_rfl) (by rfl) (fun _ _ _ h => h) ?y3 (by assumption) rfl ?p3 ?_; (case y3 => (intro w hSw; (try dsimp only at hSw); simp only [gA, gB, gC, gD, gE]; go_simp; (try with_reducible rfl))); (case p3 => (simp only [Act.put, sA, sB, sC]; try rfl)))
    (refine tY 3 14 ?v4 ?a4 rfl (by kernel_rfl) (by rfl) (fun _ _ _ h => h) ?y4 (by assumption) rfl ?p4 ?_; (case y4 => (intro w hSw; (try dsimp only at hSw); simp only [gA, gB, gC, gD, gE]; go_simp; (try with_reducible rfl))); (case p4 => (simp only [Act.put, sA, sB, sC]; try rfl)))
    (refine tY 4 15 ?v5 ?a5 rfl (by kernel_rfl) (by rfl) (fun _ _ _ h => h) ?y5 (by assumption) rfl ?p5 ?_; (case y5 => (intro w hSw; (try dsimp only at hSw); simp only [gA, gB, gC, gD, gE]; go_simp; (try with_reducible rfl))); (case p5 => (simp only [Act.put, sA, sB, sC]; try rfl)))
    (refine tY 5 16 ?v6 ?a6 rfl (by kernel_rfl) (by rfl) (fun _ _ _ h => h) ?y6 (by assumption) rfl ?p6 ?_; (case y6 => (intro w hSw; (try dsimp only at hSw); simp only [gA, gB, gC, gD, gE]; go_simp; (try with_reducible rfl))); (case p6 => (simp only [Act.put, sA, sB, sC]; try rfl)))
    (refine tY 6 17 ?v7 ?a7 rfl (by kernel_rfl) (by rfl) (fun _ _ _ h => h) ?y7 (by assumption) rfl ?p7 ?_; (case y7 => (intro w hSw; (try dsimp only at hSw); simp only [gA, gB, gC, gD, gE]; go_simp; (try with_reducible rfl))); (case p7 => (simp only [Act.put, sA, sB, sC]; try rfl)))
    refine step_two (i := 7) (j := 11) (by kernel_rfl) (fun K o ho hK => ?_) (fun K o ho hK => ?_)
    focus
      simp only [List.getElem?_toArray, List.getElem?_cons_succ, List.getElem?_cons_zero, Option.some.injEq] at ho
      subst ho
      go_simp
      refine (hRF.out _).mono ?_
      rintro e w2 ⟨v, rfl, hown, hb2⟩
      obtain ⟨a, cc, rfl, -⟩ := ownsRow_rd hown
      have ht2 : Touch [] w1 w2 := (Touch.refl [] w1).drew.trans (Touch.of_below hb2 [])
      have hs2 : w1.heap.size ≤ w2.heap.size := ht2.size
      refine hK.out _ _ ?_ (fun hHeld => ?_)
      focus exact HS0.out _ ht2
      clear hK K
      try simp only [Act.put, List.setIfInBounds_toArray, List.set_cons_zero, List.set_cons_succ]
      (refine tY 8 10 ?v8 ?a8 rfl (by kernel_rfl) (by rfl) (fun _ _ _ h => h) ?y8 (by assumption) rfl ?p8 ?_; (case y8 => (intro w hSw; (try dsimp only at hSw); simp only [gA, gB, gC, gD, gE]; go_simp; (try with_reducible rfl))); (case p8 => (simp only [Act.put, sA, sB, sC]; try rfl)))
      (refine tY 9 19 ?v9 ?a9 rfl (by kernel_rfl) (by rfl) (fun _ _ _ h => h) ?y9 (by assumption) rfl ?p9 ?_; (case y9 => (intro w hSw; (try dsimp only at hSw); simp only [gA, gB, gC, gD, gE]; go_simp; (try with_reducible rfl))); (case p9 => (simp only [Act.put, sA, sB, sC]; try rfl)))
      (refine tY 10 20 ?v10 ?a10 rfl (by kernel_rfl) (by rfl) (fun _ _ _ h => h) ?y10 (by assumption) rfl ?p10 ?_; (case y10 => (intro w hSw; (try dsimp only at hSw); simp only [gA, gB, gC, gD, gE]; go_simp; (try with_reducible rfl))); (case p10 => (simp only [Act.put, sA, sB, sC]; try rfl)))
      refine step_one (i := 11) (by kernel_rfl) (fun K o ho hK => ?_)
      simp only [List.getElem?_toArray, List.getElem?_cons_succ, List.getElem?_cons_zero, Option.some.injEq] at ho
      subst ho
      go_simp
      refine hK.out _ _ ?_ (fun hHeld => ?_)
      focus exact HS0.out _ (ht2.alloc _)
      clear hK K
      try simp only [Act.put, List.setIfInBounds_toArray, List.set_cons_zero, List.set_cons_succ]
      refine step_one (i := 12) (by kernel_rfl) (fun K o ho hK => ?_)
      simp only [List.getElem?_toArray, List.getElem?_cons_succ, List.getElem?_cons_zero, Option.some.injEq] at ho
      subst ho
      go_simp
      refine hK.out _ _ ?_ (fun hHeld => ?_)
      focus exact HS0.out _ (ht2.alloc _)
      clear hK K
      try simp only [Act.put, List.setIfInBounds_toArray, List.set_cons_zero, List.set_cons_succ]
      (refine tY 13 5 ?v11 ?a11 rfl (by kernel_rfl) (by rfl) (fun _ _ _ h => h) ?y11 (by assumption) rfl ?p11 ?_; (case y11 => (intro w hSw; (try dsimp only at hSw); simp only [gA, gB, gC, gD, gE]; go_simp; (try with_reducible rfl))); (case p11 => (simp only [Act.put, sA, sB, sC]; try rfl)))
      refine wpAnyH_done (by kernel_rfl) ?_ _
      have tW := ht2.alloc (Obj.cells #[Value.int .i64 (fNumber f.body : Int), .string (str (fName f.body)), .int .i64 (fLong f.body : Int), .int .u64 (fHash f.body : Int), .slice a (fSlices f.body).length cc] 143)
      have hoW : (w2.alloc (Obj.cells #[Value.int .i64 (fNumber f.body : Int), .string (str (fName f.body)), .int .i64 (fLong f.body : Int), .int .u64 (fHash f.body : Int), .slice a (fSlices f.body).length cc] 143)).ownsRow w.heap.size 63 1 (.slice a (fSlices f.body).length cc) (fSlices f.body).length (u64V (fSlices f.body)) := (ownsRow_base (by have : w1.drew.heap.size = w1.heap.size := rfl; omega) hown).alloc _
      have kg := Blk.new w2 #[Value.int .i64 (fNumber f.body : Int), .string (str (fName f.body)), .int .i64 (fLong f.body : Int), .int .u64 (fHash f.body : Int), .slice a (fSlices f.body).length cc] 143
      obtain ⟨W, hW⟩ : ∃ W, W = w2.alloc (Obj.cells #[Value.int .i64 (fNumber f.body : Int), .string (str (fName f.body)), .int .i64 (fLong f.body : Int), .int .u64 (fHash f.body : Int), .slice a (fSlices f.body).length cc] 143) := ⟨_, rfl⟩
      obtain ⟨g, hg⟩ : ∃ g, g = w2.heap.size := ⟨_, rfl⟩
      rw [← hW, ← hg] at kg
      rw [← hW] at tW hoW
      rw [← hW, ← hg]
      have hbW : Below w.heap.size w W := HBW1.out.trans (tW.below (by omega) (by simp))
      have HBW := hid_of hbW
      have HOW := hid_of hoW
      have hmW := HM.out.kept (Touch.of_below hbW []).grown_none (by simp)
      have HMW := hid_of hmW
      have HRW := hid_of (HRD.out.later (Nat.le_refl _) hbW)
      have kfW := HKF.out.touch tW (by simp)
      have kbW := HKB.out.touch tW (by simp)
      have g0 := (kg 0 _ rfl).1
      have g1 := (kg 1 _ rfl).1
      have g2 := (kg 2 _ rfl).1
      have g3 := (kg 3 _ rfl).1
      have g4 := (kg 4 _ rfl).1
      have p2 := (kfW 2 _ rfl).1
      have q3 := (kbW 3 _ rfl).1
      have q4 := (kbW 4 _ rfl).1
      have hnb : fNumber f.body < 256 := numL_byte _ (rdT_len _ _)
      clear hW hg tW hoW kg kfW kbW hHeld f2 b2 hbW hmW hown ht2 hs2 hb2 HS0 hRF HKF HKB HBW1 hs1 Z4 Z5
      go_wp2_with fail
      cases hr : fRight f.body sz with
      | false =>
        have hno : ∀ i, True → takesF ⟨sz, fl, h⟩ f = some i → (atM D (numK i)).isSome = true := by
          intro i _ h2
          exfalso
          unfold takesF at h2
          split at h2
          · rename_i hc
            rw [hc.2.1] at hr; cases hr
          · cases h2
        have HQ := hid_of (HNO.out hno)
        clear hno HNO HYES
        go_quiet (fail)
        go_wp2_with fail
        go_end0
        exact ⟨rfl, HQ.out _ (rdrewN HBW.out _)⟩
      | true =>
        by_cases c1 : fNumber f.body < fl.length
        · have e1 : (fNumber f.body : Int) < (fl.length : Int) := by omega
          have hH := hid_of (fun W => Hash_l f.body hf W)
          obtain ⟨x, hx⟩ : ∃ x, x = fl.getD (fNumber f.body) 0 := ⟨_, rfl⟩
          obtain ⟨bb, off, rfl, hcell⟩ := HRW.out (fNumber f.body) (.int .u64 (x : Int)) (by rw [hx]; simp [u64V, c1])
          have HX := hid_of hx
          clear hx
          have i0 : (0 : Int) ≤ (fNumber f.body : Int) := by omega
          by_cases c2 : hashL f.body = x
          · have e2 : ((hashL f.body : Int) == (x : Int)) = true := by rw [c2]; simp
            have htk : takesF ⟨sz, fl, h⟩ f = some (fNumber f.body) := by
              unfold takesF
              rw [if_pos ⟨hset, hr, c1, by rw [c2]; exact HX.out⟩]
            have HTK := hid_of htk
            have hKF := hid_of (fun W hW => keepFirstF_walk F c (fNumber f.body) D (fName f.body) (fNumber f.body) (fLong f.body) (fHash f.body) a (fSlices f.body).length cc (by omega) hc (fun v hv => HSH.out _ v hv) W hW)
            clear htk c2 hr
            go_quiet (refine Calls.quiet_of_same (hH.out _))
            go_wp2_with fail
            have nB : B ≠ F := map_ne HMW.out q4
            have nG : g ≠ F := map_ne HMW.out g0
            obtain ⟨X, hX⟩ : ∃ X, X = W.drewN nq := ⟨_, rfl⟩
            have tX : Touch [] W X := by rw [hX]; exact ⟨rfl, rfl, rfl, Nat.le_refl _, fun _ _ _ => rfl⟩
            rw [← hX]
            clear hX
            have hlB : B < W.heap.size := World.block_lt_of_cell? W _ q4
            have hlG : g < W.heap.size := World.block_lt_of_cell? W _ g0
            have hSt : ∀ Y : World, Touch [F] W Y → Y.cell? ⟨B, 4, none⟩ = some (.map (some F)) ∧ Y.cell? ⟨g, 0, none⟩ = some (.int .i64 (fNumber f.body : Int)) ∧ Y.cell? ⟨g, 1, none⟩ = some (.string (str (fName f.body))) ∧ Y.cell? ⟨g, 2, none⟩ = some (.int .i64 (fLong f.body : Int)) ∧ Y.cell? ⟨g, 3, none⟩ = some (.int .u64 (fHash f.body : Int)) ∧ Y.cell? ⟨g, 4, none⟩ = some (.slice a (fSlices f.body).length cc) := fun Y ht =>
              ⟨by rw [ht.cell (x := ⟨B, 4, none⟩) hlB (by simpa using nB)]; exact q4, by rw [ht.cell (x := ⟨g, 0, none⟩) hlG (by simpa using nG)]; exact g0, by rw [ht.cell (x := ⟨g, 1, none⟩) hlG (by simpa using nG)]; exact g1, by rw [ht.cell (x := ⟨g, 2, none⟩) hlG (by simpa using nG)]; exact g2, by rw [ht.cell (x := ⟨g, 3, none⟩) hlG (by simpa using nG)]; exact g3, by rw [ht.cell (x := ⟨g, 4, none⟩) hlG (by simpa using nG)]; exact g4⟩
            have TX := hid_of tX
            have HST := hid_of hSt
            have hmX := HMW.out.kept tX.grown_none (by simp)
            have HMX := hid_of hmX
            have HBX := hid_of (HBW.out.trans (tX.below (B := w.heap.size) (by have := HBW.out.size; omega) (by simp)))
            have HOX := hid_of (owns_touch HOW.out tX (by simp))
            have HFL : Hid (F < w.heap.size) := hid_of HM.out.lt
            clear tX hSt hmX hlB hlG q3 q4 g0 g1 g2 g3 g4 p2 hcell HBW HOW HMW HRW nB nG
            refine wp_region_held_drew (S := fun Y => Y.cell? ⟨B, 4, none⟩ = some (.map (some F)) ∧ Y.cell? ⟨g, 0, none⟩ = some (.int .i64 (fNumber f.body : Int)) ∧ Y.cell? ⟨g, 1, none⟩ = some (.string (str (fName f.body))) ∧ Y.cell? ⟨g, 2, none⟩ = some (.int .i64 (fLong f.body : Int)) ∧ Y.cell? ⟨g, 3, none⟩ = some (.int .u64 (fHash f.body : Int)) ∧ Y.cell? ⟨g, 4, none⟩ = some (.slice a (fSlices f.body).length cc)) (by kernel_rfl) (HST.out _ ((TX.out.mono (by simp)).drew)) (fun hHeld => ?_)
            (refine tY 0 48 ?v12 ?a12 rfl (by kernel_rfl) (by rfl) (fun _ _ _ h => h) ?y12 (by assumption) rfl ?p12 ?_; (case y12 => (intro w hSw; (try dsimp only at hSw); simp only [gA, gB, gC, gD, gE]; go_simp; (try with_reducible rfl))); (case p12 => (simp only [Act.put, sA, sB, sC]; try rfl)))
            (refine tY 1 49 ?v13 ?a13 rfl (by kernel_rfl) (by rfl) (fun _ _ _ h => h) ?y13 (by assumption) rfl ?p13 ?_; (case y13 => (intro w hSw; (try dsimp only at hSw); simp only [gA, gB, gC, gD, gE]; go_simp; (try with_reducible rfl))); (case p13 => (simp only [Act.put, sA, sB, sC]; try rfl)))
            (refine tY 2 50 ?v14 ?a14 rfl (by kernel_rfl) (by rfl) (fun _ _ _ h => h) ?y14 (by assumption) rfl ?p14 ?_; (case y14 => (intro w hSw; (try dsimp only at hSw); simp only [gA, gB, gC, gD, gE]; go_simp; (try with_reducible rfl))); (case p14 => (simp only [Act.put, sA, sB, sC]; try rfl)))
            (refine tY 3 51 ?v15 ?a15 rfl (by kernel_rfl) (by rfl) (fun _ _ _ h => h) ?y15 (by assumption) rfl ?p15 ?_; (case y15 => (intro w hSw; (try dsimp only at hSw); simp only [gA, gB, gC, gD, gE]; go_simp; (try with_reducible rfl))); (case p15 => (simp only [Act.put, sA, sB, sC]; try rfl)))
            (refine tY 4 52 ?v16 ?a16 rfl (by kernel_rfl) (by rfl) (fun _ _ _ h => h) ?y16 (by assumption) rfl ?p16 ?_; (case y16 => (intro w hSw; (try dsimp only at hSw); simp only [gA, gB, gC, gD, gE]; go_simp; (try with_reducible rfl))); (case p16 => (simp only [Act.put, sA, sB, sC]; try rfl)))
            (refine tY 5 53 ?v17 ?a17 rfl (by kernel_rfl) (by rfl) (fun _ _ _ h => h) ?y17 (by assumption) rfl ?p17 ?_; (case y17 => (intro w hSw; (try dsimp only at hSw); simp only [gA, gB, gC, gD, gE]; go_simp; (try with_reducible rfl))); (case p17 => (simp only [Act.put, sA, sB, sC]; try rfl)))
            (refine tY 6 54 ?v18 ?a18 rfl (by kernel_rfl) (by rfl) (fun _ _ _ h => h) ?y18 (by assumption) rfl ?p18 ?_; (case y18 => (intro w hSw; (try dsimp only at hSw); simp only [gA, gB, gC, gD, gE]; go_simp; (try with_reducible rfl))); (case p18 => (simp only [Act.put, sA, sB, sC]; try rfl)))
            refine step_one (i := 7) (by kernel_rfl) (fun K o ho hK => ?_)
            simp only [List.getElem?_toArray, List.getElem?_cons_succ, List.getElem?_cons_zero, Option.some.injEq] at ho
            subst ho
            go_simp
            refine (hKF.out _ HMX.out.drew).mono ?_
            rintro e w9 ⟨rfl, h9⟩
            have t9 : Touch [F] X.drew w9 := by
              split at h9
              · exact Touch.of_below h9 _
              · exact h9.2
            refine hK.out _ _ ?_ (fun hHeld => ?_)
            focus exact HST.out _ (((TX.out.mono (by simp)).drew).trans t9)
            clear hK K
            try simp only [Act.put, List.setIfInBounds_toArray, List.set_cons_zero, List.set_cons_succ]
            refine wpAnyH_done (by kernel_rfl) ?_ _
            have hB9 : Touch [F] w w9 := (Touch.of_below HBX.out [F]).drew.trans t9
            have hfinal : Q0 w9 := by
              split at h9
              · rename_i hsome
                refine HNO.out (fun i _ h2 => ?_) w9 (HBX.out.drew.trans (h9.mono (by have := HBX.out.size; exact this)))
                rw [HTK.out] at h2
                cases h2
                exact hsome
              · rename_i hnone
                have hnn : atM D (numK (fNumber f.body)) = none := by
                  cases hh : atM D (numK (fNumber f.body)) with
                  | none => rfl
                  | some u => rw [hh] at hnone; exact absurd rfl hnone
                exact HYES.out (fNumber f.body) (.agg #[.int .i64 (fNumber f.body : Int), .string (str (fName f.body)), .int .i64 (fLong f.body : Int), .int .u64 (fHash f.body : Int), .slice a (fSlices f.body).length cc]) w9 (by simp) HTK.out hnn ⟨a, cc, rfl, owns_touch (owns_touch HOX.out ((Touch.refl [] _).drew) (by simp)) t9 (by simpa using HFL.out)⟩ h9.1 hB9
            have HFINAL := hid_of hfinal
            clear hfinal h9 HNO HYES
            go_wp2_with fail
            go_end0
            exact ⟨rfl, HFINAL.out⟩
          · have e2 : ((hashL f.body : Int) == (x : Int)) = false := by rw [beq_eq_false_iff_ne]; intro e; exact c2 (by exact_mod_cast e)
            have hno : ∀ i, True → takesF ⟨sz, fl, h⟩ f = some i → (atM D (numK i)).isSome = true := by
              intro i _ h2
              exfalso
              unfold takesF at h2
              split at h2
              · rename_i hc
                exact c2 (by rw [HX.out]; exact hc.2.2.2)
              · cases h2
            have HQ := hid_of (HNO.out hno)
            clear hno HNO HYES
            clear c2
            go_quiet (refine Calls.quiet_of_same (hH.out _))
            go_wp2_with fail
            go_end0
            exact ⟨rfl, HQ.out _ (rdrewN HBW.out _)⟩
        · have e1 : ¬ ((fNumber f.body : Int) < (fl.length : Int)) := by omega
          have hno : ∀ i, True → takesF ⟨sz, fl, h⟩ f = some i → (atM D (numK i)).isSome = true := by
            intro i _ h2
            exfalso
            unfold takesF at h2
            split at h2
            · rename_i hc
              exact c1 hc.2.2.1
            · cases h2
          have HQ := hid_of (HNO.out hno)
          clear hno HNO HYES
          go_quiet (fail)
          go_wp2_with fail
          go_end0
          exact ⟨rfl, HQ.out _ (rdrewN HBW.out _)⟩
    focus
      simp only [List.getElem?_toArray, List.getElem?_cons_succ, List.getElem?_cons_zero, Option.some.injEq] at ho
      subst ho
      go_simp
      refine hK.out _ _ ?_ (fun hHeld => ?_)
      focus exact HS0.out _ ((Touch.refl [] w1).alloc _).drew
      clear hK K
      try simp only [Act.put, List.setIfInBounds_toArray, List.set_cons_zero, List.set_cons_succ]
      refine step_one (i := 7) (by kernel_rfl) (fun K o ho hK => ?_)
      simp only [List.getElem?_toArray, List.getElem?_cons_succ, List.getElem?_cons_zero, Option.some.injEq] at ho
      subst ho
      go_simp
      refine (hRF.out _).mono ?_
      rintro e w2 ⟨v, rfl, hown, hb2⟩
      obtain ⟨a, cc, rfl, -⟩ := ownsRow_rd hown
      have hsd : (w1.alloc (Obj.cells #[Value.int .i64 0, .string ⟨#[]⟩, .int .i64 0, .int .u64 0, .slice none 0 0] 143)).drew.heap.size = w1.heap.size + 1 := by simp
      have ht2 : Touch [] w1 w2 := (((Touch.refl [] w1).alloc _).drew).trans (Touch.of_below hb2 [])
      have hs2 : w1.heap.size + 1 ≤ w2.heap.size := by have := hb2.size; rw [hsd] at this; exact this
      have kg0 := ((Blk.new w1 #[Value.int .i64 0, .string ⟨#[]⟩, .int .i64 0, .int .u64 0, .slice none 0 0] 143).drew).touch (Touch.of_below hb2 []) (by simp)
      have c0 := (kg0 0 _ rfl).1
      have c1' := (kg0 1 _ rfl).1
      have c2' := (kg0 2 _ rfl).1
      have c3 := (kg0 3 _ rfl).1
      have c4 := (kg0 4 _ rfl).1
      have d0 := (kg0 0 _ rfl).2
      have d1 := (kg0 1 _ rfl).2
      have d2 := (kg0 2 _ rfl).2
      have d3 := (kg0 3 _ rfl).2
      have d4 := (kg0 4 _ rfl).2
      refine hK.out _ _ ?_ (fun hHeld => ?_)
      focus exact HS0.out _ ht2
      clear hK K
      try simp only [Act.put, List.setIfInBounds_toArray, List.set_cons_zero, List.set_cons_succ]
      (refine tY 8 10 ?v19 ?a19 rfl (by kernel_rfl) (by rfl) (fun _ _ _ h => h) ?y19 (by assumption) rfl ?p19 ?_; (case y19 => (intro w hSw; (try dsimp only at hSw); simp only [gA, gB, gC, gD, gE]; go_simp; (try with_reducible rfl))); (case p19 => (simp only [Act.put, sA, sB, sC]; try rfl)))
      (refine tY 9 19 ?v20 ?a20 rfl (by kernel_rfl) (by rfl) (fun _ _ _ h => h) ?y20 (by assumption) rfl ?p20 ?_; (case y20 => (intro w hSw; (try dsimp only at hSw); simp only [gA, gB, gC, gD, gE]; go_simp; (try with_reducible rfl))); (case p20 => (simp only [Act.put, sA, sB, sC]; try rfl)))
      (refine tY 10 20 ?v21 ?a21 rfl (by kernel_rfl) (by rfl) (fun _ _ _ h => h) ?y21 (by assumption) rfl ?p21 ?_; (case y21 => (intro w hSw; (try dsimp only at hSw); simp only [gA, gB, gC, gD, gE]; go_simp; (try with_reducible rfl))); (case p21 => (simp only [Act.put, sA, sB, sC]; try rfl)))
      refine step_one (i := 12) (by kernel_rfl) (fun K o ho hK => ?_)
      simp only [List.getElem?_toArray, List.getElem?_cons_succ, List.getElem?_cons_zero, Option.some.injEq] at ho
      subst ho
      go_simp
      have tW := (((((ht2.setCell (x := ⟨w1.heap.size, 0, none⟩) (.inr (Nat.le_refl _)) (.int .i64 (fNumber f.body : Int))).setCell (x := ⟨w1.heap.size, 1, none⟩) (.inr (Nat.le_refl _)) (.string (str (fName f.body)))).setCell (x := ⟨w1.heap.size, 2, none⟩) (.inr (Nat.le_refl _)) (.int .i64 (fLong f.body : Int))).setCell (x := ⟨w1.heap.size, 3, none⟩) (.inr (Nat.le_refl _)) (.int .u64 (fHash f.body : Int))).setCell (x := ⟨w1.heap.size, 4, none⟩) (.inr (Nat.le_refl _)) (.slice a (fSlices f.body).length cc))
      refine hK.out _ _ ?_ (fun hHeld => ?_)
      focus exact HS0.out _ tW
      clear hK K
      try simp only [Act.put, List.setIfInBounds_toArray, List.set_cons_zero, List.set_cons_succ]
      (refine tY 13 5 ?v22 ?a22 rfl (by kernel_rfl) (by rfl) (fun _ _ _ h => h) ?y22 (by assumption) rfl ?p22 ?_; (case y22 => (intro w hSw; (try dsimp only at hSw); simp only [gA, gB, gC, gD, gE]; go_simp; (try with_reducible rfl))); (case p22 => (simp only [Act.put, sA, sB, sC]; try rfl)))
      refine wpAnyH_done (by kernel_rfl) ?_ _
      have kg := (((((kg0.set 0 (.int .i64 (fNumber f.body : Int))).set 1 (.string (str (fName f.body)))).set 2 (.int .i64 (fLong f.body : Int))).set 3 (.int .u64 (fHash f.body : Int))).set 4 (.slice a (fSlices f.body).length cc))
      simp only [List.set_cons_succ, List.set_cons_zero] at kg
      have hoW : (((((w2.setCell ⟨w1.heap.size, 0, none⟩ (.int .i64 (fNumber f.body : Int))).setCell ⟨w1.heap.size, 1, none⟩ (.string (str (fName f.body)))).setCell ⟨w1.heap.size, 2, none⟩ (.int .i64 (fLong f.body : Int))).setCell ⟨w1.heap.size, 3, none⟩ (.int .u64 (fHash f.body : Int))).setCell ⟨w1.heap.size, 4, none⟩ (.slice a (fSlices f.body).length cc)).ownsRow w.heap.size 63 1 (.slice a (fSlices f.body).length cc) (fSlices f.body).length (u64V (fSlices f.body)) := ownsRow_base (by rw [hsd]; omega) (owns_touch hown ((((((Touch.refl [w1.heap.size] w2).setCell (x := ⟨w1.heap.size, 0, none⟩) (.inl (by simp)) (.int .i64 (fNumber f.body : Int))).setCell (x := ⟨w1.heap.size, 1, none⟩) (.inl (by simp)) (.string (str (fName f.body)))).setCell (x := ⟨w1.heap.size, 2, none⟩) (.inl (by simp)) (.int .i64 (fLong f.body : Int))).setCell (x := ⟨w1.heap.size, 3, none⟩) (.inl (by simp)) (.int .u64 (fHash f.body : Int))).setCell (x := ⟨w1.heap.size, 4, none⟩) (.inl (by simp)) (.slice a (fSlices f.body).length cc)) (by simp))
      obtain ⟨W, hW⟩ : ∃ W, W = ((((w2.setCell ⟨w1.heap.size, 0, none⟩ (.int .i64 (fNumber f.body : Int))).setCell ⟨w1.heap.size, 1, none⟩ (.string (str (fName f.body)))).setCell ⟨w1.heap.size, 2, none⟩ (.int .i64 (fLong f.body : Int))).setCell ⟨w1.heap.size, 3, none⟩ (.int .u64 (fHash f.body : Int))).setCell ⟨w1.heap.size, 4, none⟩ (.slice a (fSlices f.body).length cc) := ⟨_, rfl⟩
      obtain ⟨g, hg⟩ : ∃ g, g = w1.heap.size := ⟨_, rfl⟩
      clear hsd kg0 c0 c1' c2' c3 c4 d0 d1 d2 d3 d4
      rw [← hW] at kg
      rw [← hg] at kg
      rw [← hW] at tW hoW
      rw [← hW, ← hg]
      have hbW : Below w.heap.size w W := HBW1.out.trans (tW.below (by omega) (by simp))
      have HBW := hid_of hbW
      have HOW := hid_of hoW
      have hmW := HM.out.kept (Touch.of_below hbW []).grown_none (by simp)
      have HMW := hid_of hmW
      have HRW := hid_of (HRD.out.later (Nat.le_refl _) hbW)
      have kfW := HKF.out.touch tW (by simp)
      have kbW := HKB.out.touch tW (by simp)
      have g0 := (kg 0 _ rfl).1
      have g1 := (kg 1 _ rfl).1
      have g2 := (kg 2 _ rfl).1
      have g3 := (kg 3 _ rfl).1
      have g4 := (kg 4 _ rfl).1
      have p2 := (kfW 2 _ rfl).1
      have q3 := (kbW 3 _ rfl).1
      have q4 := (kbW 4 _ rfl).1
      have hnb : fNumber f.body < 256 := numL_byte _ (rdT_len _ _)
      clear hW hg tW hoW kg kfW kbW hHeld f2 b2 hbW hmW hown ht2 hs2 hb2 HS0 hRF HKF HKB HBW1 hs1 Z4 Z5
      go_wp2_with fail
      cases hr : fRight f.body sz with
      | false =>
        have hno : ∀ i, True → takesF ⟨sz, fl, h⟩ f = some i → (atM D (numK i)).isSome = true := by
          intro i _ h2
          exfalso
          unfold takesF at h2
          split at h2
          · rename_i hc
            rw [hc.2.1] at hr; cases hr
          · cases h2
        have HQ := hid_of (HNO.out hno)
        clear hno HNO HYES
        go_quiet (fail)
        go_wp2_with fail
        go_end0
        exact ⟨rfl, HQ.out _ (rdrewN HBW.out _)⟩
      | true =>
        by_cases c1 : fNumber f.body < fl.length
        · have e1 : (fNumber f.body : Int) < (fl.length : Int) := by omega
          have hH := hid_of (fun W => Hash_l f.body hf W)
          obtain ⟨x, hx⟩ : ∃ x, x = fl.getD (fNumber f.body) 0 := ⟨_, rfl⟩
          obtain ⟨bb, off, rfl, hcell⟩ := HRW.out (fNumber f.body) (.int .u64 (x : Int)) (by rw [hx]; simp [u64V, c1])
          have HX := hid_of hx
          clear hx
          have i0 : (0 : Int) ≤ (fNumber f.body : Int) := by omega
          by_cases c2 : hashL f.body = x
          · have e2 : ((hashL f.body : Int) == (x : Int)) = true := by rw [c2]; simp
            have htk : takesF ⟨sz, fl, h⟩ f = some (fNumber f.body) := by
              unfold takesF
              rw [if_pos ⟨hset, hr, c1, by rw [c2]; exact HX.out⟩]
            have HTK := hid_of htk
            have hKF := hid_of (fun W hW => keepFirstF_walk F c (fNumber f.body) D (fName f.body) (fNumber f.body) (fLong f.body) (fHash f.body) a (fSlices f.body).length cc (by omega) hc (fun v hv => HSH.out _ v hv) W hW)
            clear htk c2 hr
            go_quiet (refine Calls.quiet_of_same (hH.out _))
            go_wp2_with fail
            have nB : B ≠ F := map_ne HMW.out q4
            have nG : g ≠ F := map_ne HMW.out g0
            obtain ⟨X, hX⟩ : ∃ X, X = W.drewN nq := ⟨_, rfl⟩
            have tX : Touch [] W X := by rw [hX]; exact ⟨rfl, rfl, rfl, Nat.le_refl _, fun _ _ _ => rfl⟩
            rw [← hX]
            clear hX
            have hlB : B < W.heap.size := World.block_lt_of_cell? W _ q4
            have hlG : g < W.heap.size := World.block_lt_of_cell? W _ g0
            have hSt : ∀ Y : World, Touch [F] W Y → Y.cell? ⟨B, 4, none⟩ = some (.map (some F)) ∧ Y.cell? ⟨g, 0, none⟩ = some (.int .i64 (fNumber f.body : Int)) ∧ Y.cell? ⟨g, 1, none⟩ = some (.string (str (fName f.body))) ∧ Y.cell? ⟨g, 2, none⟩ = some (.int .i64 (fLong f.body : Int)) ∧ Y.cell? ⟨g, 3, none⟩ = some (.int .u64 (fHash f.body : Int)) ∧ Y.cell? ⟨g, 4, none⟩ = some (.slice a (fSlices f.body).length cc) := fun Y ht =>
              ⟨by rw [ht.cell (x := ⟨B, 4, none⟩) hlB (by simpa using nB)]; exact q4, by rw [ht.cell (x := ⟨g, 0, none⟩) hlG (by simpa using nG)]; exact g0, by rw [ht.cell (x := ⟨g, 1, none⟩) hlG (by simpa using nG)]; exact g1, by rw [ht.cell (x := ⟨g, 2, none⟩) hlG (by simpa using nG)]; exact g2, by rw [ht.cell (x := ⟨g, 3, none⟩) hlG (by simpa using nG)]; exact g3, by rw [ht.cell (x := ⟨g, 4, none⟩) hlG (by simpa using nG)]; exact g4⟩
            have TX := hid_of tX
            have HST := hid_of hSt
            have hmX := HMW.out.kept tX.grown_none (by simp)
            have HMX := hid_of hmX
            have HBX := hid_of (HBW.out.trans (tX.below (B := w.heap.size) (by have := HBW.out.size; omega) (by simp)))
            have HOX := hid_of (owns_touch HOW.out tX (by simp))
            have HFL : Hid (F < w.heap.size) := hid_of HM.out.lt
            clear tX hSt hmX hlB hlG q3 q4 g0 g1 g2 g3 g4 p2 hcell HBW HOW HMW HRW nB nG
            refine wp_region_held_drew (S := fun Y => Y.cell? ⟨B, 4, none⟩ = some (.map (some F)) ∧ Y.cell? ⟨g, 0, none⟩ = some (.int .i64 (fNumber f.body : Int)) ∧ Y.cell? ⟨g, 1, none⟩ = some (.string (str (fName f.body))) ∧ Y.cell? ⟨g, 2, none⟩ = some (.int .i64 (fLong f.body : Int)) ∧ Y.cell? ⟨g, 3, none⟩ = some (.int .u64 (fHash f.body : Int)) ∧ Y.cell? ⟨g, 4, none⟩ = some (.slice a (fSlices f.body).length cc)) (by kernel_rfl) (HST.out _ ((TX.out.mono (by simp)).drew)) (fun hHeld => ?_)
            (refine tY 0 48 ?v23 ?a23 rfl (by kernel_rfl) (by rfl) (fun _ _ _ h => h) ?y23 (by assumption) rfl ?p23 ?_; (case y23 => (intro w hSw; (try dsimp only at hSw); simp only [gA, gB, gC, gD, gE]; go_simp; (try with_reducible rfl))); (case p23 => (simp only [Act.put, sA, sB, sC]; try rfl)))
            (refine tY 1 49 ?v24 ?a24 rfl (by kernel_rfl) (by rfl) (fun _ _ _ h => h) ?y24 (by assumption) rfl ?p24 ?_; (case y24 => (intro w hSw; (try dsimp only at hSw); simp only [gA, gB, gC, gD, gE]; go_simp; (try with_reducible rfl))); (case p24 => (simp only [Act.put, sA, sB, sC]; try rfl)))
            (refine tY 2 50 ?v25 ?a25 rfl (by kernel_rfl) (by rfl) (fun _ _ _ h => h) ?y25 (by assumption) rfl ?p25 ?_; (case y25 => (intro w hSw; (try dsimp only at hSw); simp only [gA, gB, gC, gD, gE]; go_simp; (try with_reducible rfl))); (case p25 => (simp only [Act.put, sA, sB, sC]; try rfl)))
            (refine tY 3 51 ?v26 ?a26 rfl (by kernel_rfl) (by rfl) (fun _ _ _ h => h) ?y26 (by assumption) rfl ?p26 ?_; (case y26 => (intro w hSw; (try dsimp only at hSw); simp only [gA, gB, gC, gD, gE]; go_simp; (try with_reducible rfl))); (case p26 => (simp only [Act.put, sA, sB, sC]; try rfl)))
            (refine tY 4 52 ?v27 ?a27 rfl (by kernel_rfl) (by rfl) (fun _ _ _ h => h) ?y27 (by assumption) rfl ?p27 ?_; (case y27 => (intro w hSw; (try dsimp only at hSw); simp only [gA, gB, gC, gD, gE]; go_simp; (try with_reducible rfl))); (case p27 => (simp only [Act.put, sA, sB, sC]; try rfl)))
            (refine tY 5 53 ?v28 ?a28 rfl (by kernel_rfl) (by rfl) (fun _ _ _ h => h) ?y28 (by assumption) rfl ?p28 ?_; (case y28 => (intro w hSw; (try dsimp only at hSw); simp only [gA, gB, gC, gD, gE]; go_simp; (try with_reducible rfl))); (case p28 => (simp only [Act.put, sA, sB, sC]; try rfl)))
            (refine tY 6 54 ?v29 ?a29 rfl (by kernel_rfl) (by rfl) (fun _ _ _ h => h) ?y29 (by assumption) rfl ?p29 ?_; (case y29 => (intro w hSw; (try dsimp only at hSw); simp only [gA, gB, gC, gD, gE]; go_simp; (try with_reducible rfl))); (case p29 => (simp only [Act.put, sA, sB, sC]; try rfl)))
            refine step_one (i := 7) (by kernel_rfl) (fun K o ho hK => ?_)
            simp only [List.getElem?_toArray, List.getElem?_cons_succ, List.getElem?_cons_zero, Option.some.injEq] at ho
            subst ho
            go_simp
            refine (hKF.out _ HMX.out.drew).mono ?_
            rintro e w9 ⟨rfl, h9⟩
            have t9 : Touch [F] X.drew w9 := by
              split at h9
              · exact Touch.of_below h9 _
              · exact h9.2
            refine hK.out _ _ ?_ (fun hHeld => ?_)
            focus exact HST.out _ (((TX.out.mono (by simp)).drew).trans t9)
            clear hK K
            try simp only [Act.put, List.setIfInBounds_toArray, List.set_cons_zero, List.set_cons_succ]
            refine wpAnyH_done (by kernel_rfl) ?_ _
            have hB9 : Touch [F] w w9 := (Touch.of_below HBX.out [F]).drew.trans t9
            have hfinal : Q0 w9 := by
              split at h9
              · rename_i hsome
                refine HNO.out (fun i _ h2 => ?_) w9 (HBX.out.drew.trans (h9.mono (by have := HBX.out.size; exact this)))
                rw [HTK.out] at h2
                cases h2
                exact hsome
              · rename_i hnone
                have hnn : atM D (numK (fNumber f.body)) = none := by
                  cases hh : atM D (numK (fNumber f.body)) with
                  | none => rfl
                  | some u => rw [hh] at hnone; exact absurd rfl hnone
                exact HYES.out (fNumber f.body) (.agg #[.int .i64 (fNumber f.body : Int), .string (str (fName f.body)), .int .i64 (fLong f.body : Int), .int .u64 (fHash f.body : Int), .slice a (fSlices f.body).length cc]) w9 (by simp) HTK.out hnn ⟨a, cc, rfl, owns_touch (owns_touch HOX.out ((Touch.refl [] _).drew) (by simp)) t9 (by simpa using HFL.out)⟩ h9.1 hB9
            have HFINAL := hid_of hfinal
            clear hfinal h9 HNO HYES
            go_wp2_with fail
            go_end0
            exact ⟨rfl, HFINAL.out⟩
          · have e2 : ((hashL f.body : Int) == (x : Int)) = false := by rw [beq_eq_false_iff_ne]; intro e; exact c2 (by exact_mod_cast e)
            have hno : ∀ i, True → takesF ⟨sz, fl, h⟩ f = some i → (atM D (numK i)).isSome = true := by
              intro i _ h2
              exfalso
              unfold takesF at h2
              split at h2
              · rename_i hc
                exact c2 (by rw [HX.out]; exact hc.2.2.2)
              · cases h2
            have HQ := hid_of (HNO.out hno)
            clear hno HNO HYES
            clear c2
            go_quiet (refine Calls.quiet_of_same (hH.out _))
            go_wp2_with fail
            go_end0
            exact ⟨rfl, HQ.out _ (rdrewN HBW.out _)⟩
        · have e1 : ¬ ((fNumber f.body : Int) < (fl.length : Int)) := by omega
          have hno : ∀ i, True → takesF ⟨sz, fl, h⟩ f = some i → (atM D (numK i)).isSome = true := by
            intro i _ h2
            exfalso
            unfold takesF at h2
            split at h2
            · rename_i hc
              exact c1 hc.2.2.1
            · cases h2
          have HQ := hid_of (HNO.out hno)
          clear hno HNO HYES
          go_quiet (fail)
          go_wp2_with fail
          go_end0
          exact ⟨rfl, HQ.out _ (rdrewN HBW.out _)⟩
end Go.Proofs.YtonjphollmdicaaGreatDoor
