import Derived.Test.YtonjphollmdicaaGreatDoorB22
set_option maxRecDepth 100000
set_option maxHeartbeats 4000000
set_option linter.unusedSimpArgs false
namespace Go.Proofs.YtonjphollmdicaaGreatDoor
open Go.ChangeShapes Go.WideShapes Go.ChangeAt Go.RowKit
open Go.Maps
theorem G7 {w : World} {P : Program} {k : TypeId} {F n : Nat} {D : DataW Value} {a : Addr} {v : Value} (h : w.ownsMap P k CK F n D) (hc : w.cell? a = some v) : a.block ≠ F := by
  intro e
  obtain ⟨es, clock, hb, _⟩ := h
  rw [← e] at hb
  simp [World.cell?, hb] at hc
def IsFile (w : World) (base : Nat) (v : Value) (f : FoundL) : Prop := ∃ a c, v = .agg #[.int .i64 (Av f.body : Int), .string (str (AW f.body)), .int .i64 (Bh f.body : Int), .int .u64 (BQ f.body : Int), .slice a (Ai f.body).length c] ∧ w.ownsRow base 63 1 (.slice a (Ai f.body).length c) (Ai f.body).length (Cz (Ai f.body))
theorem IsFile.fi {w : World} {base : Nat} {v : Value} {f : FoundL} (h : IsFile w base v f) : R9 v := by
  obtain ⟨a, c, rfl, _⟩ := h
  exact ⟨_, _, _, _, _, _, _, rfl⟩
theorem Gr (B : Nat) (kn : Bool) (h sz : Nat) (fl : List Nat) (av : Option Addr) (cp F E c : Nat) (D : DataW Value) (f : FoundL) (hf : f.body.length ≤ 1000000) (hsz0 : kn = true → 2 ≤ sz ∧ sz ≤ 32) (hc : c < 1000000) (w : World)
    (hB : Blk w B (Bb kn h sz (.slice av fl.length cp) F E)) (hrd : Rd w av (Cz fl)) (hm : w.ownsMap Tryz.prog 3 CK F c D) (hsh : ∀ n v, atM D (Bo n) = some v → R9 v) :
    Calls Tryz.prog 186 #[.pointer (some ⟨B, 0, none⟩), CC f.kind.toNat f.set f.body] w fun e w' => e = .returned (.tuple #[]) ∧
      ((Below w.heap.size w w' ∧ (∀ i, kn = true → AZ ⟨sz, fl, h⟩ f = some i → (atM D (Bo i)).isSome = true)) ∨
       (∃ i v, kn = true ∧ AZ ⟨sz, fl, h⟩ f = some i ∧ atM D (Bo i) = none ∧ IsFile w' w.heap.size v f ∧ w'.ownsMap Tryz.prog 3 CK F (c + 1) (D.put (Bo i) (.held v)) ∧ Touch [F] w w')) := by
  have hBlt : B < w.heap.size := hB.lt (by simp [Bb])
  obtain ⟨Q0, hQ0⟩ : ∃ Q : World → Prop, Q = (fun w' => (Below w.heap.size w w' ∧ (∀ i, kn = true → AZ ⟨sz, fl, h⟩ f = some i → (atM D (Bo i)).isSome = true)) ∨
       (∃ i v, kn = true ∧ AZ ⟨sz, fl, h⟩ f = some i ∧ atM D (Bo i) = none ∧ IsFile w' w.heap.size v f ∧ w'.ownsMap Tryz.prog 3 CK F (c + 1) (D.put (Bo i) (.held v)) ∧ Touch [F] w w')) := ⟨_, rfl⟩
  have hpost : ∀ (e : Ending) (w' : World), (e = .returned (.tuple #[]) ∧ Q0 w') → (e = .returned (.tuple #[]) ∧ ((Below w.heap.size w w' ∧ (∀ i, kn = true → AZ ⟨sz, fl, h⟩ f = some i → (atM D (Bo i)).isSome = true)) ∨
       (∃ i v, kn = true ∧ AZ ⟨sz, fl, h⟩ f = some i ∧ atM D (Bo i) = none ∧ IsFile w' w.heap.size v f ∧ w'.ownsMap Tryz.prog 3 CK F (c + 1) (D.put (Bo i) (.held v)) ∧ Touch [F] w w'))) := by
    intro e w' hh
    rw [hQ0] at hh
    exact hh
  refine Calls.mono ?_ hpost
  have HNO : Hid ((∀ i, kn = true → AZ ⟨sz, fl, h⟩ f = some i → (atM D (Bo i)).isSome = true) → ∀ w', Below w.heap.size w w' → Q0 w') := Aa (fun h1 w' h2 => by rw [hQ0]; exact .inl ⟨h2, h1⟩)
  have HYES : Hid (∀ i v w', kn = true → AZ ⟨sz, fl, h⟩ f = some i → atM D (Bo i) = none → IsFile w' w.heap.size v f → w'.ownsMap Tryz.prog 3 CK F (c + 1) (D.put (Bo i) (.held v)) → Touch [F] w w' → Q0 w') := Aa (fun i v w' h1 h2 h3 h4 h5 h6 => by rw [hQ0]; exact .inr ⟨i, v, h1, h2, h3, h4, h5, h6⟩)
  clear hpost hQ0
  have HM := Aa hm
  have HB := Aa hB
  have HSH := Aa hsh
  have HRD := Aa hrd
  have hO := Aa (fun W hW => LD B kn h sz (.slice av fl.length cp) F E f W hW)
  unfold CC
  clear hm hB hsh hrd
  unfold CC at hO
  go_enter Tryz.func186, Tryz.ntmps186
  go_wp2_with fail
  refine (hO.out _ (HB.out.alloc _)).mono ?_
  rintro e w1 ⟨rfl, hb1⟩
  have hs1 : w.heap.size + 1 ≤ w1.heap.size := by have := hb1.size; simpa using this
  have hbw1 : Below w.heap.size w w1 := Below.trans ((Below.refl w.heap.size w).alloc (Nat.le_refl _) _) (hb1.mono (by simp))
  have kf := (Blk.new w #[Value.int IntKind.u8 (f.kind.toNat : Int), Value.int IntKind.u64 (f.set : Int), Value.string (str f.body)] 181).touch (Touch.of_below hb1 []) (by simp)
  have kb := HB.out.touch (Touch.of_below hbw1 []) (by simp)
  clear hb1
  cases ho : (kn && decide (f.set = h)) with
  | false =>
    have hno : ∀ i, kn = true → AZ ⟨sz, fl, h⟩ f = some i → (atM D (Bo i)).isSome = true := by
      intro i h1 h2
      exfalso
      unfold AZ at h2
      split at h2
      · rename_i hc
        rw [h1, decide_eq_true hc.1] at ho
        cases ho
      · cases h2
    have HQ := Aa (HNO.out hno w1 hbw1)
    clear hno HNO HYES hbw1 kf kb
    go_wp2_with fail
    refine bodyPost_ret (v := .tuple #[]) (by simp [results, Tryz.results186, go_sem]) rfl ?_
    exact ⟨rfl, HQ.out⟩
  | true =>
    simp only [Bool.and_eq_true, decide_eq_true_eq] at ho
    obtain ⟨rfl, hset⟩ := ho
    obtain ⟨z1, z2⟩ := hsz0 rfl
    have b2 := (kb 2 _ rfl).1
    have f2 := (kf 2 _ rfl).1
    have hRF := Aa (fun W => Kl f.body sz hf z1 z2 W)
    clear hsz0
    have HKF := Aa kf
    have HBW1 := Aa hbw1
    have HKB := Aa kb
    have z4 : ∀ o, (w1.alloc o).cell? ⟨B, 2, none⟩ = some (.int .i64 (sz : Int)) := fun o => (kb.alloc o 2 _ rfl).1
    have z5 : ∀ o, (w1.alloc o).cell? ⟨w.heap.size, 2, none⟩ = some (.string (str f.body)) := fun o => (kf.alloc o 2 _ rfl).1
    have Z4 := Aa z4
    have Z5 := Aa z5
    clear kf kb hbw1 z4 z5
    go_wp2_with fail
    have S0 : ∀ X : World, Touch [] w1 X → X.cell? ⟨w.heap.size, 2, none⟩ = some (.string (str f.body)) ∧ X.cell? ⟨B, 2, none⟩ = some (.int .i64 (sz : Int)) := fun X hX =>
      ⟨(HKF.out.touch hX (by simp) 2 _ rfl).1, (HKB.out.touch hX (by simp) 2 _ rfl).1⟩
    have HS0 := Aa S0
    clear S0
    refine wp_region_held_drew (S := fun X => X.cell? ⟨w.heap.size, 2, none⟩ = some (.string (str f.body)) ∧ X.cell? ⟨B, 2, none⟩ = some (.int .i64 (sz : Int))) (by kernel_rfl) ⟨f2, b2⟩ (fun hHeld => ?_)
    refine tY 0 11 ?_
    refine tY 1 12 ?_
    refine tY 2 13 ?_
    refine tY 3 14 ?_
    refine tY 4 15 ?_
    refine tY 5 16 ?_
    refine tY 6 17 ?_
    refine EK (i := 7) (j := 11) (by kernel_rfl) (fun K o ho hK => ?_) (fun K o ho hK => ?_)
    focus
      simp only [gA, gB, gC, gE] at ho
      subst ho
      go_simp
      refine (hRF.out _).mono ?_
      rintro e w2 ⟨v, rfl, hown, hb2⟩
      obtain ⟨a, cc, rfl, -⟩ := Aw hown
      have ht2 : Touch [] w1 w2 := (Touch.refl [] w1).drew.trans (Touch.of_below hb2 [])
      have hs2 : w1.heap.size ≤ w2.heap.size := ht2.size
      refine hK.out _ _ ?_ (fun hHeld => ?_)
      focus exact HS0.out _ ht2
      clear hK K
      try simp only [Act.put, sA, sB, sC]
      refine tY 8 10 ?_
      refine tY 9 19 ?_
      refine tY 10 20 ?_
      refine Ah (i := 11) (by kernel_rfl) (fun K o ho hK => ?_)
      simp only [gA, gB, gC, gE] at ho
      subst ho
      go_simp
      refine hK.out _ _ ?_ (fun hHeld => ?_)
      focus exact HS0.out _ (ht2.alloc _)
      clear hK K
      try simp only [Act.put, sA, sB, sC]
      refine Ah (i := 12) (by kernel_rfl) (fun K o ho hK => ?_)
      simp only [gA, gB, gC, gE] at ho
      subst ho
      go_simp
      refine hK.out _ _ ?_ (fun hHeld => ?_)
      focus exact HS0.out _ (ht2.alloc _)
      clear hK K
      try simp only [Act.put, sA, sB, sC]
      refine tY 13 5 ?_
      refine wpAnyH_done (by kernel_rfl) ?_ _
      have tW := ht2.alloc (Obj.cells #[Value.int .i64 (Av f.body : Int), .string (str (AW f.body)), .int .i64 (Bh f.body : Int), .int .u64 (BQ f.body : Int), .slice a (Ai f.body).length cc] 143)
      have hoW : (w2.alloc (Obj.cells #[Value.int .i64 (Av f.body : Int), .string (str (AW f.body)), .int .i64 (Bh f.body : Int), .int .u64 (BQ f.body : Int), .slice a (Ai f.body).length cc] 143)).ownsRow w.heap.size 63 1 (.slice a (Ai f.body).length cc) (Ai f.body).length (Cz (Ai f.body)) := (Ad (by have : w1.drew.heap.size = w1.heap.size := rfl; omega) hown).alloc _
      have kg := Blk.new w2 #[Value.int .i64 (Av f.body : Int), .string (str (AW f.body)), .int .i64 (Bh f.body : Int), .int .u64 (BQ f.body : Int), .slice a (Ai f.body).length cc] 143
      obtain ⟨W, hW⟩ : ∃ W, W = w2.alloc (Obj.cells #[Value.int .i64 (Av f.body : Int), .string (str (AW f.body)), .int .i64 (Bh f.body : Int), .int .u64 (BQ f.body : Int), .slice a (Ai f.body).length cc] 143) := ⟨_, rfl⟩
      obtain ⟨g, hg⟩ : ∃ g, g = w2.heap.size := ⟨_, rfl⟩
      rw [← hW, ← hg] at kg
      rw [← hW] at tW hoW
      rw [← hW, ← hg]
      have hbW : Below w.heap.size w W := HBW1.out.trans (tW.below (by omega) (by simp))
      have HBW := Aa hbW
      have HOW := Aa hoW
      have hmW := HM.out.kept (Touch.of_below hbW []).grown_none (by simp)
      have HMW := Aa hmW
      have HRW := Aa (HRD.out.later (Nat.le_refl _) hbW)
      have kfW := HKF.out.touch tW (by simp)
      have kbW := HKB.out.touch tW (by simp)
      have g0 := (kg 0 _ rfl).1
      have g1 := (kg 1 _ rfl).1
      have g2 := (kg 2 _ rfl).1
      have g3 := (kg 3 _ rfl).1
      have g4 := (kg 4 _ rfl).1
      have p2 := (kfW 2 _ rfl).1
      have q3 := (kbW 3 _ rfl).1
      have q4 := (kbW 4 _ rfl).1
      have hnb : Av f.body < 256 := HU _ (Dl _ _)
      clear hW hg tW hoW kg kfW kbW hHeld f2 b2 hbW hmW hown ht2 hs2 hb2 HS0 hRF HKF HKB HBW1 hs1 Z4 Z5
      go_wp2_with fail
      cases hr : D9 f.body sz with
      | false =>
        have hno : ∀ i, True → AZ ⟨sz, fl, h⟩ f = some i → (atM D (Bo i)).isSome = true := by
          intro i _ h2
          exfalso
          unfold AZ at h2
          split at h2
          · rename_i hc
            rw [hc.2.1] at hr; cases hr
          · cases h2
        have HQ := Aa (HNO.out hno)
        clear hno HNO HYES
        go_quiet (fail)
        go_wp2_with fail
        go_end0
        exact ⟨rfl, HQ.out _ (BJ HBW.out _)⟩
      | true =>
        by_cases c1 : Av f.body < fl.length
        · have e1 : (Av f.body : Int) < (fl.length : Int) := by omega
          have hH := Aa (fun W => FR f.body hf W)
          obtain ⟨x, hx⟩ : ∃ x, x = fl.getD (Av f.body) 0 := ⟨_, rfl⟩
          obtain ⟨bb, off, rfl, hcell⟩ := HRW.out (Av f.body) (.int .u64 (x : Int)) (by rw [hx]; simp [Cz, c1])
          have HX := Aa hx
          clear hx
          have i0 : (0 : Int) ≤ (Av f.body : Int) := by omega
          by_cases c2 : AC f.body = x
          · have e2 : ((AC f.body : Int) == (x : Int)) = true := by rw [c2]; simp
            have htk : AZ ⟨sz, fl, h⟩ f = some (Av f.body) := by
              unfold AZ
              rw [if_pos ⟨hset, hr, c1, by rw [c2]; exact HX.out⟩]
            have HTK := Aa htk
            have hKF := Aa (fun W hW => Fs F c (Av f.body) D (AW f.body) (Av f.body) (Bh f.body) (BQ f.body) a (Ai f.body).length cc (by omega) hc (fun v hv => HSH.out _ v hv) W hW)
            clear htk c2 hr
            go_quiet (refine Calls.quiet_of_same (hH.out _))
            go_wp2_with fail
            have nB : B ≠ F := G7 HMW.out q4
            have nG : g ≠ F := G7 HMW.out g0
            obtain ⟨X, hX⟩ : ∃ X, X = W.drewN nq := ⟨_, rfl⟩
            have tX : Touch [] W X := by rw [hX]; exact ⟨rfl, rfl, rfl, Nat.le_refl _, fun _ _ _ => rfl⟩
            rw [← hX]
            clear hX
            have hlB : B < W.heap.size := World.block_lt_of_cell? W _ q4
            have hlG : g < W.heap.size := World.block_lt_of_cell? W _ g0
            have hSt : ∀ Y : World, Touch [F] W Y → Y.cell? ⟨B, 4, none⟩ = some (.map (some F)) ∧ Y.cell? ⟨g, 0, none⟩ = some (.int .i64 (Av f.body : Int)) ∧ Y.cell? ⟨g, 1, none⟩ = some (.string (str (AW f.body))) ∧ Y.cell? ⟨g, 2, none⟩ = some (.int .i64 (Bh f.body : Int)) ∧ Y.cell? ⟨g, 3, none⟩ = some (.int .u64 (BQ f.body : Int)) ∧ Y.cell? ⟨g, 4, none⟩ = some (.slice a (Ai f.body).length cc) := fun Y ht =>
              ⟨by rw [ht.cell (x := ⟨B, 4, none⟩) hlB (by simpa using nB)]; exact q4, by rw [ht.cell (x := ⟨g, 0, none⟩) hlG (by simpa using nG)]; exact g0, by rw [ht.cell (x := ⟨g, 1, none⟩) hlG (by simpa using nG)]; exact g1, by rw [ht.cell (x := ⟨g, 2, none⟩) hlG (by simpa using nG)]; exact g2, by rw [ht.cell (x := ⟨g, 3, none⟩) hlG (by simpa using nG)]; exact g3, by rw [ht.cell (x := ⟨g, 4, none⟩) hlG (by simpa using nG)]; exact g4⟩
            have TX := Aa tX
            have HST := Aa hSt
            have hmX := HMW.out.kept tX.grown_none (by simp)
            have HMX := Aa hmX
            have HBX := Aa (HBW.out.trans (tX.below (B := w.heap.size) (by have := HBW.out.size; omega) (by simp)))
            have HOX := Aa (Ac HOW.out tX (by simp))
            have HFL : Hid (F < w.heap.size) := Aa HM.out.lt
            clear tX hSt hmX hlB hlG q3 q4 g0 g1 g2 g3 g4 p2 hcell HBW HOW HMW HRW nB nG
            refine wp_region_held_drew (S := fun Y => Y.cell? ⟨B, 4, none⟩ = some (.map (some F)) ∧ Y.cell? ⟨g, 0, none⟩ = some (.int .i64 (Av f.body : Int)) ∧ Y.cell? ⟨g, 1, none⟩ = some (.string (str (AW f.body))) ∧ Y.cell? ⟨g, 2, none⟩ = some (.int .i64 (Bh f.body : Int)) ∧ Y.cell? ⟨g, 3, none⟩ = some (.int .u64 (BQ f.body : Int)) ∧ Y.cell? ⟨g, 4, none⟩ = some (.slice a (Ai f.body).length cc)) (by kernel_rfl) (HST.out _ ((TX.out.mono (by simp)).drew)) (fun hHeld => ?_)
            refine tY 0 48 ?_
            refine tY 1 49 ?_
            refine tY 2 50 ?_
            refine tY 3 51 ?_
            refine tY 4 52 ?_
            refine tY 5 53 ?_
            refine tY 6 54 ?_
            refine Ah (i := 7) (by kernel_rfl) (fun K o ho hK => ?_)
            simp only [gA, gB, gC, gE] at ho
            subst ho
            go_simp
            refine (hKF.out _ HMX.out.drew).mono ?_
            rintro e w9 ⟨rfl, h9⟩
            have t9 : Touch [F] X.drew w9 := by
              split at h9
              · exact Touch.of_below h9 _
              · exact h9.2
            refine hK.out _ _ ?_ (fun hHeld => ?_)
            focus exact HST.out _ (((TX.out.mono (by simp)).drew).trans t9)
            clear hK K
            try simp only [Act.put, sA, sB, sC]
            refine wpAnyH_done (by kernel_rfl) ?_ _
            have hB9 : Touch [F] w w9 := (Touch.of_below HBX.out [F]).drew.trans t9
            have hfinal : Q0 w9 := by
              split at h9
              · rename_i hsome
                refine HNO.out (fun i _ h2 => ?_) w9 (HBX.out.drew.trans (h9.mono (by have := HBX.out.size; exact this)))
                rw [HTK.out] at h2
                cases h2
                exact hsome
              · rename_i hnone
                have hnn : atM D (Bo (Av f.body)) = none := by
                  cases hh : atM D (Bo (Av f.body)) with
                  | none => rfl
                  | some u => rw [hh] at hnone; exact absurd rfl hnone
                exact HYES.out (Av f.body) (.agg #[.int .i64 (Av f.body : Int), .string (str (AW f.body)), .int .i64 (Bh f.body : Int), .int .u64 (BQ f.body : Int), .slice a (Ai f.body).length cc]) w9 (by simp) HTK.out hnn ⟨a, cc, rfl, Ac (Ac HOX.out ((Touch.refl [] _).drew) (by simp)) t9 (by simpa using HFL.out)⟩ h9.1 hB9
            have HFINAL := Aa hfinal
            clear hfinal h9 HNO HYES
            go_wp2_with fail
            go_end0
            exact ⟨rfl, HFINAL.out⟩
          · have e2 : ((AC f.body : Int) == (x : Int)) = false := by rw [beq_eq_false_iff_ne]; intro e; exact c2 (by exact_mod_cast e)
            have hno : ∀ i, True → AZ ⟨sz, fl, h⟩ f = some i → (atM D (Bo i)).isSome = true := by
              intro i _ h2
              exfalso
              unfold AZ at h2
              split at h2
              · rename_i hc
                exact c2 (by rw [HX.out]; exact hc.2.2.2)
              · cases h2
            have HQ := Aa (HNO.out hno)
            clear hno HNO HYES
            clear c2
            go_quiet (refine Calls.quiet_of_same (hH.out _))
            go_wp2_with fail
            go_end0
            exact ⟨rfl, HQ.out _ (BJ HBW.out _)⟩
        · have e1 : ¬ ((Av f.body : Int) < (fl.length : Int)) := by omega
          have hno : ∀ i, True → AZ ⟨sz, fl, h⟩ f = some i → (atM D (Bo i)).isSome = true := by
            intro i _ h2
            exfalso
            unfold AZ at h2
            split at h2
            · rename_i hc
              exact c1 hc.2.2.1
            · cases h2
          have HQ := Aa (HNO.out hno)
          clear hno HNO HYES
          go_quiet (fail)
          go_wp2_with fail
          go_end0
          exact ⟨rfl, HQ.out _ (BJ HBW.out _)⟩
    focus
      simp only [gA, gB, gC, gE] at ho
      subst ho
      go_simp
      refine hK.out _ _ ?_ (fun hHeld => ?_)
      focus exact HS0.out _ ((Touch.refl [] w1).alloc _).drew
      clear hK K
      try simp only [Act.put, sA, sB, sC]
      refine Ah (i := 7) (by kernel_rfl) (fun K o ho hK => ?_)
      simp only [gA, gB, gC, gE] at ho
      subst ho
      go_simp
      refine (hRF.out _).mono ?_
      rintro e w2 ⟨v, rfl, hown, hb2⟩
      obtain ⟨a, cc, rfl, -⟩ := Aw hown
      have hsd : (w1.alloc (Obj.cells #[Value.int .i64 0, .string ⟨#[]⟩, .int .i64 0, .int .u64 0, .slice none 0 0] 143)).drew.heap.size = w1.heap.size + 1 := by simp
      have ht2 : Touch [] w1 w2 := (((Touch.refl [] w1).alloc _).drew).trans (Touch.of_below hb2 [])
      have hs2 : w1.heap.size + 1 ≤ w2.heap.size := by have := hb2.size; rw [hsd] at this; exact this
      have kg0 := ((Blk.new w1 #[Value.int .i64 0, .string ⟨#[]⟩, .int .i64 0, .int .u64 0, .slice none 0 0] 143).drew).touch (Touch.of_below hb2 []) (by simp)
      have c0 := (kg0 0 _ rfl).1
      have c1' := (kg0 1 _ rfl).1
      have c2' := (kg0 2 _ rfl).1
      have c3 := (kg0 3 _ rfl).1
      have c4 := (kg0 4 _ rfl).1
      have d0 := (kg0 0 _ rfl).2
      have d1 := (kg0 1 _ rfl).2
      have d2 := (kg0 2 _ rfl).2
      have d3 := (kg0 3 _ rfl).2
      have d4 := (kg0 4 _ rfl).2
      refine hK.out _ _ ?_ (fun hHeld => ?_)
      focus exact HS0.out _ ht2
      clear hK K
      try simp only [Act.put, sA, sB, sC]
      refine tY 8 10 ?_
      refine tY 9 19 ?_
      refine tY 10 20 ?_
      refine Ah (i := 12) (by kernel_rfl) (fun K o ho hK => ?_)
      simp only [gA, gB, gC, gE] at ho
      subst ho
      go_simp
      have tW := (((((ht2.setCell (x := ⟨w1.heap.size, 0, none⟩) (.inr (Nat.le_refl _)) (.int .i64 (Av f.body : Int))).setCell (x := ⟨w1.heap.size, 1, none⟩) (.inr (Nat.le_refl _)) (.string (str (AW f.body)))).setCell (x := ⟨w1.heap.size, 2, none⟩) (.inr (Nat.le_refl _)) (.int .i64 (Bh f.body : Int))).setCell (x := ⟨w1.heap.size, 3, none⟩) (.inr (Nat.le_refl _)) (.int .u64 (BQ f.body : Int))).setCell (x := ⟨w1.heap.size, 4, none⟩) (.inr (Nat.le_refl _)) (.slice a (Ai f.body).length cc))
      refine hK.out _ _ ?_ (fun hHeld => ?_)
      focus exact HS0.out _ tW
      clear hK K
      try simp only [Act.put, sA, sB, sC]
      refine tY 13 5 ?_
      refine wpAnyH_done (by kernel_rfl) ?_ _
      have kg := (((((kg0.set 0 (.int .i64 (Av f.body : Int))).set 1 (.string (str (AW f.body)))).set 2 (.int .i64 (Bh f.body : Int))).set 3 (.int .u64 (BQ f.body : Int))).set 4 (.slice a (Ai f.body).length cc))
      simp only [List.set_cons_succ, List.set_cons_zero] at kg
      have hoW : (((((w2.setCell ⟨w1.heap.size, 0, none⟩ (.int .i64 (Av f.body : Int))).setCell ⟨w1.heap.size, 1, none⟩ (.string (str (AW f.body)))).setCell ⟨w1.heap.size, 2, none⟩ (.int .i64 (Bh f.body : Int))).setCell ⟨w1.heap.size, 3, none⟩ (.int .u64 (BQ f.body : Int))).setCell ⟨w1.heap.size, 4, none⟩ (.slice a (Ai f.body).length cc)).ownsRow w.heap.size 63 1 (.slice a (Ai f.body).length cc) (Ai f.body).length (Cz (Ai f.body)) := Ad (by rw [hsd]; omega) (Ac hown ((((((Touch.refl [w1.heap.size] w2).setCell (x := ⟨w1.heap.size, 0, none⟩) (.inl (by simp)) (.int .i64 (Av f.body : Int))).setCell (x := ⟨w1.heap.size, 1, none⟩) (.inl (by simp)) (.string (str (AW f.body)))).setCell (x := ⟨w1.heap.size, 2, none⟩) (.inl (by simp)) (.int .i64 (Bh f.body : Int))).setCell (x := ⟨w1.heap.size, 3, none⟩) (.inl (by simp)) (.int .u64 (BQ f.body : Int))).setCell (x := ⟨w1.heap.size, 4, none⟩) (.inl (by simp)) (.slice a (Ai f.body).length cc)) (by simp))
      obtain ⟨W, hW⟩ : ∃ W, W = ((((w2.setCell ⟨w1.heap.size, 0, none⟩ (.int .i64 (Av f.body : Int))).setCell ⟨w1.heap.size, 1, none⟩ (.string (str (AW f.body)))).setCell ⟨w1.heap.size, 2, none⟩ (.int .i64 (Bh f.body : Int))).setCell ⟨w1.heap.size, 3, none⟩ (.int .u64 (BQ f.body : Int))).setCell ⟨w1.heap.size, 4, none⟩ (.slice a (Ai f.body).length cc) := ⟨_, rfl⟩
      obtain ⟨g, hg⟩ : ∃ g, g = w1.heap.size := ⟨_, rfl⟩
      clear hsd kg0 c0 c1' c2' c3 c4 d0 d1 d2 d3 d4
      rw [← hW] at kg
      rw [← hg] at kg
      rw [← hW] at tW hoW
      rw [← hW, ← hg]
      have hbW : Below w.heap.size w W := HBW1.out.trans (tW.below (by omega) (by simp))
      have HBW := Aa hbW
      have HOW := Aa hoW
      have hmW := HM.out.kept (Touch.of_below hbW []).grown_none (by simp)
      have HMW := Aa hmW
      have HRW := Aa (HRD.out.later (Nat.le_refl _) hbW)
      have kfW := HKF.out.touch tW (by simp)
      have kbW := HKB.out.touch tW (by simp)
      have g0 := (kg 0 _ rfl).1
      have g1 := (kg 1 _ rfl).1
      have g2 := (kg 2 _ rfl).1
      have g3 := (kg 3 _ rfl).1
      have g4 := (kg 4 _ rfl).1
      have p2 := (kfW 2 _ rfl).1
      have q3 := (kbW 3 _ rfl).1
      have q4 := (kbW 4 _ rfl).1
      have hnb : Av f.body < 256 := HU _ (Dl _ _)
      clear hW hg tW hoW kg kfW kbW hHeld f2 b2 hbW hmW hown ht2 hs2 hb2 HS0 hRF HKF HKB HBW1 hs1 Z4 Z5
      go_wp2_with fail
      cases hr : D9 f.body sz with
      | false =>
        have hno : ∀ i, True → AZ ⟨sz, fl, h⟩ f = some i → (atM D (Bo i)).isSome = true := by
          intro i _ h2
          exfalso
          unfold AZ at h2
          split at h2
          · rename_i hc
            rw [hc.2.1] at hr; cases hr
          · cases h2
        have HQ := Aa (HNO.out hno)
        clear hno HNO HYES
        go_quiet (fail)
        go_wp2_with fail
        go_end0
        exact ⟨rfl, HQ.out _ (BJ HBW.out _)⟩
      | true =>
        by_cases c1 : Av f.body < fl.length
        · have e1 : (Av f.body : Int) < (fl.length : Int) := by omega
          have hH := Aa (fun W => FR f.body hf W)
          obtain ⟨x, hx⟩ : ∃ x, x = fl.getD (Av f.body) 0 := ⟨_, rfl⟩
          obtain ⟨bb, off, rfl, hcell⟩ := HRW.out (Av f.body) (.int .u64 (x : Int)) (by rw [hx]; simp [Cz, c1])
          have HX := Aa hx
          clear hx
          have i0 : (0 : Int) ≤ (Av f.body : Int) := by omega
          by_cases c2 : AC f.body = x
          · have e2 : ((AC f.body : Int) == (x : Int)) = true := by rw [c2]; simp
            have htk : AZ ⟨sz, fl, h⟩ f = some (Av f.body) := by
              unfold AZ
              rw [if_pos ⟨hset, hr, c1, by rw [c2]; exact HX.out⟩]
            have HTK := Aa htk
            have hKF := Aa (fun W hW => Fs F c (Av f.body) D (AW f.body) (Av f.body) (Bh f.body) (BQ f.body) a (Ai f.body).length cc (by omega) hc (fun v hv => HSH.out _ v hv) W hW)
            clear htk c2 hr
            go_quiet (refine Calls.quiet_of_same (hH.out _))
            go_wp2_with fail
            have nB : B ≠ F := G7 HMW.out q4
            have nG : g ≠ F := G7 HMW.out g0
            obtain ⟨X, hX⟩ : ∃ X, X = W.drewN nq := ⟨_, rfl⟩
            have tX : Touch [] W X := by rw [hX]; exact ⟨rfl, rfl, rfl, Nat.le_refl _, fun _ _ _ => rfl⟩
            rw [← hX]
            clear hX
            have hlB : B < W.heap.size := World.block_lt_of_cell? W _ q4
            have hlG : g < W.heap.size := World.block_lt_of_cell? W _ g0
            have hSt : ∀ Y : World, Touch [F] W Y → Y.cell? ⟨B, 4, none⟩ = some (.map (some F)) ∧ Y.cell? ⟨g, 0, none⟩ = some (.int .i64 (Av f.body : Int)) ∧ Y.cell? ⟨g, 1, none⟩ = some (.string (str (AW f.body))) ∧ Y.cell? ⟨g, 2, none⟩ = some (.int .i64 (Bh f.body : Int)) ∧ Y.cell? ⟨g, 3, none⟩ = some (.int .u64 (BQ f.body : Int)) ∧ Y.cell? ⟨g, 4, none⟩ = some (.slice a (Ai f.body).length cc) := fun Y ht =>
              ⟨by rw [ht.cell (x := ⟨B, 4, none⟩) hlB (by simpa using nB)]; exact q4, by rw [ht.cell (x := ⟨g, 0, none⟩) hlG (by simpa using nG)]; exact g0, by rw [ht.cell (x := ⟨g, 1, none⟩) hlG (by simpa using nG)]; exact g1, by rw [ht.cell (x := ⟨g, 2, none⟩) hlG (by simpa using nG)]; exact g2, by rw [ht.cell (x := ⟨g, 3, none⟩) hlG (by simpa using nG)]; exact g3, by rw [ht.cell (x := ⟨g, 4, none⟩) hlG (by simpa using nG)]; exact g4⟩
            have TX := Aa tX
            have HST := Aa hSt
            have hmX := HMW.out.kept tX.grown_none (by simp)
            have HMX := Aa hmX
            have HBX := Aa (HBW.out.trans (tX.below (B := w.heap.size) (by have := HBW.out.size; omega) (by simp)))
            have HOX := Aa (Ac HOW.out tX (by simp))
            have HFL : Hid (F < w.heap.size) := Aa HM.out.lt
            clear tX hSt hmX hlB hlG q3 q4 g0 g1 g2 g3 g4 p2 hcell HBW HOW HMW HRW nB nG
            refine wp_region_held_drew (S := fun Y => Y.cell? ⟨B, 4, none⟩ = some (.map (some F)) ∧ Y.cell? ⟨g, 0, none⟩ = some (.int .i64 (Av f.body : Int)) ∧ Y.cell? ⟨g, 1, none⟩ = some (.string (str (AW f.body))) ∧ Y.cell? ⟨g, 2, none⟩ = some (.int .i64 (Bh f.body : Int)) ∧ Y.cell? ⟨g, 3, none⟩ = some (.int .u64 (BQ f.body : Int)) ∧ Y.cell? ⟨g, 4, none⟩ = some (.slice a (Ai f.body).length cc)) (by kernel_rfl) (HST.out _ ((TX.out.mono (by simp)).drew)) (fun hHeld => ?_)
            refine tY 0 48 ?_
            refine tY 1 49 ?_
            refine tY 2 50 ?_
            refine tY 3 51 ?_
            refine tY 4 52 ?_
            refine tY 5 53 ?_
            refine tY 6 54 ?_
            refine Ah (i := 7) (by kernel_rfl) (fun K o ho hK => ?_)
            simp only [gA, gB, gC, gE] at ho
            subst ho
            go_simp
            refine (hKF.out _ HMX.out.drew).mono ?_
            rintro e w9 ⟨rfl, h9⟩
            have t9 : Touch [F] X.drew w9 := by
              split at h9
              · exact Touch.of_below h9 _
              · exact h9.2
            refine hK.out _ _ ?_ (fun hHeld => ?_)
            focus exact HST.out _ (((TX.out.mono (by simp)).drew).trans t9)
            clear hK K
            try simp only [Act.put, sA, sB, sC]
            refine wpAnyH_done (by kernel_rfl) ?_ _
            have hB9 : Touch [F] w w9 := (Touch.of_below HBX.out [F]).drew.trans t9
            have hfinal : Q0 w9 := by
              split at h9
              · rename_i hsome
                refine HNO.out (fun i _ h2 => ?_) w9 (HBX.out.drew.trans (h9.mono (by have := HBX.out.size; exact this)))
                rw [HTK.out] at h2
                cases h2
                exact hsome
              · rename_i hnone
                have hnn : atM D (Bo (Av f.body)) = none := by
                  cases hh : atM D (Bo (Av f.body)) with
                  | none => rfl
                  | some u => rw [hh] at hnone; exact absurd rfl hnone
                exact HYES.out (Av f.body) (.agg #[.int .i64 (Av f.body : Int), .string (str (AW f.body)), .int .i64 (Bh f.body : Int), .int .u64 (BQ f.body : Int), .slice a (Ai f.body).length cc]) w9 (by simp) HTK.out hnn ⟨a, cc, rfl, Ac (Ac HOX.out ((Touch.refl [] _).drew) (by simp)) t9 (by simpa using HFL.out)⟩ h9.1 hB9
            have HFINAL := Aa hfinal
            clear hfinal h9 HNO HYES
            go_wp2_with fail
            go_end0
            exact ⟨rfl, HFINAL.out⟩
          · have e2 : ((AC f.body : Int) == (x : Int)) = false := by rw [beq_eq_false_iff_ne]; intro e; exact c2 (by exact_mod_cast e)
            have hno : ∀ i, True → AZ ⟨sz, fl, h⟩ f = some i → (atM D (Bo i)).isSome = true := by
              intro i _ h2
              exfalso
              unfold AZ at h2
              split at h2
              · rename_i hc
                exact c2 (by rw [HX.out]; exact hc.2.2.2)
              · cases h2
            have HQ := Aa (HNO.out hno)
            clear hno HNO HYES
            clear c2
            go_quiet (refine Calls.quiet_of_same (hH.out _))
            go_wp2_with fail
            go_end0
            exact ⟨rfl, HQ.out _ (BJ HBW.out _)⟩
        · have e1 : ¬ ((Av f.body : Int) < (fl.length : Int)) := by omega
          have hno : ∀ i, True → AZ ⟨sz, fl, h⟩ f = some i → (atM D (Bo i)).isSome = true := by
            intro i _ h2
            exfalso
            unfold AZ at h2
            split at h2
            · rename_i hc
              exact c1 hc.2.2.1
            · cases h2
          have HQ := Aa (HNO.out hno)
          clear hno HNO HYES
          go_quiet (fail)
          go_wp2_with fail
          go_end0
          exact ⟨rfl, HQ.out _ (BJ HBW.out _)⟩
end Go.Proofs.YtonjphollmdicaaGreatDoor
