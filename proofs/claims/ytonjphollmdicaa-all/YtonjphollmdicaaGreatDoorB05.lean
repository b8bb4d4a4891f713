import Derived.Test.YtonjphollmdicaaGreatDoorB04
set_option maxRecDepth 100000
set_option maxHeartbeats 4000000
set_option linter.unusedSimpArgs false
namespace Go.Proofs.YtonjphollmdicaaGreatDoor
open Go.ChangeShapes Go.WideShapes Go.ChangeAt Go.RowKit
theorem BookI.look {w : World} {base B : Nat} {F : Nat → Prop} {rs : Nat → Value} {T : Nat → List Value} {M : Nat → List Int} (h : BookI w base B F rs T M) {j q : Nat} (hj : j < 4) (hq : q = 4 + j) : ∃ ta tc ma mc, ∀ N, N = (M j).length →
  (∀ W, Below w.heap.size w W → W.cell? ⟨B, j, none⟩ = some (.slice ta N tc) ∧ W.cell? ⟨B, q, none⟩ = some (.slice ma N mc)) ∧
  ∀ i, i < N → ∃ tb mb g n c m, ta = some ⟨tb, 0, none⟩ ∧ ma = some ⟨mb, 0, none⟩ ∧ n ≤ 1003 ∧ (j ≠ 2 → 0 ≤ m) ∧ ∀ W, Below w.heap.size w W → W.cell? ⟨tb, i, none⟩ = some (.slice g n c) ∧ W.cell? ⟨mb, i, none⟩ = some (.int .i64 m) ∧ Rd W g (rep n (Me j m)) := by
 subst hq
 obtain ⟨ta, tc, ht, hrt, -⟩ := AZ (h.rowT j hj)
 obtain ⟨ma, mc, hm, hrm, -⟩ := AZ (h.rowM j hj)
 have eo : ∀ {X : Value} {a : Option Addr} {n c k b off : Nat} {xs : List Value} {t : TypeId}, X = .slice a n c → a = some ⟨b, off, none⟩ → w.ownsRow base t 1 X n xs → off = 0 := by
  intro X a n c k b off xs t e1 e2 ho
  subst e1 e2
  rcases ho.2 with ⟨h0, _⟩ | ⟨g, cap, cur, h0, _⟩
  ·cases h0
  ·cases h0; rfl
 refine ⟨ta, tc, ma, mc, fun N hN => ?_⟩
 subst hN
 have hT := h.rowT j hj
 have hMr := h.rowM j hj
 have hlen := h.len j hj
 refine ⟨fun W hW => ?_, fun i hi => ?_⟩
 ·have cj : (cellsB rs)[j]? = some (rs j) ∧ (cellsB rs)[4 + j]? = some (rs (4 + j)) := by
   match j, hj with
   | 0, _ | 1, _ | 2, _ | 3, _ => exact ⟨rfl, rfl⟩
  have b1 := (h.blk j _ cj.1).1
  have b2 := (h.blk (4 + j) _ cj.2).1
  rw [ht, hlen] at b1
  rw [hm] at b2
  exact ⟨by rw [hW.cell h.lt]; exact b1, by rw [hW.cell h.lt]; exact b2⟩
 ·have hiT : i < (T j).length := by omega
  obtain ⟨tb, tp, e1, x1⟩ := hrt i (T j)[i] (List.getElem?_eq_getElem hiT)
  obtain ⟨mb, mo, e2, x2⟩ := hrm i (.int .i64 (M j)[i]) (by simp [hi])
  obtain rfl := eo (k := 0) ht e1 hT
  obtain rfl := eo (k := 0) hm e2 hMr
  obtain ⟨g, n, c, e, hn, hr, hg⟩ := h.good j i _ _ hj (List.getElem?_eq_getElem hiT) (List.getElem?_eq_getElem hi)
  rw [Nat.zero_add] at x1 x2
  refine ⟨tb, mb, g, n, c, (M j)[i], e1, e2, hn, (h.rng j _ hj (List.getElem_mem hi)).2.2, fun W hW => ⟨?_, ?_, hr.later (Nat.le_refl _) hW⟩⟩
  ·rw [hW.cell (World.block_lt_of_cell? w _ x1), x1, e]
  ·rw [hW.cell (World.block_lt_of_cell? w _ x2)]; exact x2
theorem Ge {W : World} {g : Option Addr} {n : Nat} {p : List Value} (h : Rd W g (rep n p)) (k q : Nat) (hk : k < n) (u : Value) (hu : p[q]? = some u) : ∃ b off, g = some ⟨b, off, none⟩ ∧ W.cell? ⟨b, off + (k * p.length + q), none⟩ = some u :=
 h (k * p.length + q) u (by rw [O9 n p k q hk (List.getElem?_eq_some_iff.1 hu).1]; exact hu)
theorem Dt {w : World} {base B : Nat} {F : Nat → Prop} {rs : Nat → Value} {T : Nat → List Value} {M : Nat → List Int} (h : BookI w base B F rs T M) (hM : ∀ j, j < 4 → (M j).length ≤ 4398046511104) :
  Calls Tryz.prog 35 #[.pointer (some ⟨B, 0, none⟩)] w fun e w' => e = .returned (.bool true) ∧ Below w.heap.size w w' := by
 obtain ⟨ta0, tc0, ma0, mc0, hl0⟩ := h.look (j := 0) (q := 4) (by omega) rfl
 obtain ⟨N0, hN0⟩ : ∃ x, x = (M 0).length := ⟨_, rfl⟩
 have L0 := Aa (hl0 N0 hN0)
 have hn0 := hM 0 (by omega)
 rw [← hN0] at hn0
 clear hl0 hN0
 obtain ⟨ta1, tc1, ma1, mc1, hl1⟩ := h.look (j := 1) (q := 5) (by omega) rfl
 obtain ⟨N1, hN1⟩ : ∃ x, x = (M 1).length := ⟨_, rfl⟩
 have L1 := Aa (hl1 N1 hN1)
 have hn1 := hM 1 (by omega)
 rw [← hN1] at hn1
 clear hl1 hN1
 obtain ⟨ta2, tc2, ma2, mc2, hl2⟩ := h.look (j := 2) (q := 6) (by omega) rfl
 obtain ⟨N2, hN2⟩ : ∃ x, x = (M 2).length := ⟨_, rfl⟩
 have L2 := Aa (hl2 N2 hN2)
 have hn2 := hM 2 (by omega)
 rw [← hN2] at hn2
 clear hl2 hN2
 obtain ⟨ta3, tc3, ma3, mc3, hl3⟩ := h.look (j := 3) (q := 7) (by omega) rfl
 obtain ⟨N3, hN3⟩ : ∃ x, x = (M 3).length := ⟨_, rfl⟩
 have L3 := Aa (hl3 N3 hN3)
 have hn3 := hM 3 (by omega)
 rw [← hN3] at hn3
 clear hl3 hN3
 clear h hM
 go_enter Tryz.func35, Tryz.ntmps35
 go_wp2_with fail
 go_loopw [3, 4, 5] (fun ii _ _ W => ∃ i : Nat, i ≤ N0 ∧ ii = .int .i64 (i : Int) ∧ Hid (Below w.heap.size w W))
  (fun ii _ _ _ => N0 - (intOf ii).toNat)
 case atStart => exact ⟨0, by omega, rfl, Aa (Below.refl _ _)⟩
 case round =>
  obtain ⟨i, hi, rfl, HB⟩ := hrel
  obtain ⟨p1, p2⟩ := L0.out.1 wr HB.out
  by_cases hlt : i < N0
  ·obtain ⟨tb, mb, g, n, c, m, e1, e2, hn, hm0, hW⟩ := L0.out.2 i hlt
   subst e1 e2
   obtain ⟨x1, x2, -⟩ := hW wr HB.out
   have HW := Aa hW
   have HC := Aa (L0.out.1)
   clear hW
   obtain ⟨Wo, rfl⟩ : ∃ x, x = wr := ⟨wr, rfl⟩
   obtain ⟨mn, rfl⟩ : ∃ mn : Nat, m = (mn : Int) := ⟨m.toNat, by have := hm0 (by omega); omega⟩
   go_wp2_with fail
   refine (Fe mn Wo).mono ?_
   rintro e w1 ⟨rfl, hb1⟩
   have HB1 := Aa (Below.next HB.out hb1)
   clear hb1 HB p1 p2 x1 x2 hm0
   go_wp2_with fail
   go_loopw [5] (fun kk W => ∃ k : Nat, k ≤ n ∧ kk = .int .i64 (k : Int) ∧ Hid (Below w.heap.size w W))
    (fun kk _ => n - (intOf kk).toNat)
   case atStart => exact ⟨0, by omega, rfl, HB1⟩
   case round =>
    clear HB1
    obtain ⟨k, hk, rfl, HB⟩ := hrel
    obtain ⟨p1, p2⟩ := HC.out wr HB.out
    obtain ⟨x1, x2, hr⟩ := HW.out wr HB.out
    by_cases hkl : k < n
    ·obtain ⟨gb, go, rfl, y1⟩ := Ge hr k 0 hkl _ rfl
     rw [show (Me 0 (mn : Int)).length = 1 from rfl, Nat.mul_one, Nat.add_zero] at y1
     clear hr
     go_wp2_with fail
     exact ⟨⟨k + 1, by omega, by go_num, HB⟩, by simp [intOf]; omega⟩
    ·obtain rfl : k = n := by omega
     clear hr
     go_wp2_with fail
     exact ⟨⟨i + 1, by omega, by go_num, HB⟩, by simp [intOf]; omega⟩
  ·obtain rfl : i = N0 := by omega
   go_wp2_with fail
   go_loopw [6, 7, 8] (fun ii _ _ W => ∃ i : Nat, i ≤ N1 ∧ ii = .int .i64 (i : Int) ∧ Hid (Below w.heap.size w W))
    (fun ii _ _ _ => N1 - (intOf ii).toNat)
   case atStart => exact ⟨0, by omega, rfl, HB⟩
   case round =>
    clear HB
    obtain ⟨i, hi, rfl, HB⟩ := hrel
    obtain ⟨p1, p2⟩ := L1.out.1 wr HB.out
    by_cases hlt : i < N1
    ·obtain ⟨tb, mb, g, n, c, m, e1, e2, hn, hm0, hW⟩ := L1.out.2 i hlt
     subst e1 e2
     obtain ⟨x1, x2, -⟩ := hW wr HB.out
     have HW := Aa hW
     have HC := Aa (L1.out.1)
     clear hW
     obtain ⟨Wo, rfl⟩ : ∃ x, x = wr := ⟨wr, rfl⟩
     obtain ⟨mn, rfl⟩ : ∃ mn : Nat, m = (mn : Int) := ⟨m.toNat, by have := hm0 (by omega); omega⟩
     go_wp2_with fail
     refine (Fe mn Wo).mono ?_
     rintro e w1 ⟨rfl, hb1⟩
     have HB1 := Aa (Below.next HB.out hb1)
     clear hb1 HB p1 p2 x1 x2 hm0
     go_wp2_with fail
     go_loopw [8] (fun kk W => ∃ k : Nat, k ≤ n ∧ kk = .int .i64 (k : Int) ∧ Hid (Below w.heap.size w W))
      (fun kk _ => n - (intOf kk).toNat)
     case atStart => exact ⟨0, by omega, rfl, HB1⟩
     case round =>
      clear HB1
      obtain ⟨k, hk, rfl, HB⟩ := hrel
      obtain ⟨p1, p2⟩ := HC.out wr HB.out
      obtain ⟨x1, x2, hr⟩ := HW.out wr HB.out
      by_cases hkl : k < n
      ·obtain ⟨gb, go, rfl, y1⟩ := Ge hr k 0 hkl _ rfl
       obtain ⟨gb', go', e', y2⟩ := Ge hr k 1 hkl _ rfl
       cases e'
       rw [show (Me 1 (mn : Int)).length = 2 from rfl, Nat.add_zero] at y1
       rw [show (Me 1 (mn : Int)).length = 2 from rfl, ← Nat.add_assoc] at y2
       clear hr
       go_wp2_with fail
       exact ⟨⟨k + 1, by omega, by go_num, HB⟩, by simp [intOf]; omega⟩
      ·obtain rfl : k = n := by omega
       clear hr
       go_wp2_with fail
       exact ⟨⟨i + 1, by omega, by go_num, HB⟩, by simp [intOf]; omega⟩
    ·obtain rfl : i = N1 := by omega
     go_wp2_with fail
     go_loopw [9, 10] (fun ii _ W => ∃ i : Nat, i ≤ N2 ∧ ii = .int .i64 (i : Int) ∧ Hid (Below w.heap.size w W))
      (fun ii _ _ => N2 - (intOf ii).toNat)
     case atStart => exact ⟨0, by omega, rfl, HB⟩
     case round =>
      clear HB
      obtain ⟨i, hi, rfl, HB⟩ := hrel
      obtain ⟨p1, p2⟩ := L2.out.1 wr HB.out
      by_cases hlt : i < N2
      ·obtain ⟨tb, mb, g, n, c, m, e1, e2, hn, hm0, hW⟩ := L2.out.2 i hlt
       subst e1 e2
       obtain ⟨x1, x2, -⟩ := hW wr HB.out
       have HW := Aa hW
       have HC := Aa (L2.out.1)
       clear hW
       obtain ⟨Wo, rfl⟩ : ∃ x, x = wr := ⟨wr, rfl⟩
       have HB1 := HB
       go_wp2_with fail
       clear HB p1 p2 x1 x2 hm0
       go_loopw [10] (fun kk W => ∃ k : Nat, k ≤ n ∧ kk = .int .i64 (k : Int) ∧ Hid (Below w.heap.size w W))
        (fun kk _ => n - (intOf kk).toNat)
       case atStart => exact ⟨0, by omega, rfl, HB1⟩
       case round =>
        clear HB1
        obtain ⟨k, hk, rfl, HB⟩ := hrel
        obtain ⟨p1, p2⟩ := HC.out wr HB.out
        obtain ⟨x1, x2, hr⟩ := HW.out wr HB.out
        by_cases hkl : k < n
        ·obtain ⟨gb, go, rfl, y1⟩ := Ge hr k 0 hkl _ rfl
         rw [show (Me 2 m).length = 1 from rfl, Nat.mul_one, Nat.add_zero] at y1
         clear hr
         have hS : ∀ W, Below wr.heap.size wr W → W.cell? ⟨B, 2, none⟩ = some (.slice (some ⟨tb, 0, none⟩) N2 tc2) ∧ W.cell? ⟨B, 6, none⟩ = some (.slice (some ⟨mb, 0, none⟩) N2 mc2) ∧ W.cell? ⟨tb, i, none⟩ = some (.slice (some ⟨gb, go, none⟩) n c) ∧ W.cell? ⟨mb, i, none⟩ = some (.int .i64 m) ∧ W.cell? ⟨gb, go + k, none⟩ = some (.int .i64 m) := fun W hb =>
          ⟨(hb.cell (World.block_lt_of_cell? wr _ p1)).trans p1, (hb.cell (World.block_lt_of_cell? wr _ p2)).trans p2, (hb.cell (World.block_lt_of_cell? wr _ x1)).trans x1, (hb.cell (World.block_lt_of_cell? wr _ x2)).trans x2, (hb.cell (World.block_lt_of_cell? wr _ y1)).trans y1⟩
         have HS := Aa hS
         have HB9 := Aa (HB.out.drew)
         clear hS
         go_wp2_with fail
         clear y1
         refine wp_region_held_drew (S := fun W => W.cell? ⟨B, 2, none⟩ = some (.slice (some ⟨tb, 0, none⟩) N2 tc2) ∧ W.cell? ⟨B, 6, none⟩ = some (.slice (some ⟨mb, 0, none⟩) N2 mc2) ∧ W.cell? ⟨tb, i, none⟩ = some (.slice (some ⟨gb, go, none⟩) n c) ∧ W.cell? ⟨mb, i, none⟩ = some (.int .i64 m) ∧ W.cell? ⟨gb, go + k, none⟩ = some (.int .i64 m)) (by kernel_rfl) (HS.out _ (Below.refl _ _).drew) (fun hHeld => ?_)
         first | (refine take_yes' (i := 0) (d := (some 134)) (v := ?tv1) (a' := ?ta1) rfl (by kernel_rfl) (by kernel_rfl) (by kernel_rfl) (by rfl) (fun _ _ _ h => h) ?thy1 (by assumption) rfl ?tha1 ?_; (case thy1 => (intro w hSw; (try dsimp only at hSw); simp only [List.getElem?_toArray, List.getElem?_cons_succ, List.getElem?_cons_zero, Option.map_some, Option.some.injEq]; go_simp; (try with_reducible rfl))); (case tha1 => (simp only [Act.put, List.setIfInBounds_toArray, List.set_cons_zero, List.set_cons_succ]; try rfl))) | (refine take_no' (i := 0) (d := (some 134)) (a' := ?ta1) rfl (by kernel_rfl) (by kernel_rfl) (by kernel_rfl) (by rfl) (fun _ _ _ h => h) (by assumption) rfl ?tha1 ?_; (case tha1 => (simp only [Act.put, List.setIfInBounds_toArray, List.set_cons_zero, List.set_cons_succ]; try rfl)))
         first | (refine take_yes' (i := 1) (d := (some 135)) (v := ?tv2) (a' := ?ta2) rfl (by kernel_rfl) (by kernel_rfl) (by kernel_rfl) (by rfl) (fun _ _ _ h => h) ?thy2 (by assumption) rfl ?tha2 ?_; (case thy2 => (intro w hSw; (try dsimp only at hSw); simp only [List.getElem?_toArray, List.getElem?_cons_succ, List.getElem?_cons_zero, Option.map_some, Option.some.injEq]; go_simp; (try with_reducible rfl))); (case tha2 => (simp only [Act.put, List.setIfInBounds_toArray, List.set_cons_zero, List.set_cons_succ]; try rfl))) | (refine take_no' (i := 1) (d := (some 135)) (a' := ?ta2) rfl (by kernel_rfl) (by kernel_rfl) (by kernel_rfl) (by rfl) (fun _ _ _ h => h) (by assumption) rfl ?tha2 ?_; (case tha2 => (simp only [Act.put, List.setIfInBounds_toArray, List.set_cons_zero, List.set_cons_succ]; try rfl)))
         first | (refine take_yes' (i := 2) (d := (some 136)) (v := ?tv3) (a' := ?ta3) rfl (by kernel_rfl) (by kernel_rfl) (by kernel_rfl) (by rfl) (fun _ _ _ h => h) ?thy3 (by assumption) rfl ?tha3 ?_; (case thy3 => (intro w hSw; (try dsimp only at hSw); simp only [List.getElem?_toArray, List.getElem?_cons_succ, List.getElem?_cons_zero, Option.map_some, Option.some.injEq]; go_simp; (try with_reducible rfl))); (case tha3 => (simp only [Act.put, List.setIfInBounds_toArray, List.set_cons_zero, List.set_cons_succ]; try rfl))) | (refine take_no' (i := 2) (d := (some 136)) (a' := ?ta3) rfl (by kernel_rfl) (by kernel_rfl) (by kernel_rfl) (by rfl) (fun _ _ _ h => h) (by assumption) rfl ?tha3 ?_; (case tha3 => (simp only [Act.put, List.setIfInBounds_toArray, List.set_cons_zero, List.set_cons_succ]; try rfl)))
         first | (refine take_yes' (i := 3) (d := (some 137)) (v := ?tv4) (a' := ?ta4) rfl (by kernel_rfl) (by kernel_rfl) (by kernel_rfl) (by rfl) (fun _ _ _ h => h) ?thy4 (by assumption) rfl ?tha4 ?_; (case thy4 => (intro w hSw; (try dsimp only at hSw); simp only [List.getElem?_toArray, List.getElem?_cons_succ, List.getElem?_cons_zero, Option.map_some, Option.some.injEq]; go_simp; (try with_reducible rfl))); (case tha4 => (simp only [Act.put, List.setIfInBounds_toArray, List.set_cons_zero, List.set_cons_succ]; try rfl))) | (refine take_no' (i := 3) (d := (some 137)) (a' := ?ta4) rfl (by kernel_rfl) (by kernel_rfl) (by kernel_rfl) (by rfl) (fun _ _ _ h => h) (by assumption) rfl ?tha4 ?_; (case tha4 => (simp only [Act.put, List.setIfInBounds_toArray, List.set_cons_zero, List.set_cons_succ]; try rfl)))
         first | (refine take_yes' (i := 4) (d := (some 138)) (v := ?tv5) (a' := ?ta5) rfl (by kernel_rfl) (by kernel_rfl) (by kernel_rfl) (by rfl) (fun _ _ _ h => h) ?thy5 (by assumption) rfl ?tha5 ?_; (case thy5 => (intro w hSw; (try dsimp only at hSw); simp only [List.getElem?_toArray, List.getElem?_cons_succ, List.getElem?_cons_zero, Option.map_some, Option.some.injEq]; go_simp; (try with_reducible rfl))); (case tha5 => (simp only [Act.put, List.setIfInBounds_toArray, List.set_cons_zero, List.set_cons_succ]; try rfl))) | (refine take_no' (i := 4) (d := (some 138)) (a' := ?ta5) rfl (by kernel_rfl) (by kernel_rfl) (by kernel_rfl) (by rfl) (fun _ _ _ h => h) (by assumption) rfl ?tha5 ?_; (case tha5 => (simp only [Act.put, List.setIfInBounds_toArray, List.set_cons_zero, List.set_cons_succ]; try rfl)))
         first | (refine take_yes' (i := 5) (d := (some 139)) (v := ?tv6) (a' := ?ta6) rfl (by kernel_rfl) (by kernel_rfl) (by kernel_rfl) (by rfl) (fun _ _ _ h => h) ?thy6 (by assumption) rfl ?tha6 ?_; (case thy6 => (intro w hSw; (try dsimp only at hSw); simp only [List.getElem?_toArray, List.getElem?_cons_succ, List.getElem?_cons_zero, Option.map_some, Option.some.injEq]; go_simp; (try with_reducible rfl))); (case tha6 => (simp only [Act.put, List.setIfInBounds_toArray, List.set_cons_zero, List.set_cons_succ]; try rfl))) | (refine take_no' (i := 5) (d := (some 139)) (a' := ?ta6) rfl (by kernel_rfl) (by kernel_rfl) (by kernel_rfl) (by rfl) (fun _ _ _ h => h) (by assumption) rfl ?tha6 ?_; (case tha6 => (simp only [Act.put, List.setIfInBounds_toArray, List.set_cons_zero, List.set_cons_succ]; try rfl)))
         first | (refine take_yes' (i := 6) (d := (some 140)) (v := ?tv7) (a' := ?ta7) rfl (by kernel_rfl) (by kernel_rfl) (by kernel_rfl) (by rfl) (fun _ _ _ h => h) ?thy7 (by assumption) rfl ?tha7 ?_; (case thy7 => (intro w hSw; (try dsimp only at hSw); simp only [List.getElem?_toArray, List.getElem?_cons_succ, List.getElem?_cons_zero, Option.map_some, Option.some.injEq]; go_simp; (try with_reducible rfl))); (case tha7 => (simp only [Act.put, List.setIfInBounds_toArray, List.set_cons_zero, List.set_cons_succ]; try rfl))) | (refine take_no' (i := 6) (d := (some 140)) (a' := ?ta7) rfl (by kernel_rfl) (by kernel_rfl) (by kernel_rfl) (by rfl) (fun _ _ _ h => h) (by assumption) rfl ?tha7 ?_; (case tha7 => (simp only [Act.put, List.setIfInBounds_toArray, List.set_cons_zero, List.set_cons_succ]; try rfl)))
         first | (refine take_yes' (i := 7) (d := (some 141)) (v := ?tv8) (a' := ?ta8) rfl (by kernel_rfl) (by kernel_rfl) (by kernel_rfl) (by rfl) (fun _ _ _ h => h) ?thy8 (by assumption) rfl ?tha8 ?_; (case thy8 => (intro w hSw; (try dsimp only at hSw); simp only [List.getElem?_toArray, List.getElem?_cons_succ, List.getElem?_cons_zero, Option.map_some, Option.some.injEq]; go_simp; (try with_reducible rfl))); (case tha8 => (simp only [Act.put, List.setIfInBounds_toArray, List.set_cons_zero, List.set_cons_succ]; try rfl))) | (refine take_no' (i := 7) (d := (some 141)) (a' := ?ta8) rfl (by kernel_rfl) (by kernel_rfl) (by kernel_rfl) (by rfl) (fun _ _ _ h => h) (by assumption) rfl ?tha8 ?_; (case tha8 => (simp only [Act.put, List.setIfInBounds_toArray, List.set_cons_zero, List.set_cons_succ]; try rfl)))
         first | (refine take_yes' (i := 8) (d := (some 142)) (v := ?tv9) (a' := ?ta9) rfl (by kernel_rfl) (by kernel_rfl) (by kernel_rfl) (by rfl) (fun _ _ _ h => h) ?thy9 (by assumption) rfl ?tha9 ?_; (case thy9 => (intro w hSw; (try dsimp only at hSw); simp only [List.getElem?_toArray, List.getElem?_cons_succ, List.getElem?_cons_zero, Option.map_some, Option.some.injEq]; go_simp; (try with_reducible rfl))); (case tha9 => (simp only [Act.put, List.setIfInBounds_toArray, List.set_cons_zero, List.set_cons_succ]; try rfl))) | (refine take_no' (i := 8) (d := (some 142)) (a' := ?ta9) rfl (by kernel_rfl) (by kernel_rfl) (by kernel_rfl) (by rfl) (fun _ _ _ h => h) (by assumption) rfl ?tha9 ?_; (case tha9 => (simp only [Act.put, List.setIfInBounds_toArray, List.set_cons_zero, List.set_cons_succ]; try rfl)))
         first | (refine take_yes' (i := 9) (d := (some 143)) (v := ?tv10) (a' := ?ta10) rfl (by kernel_rfl) (by kernel_rfl) (by kernel_rfl) (by rfl) (fun _ _ _ h => h) ?thy10 (by assumption) rfl ?tha10 ?_; (case thy10 => (intro w hSw; (try dsimp only at hSw); simp only [List.getElem?_toArray, List.getElem?_cons_succ, List.getElem?_cons_zero, Option.map_some, Option.some.injEq]; go_simp; (try with_reducible rfl))); (case tha10 => (simp only [Act.put, List.setIfInBounds_toArray, List.set_cons_zero, List.set_cons_succ]; try rfl))) | (refine take_no' (i := 9) (d := (some 143)) (a' := ?ta10) rfl (by kernel_rfl) (by kernel_rfl) (by kernel_rfl) (by rfl) (fun _ _ _ h => h) (by assumption) rfl ?tha10 ?_; (case tha10 => (simp only [Act.put, List.setIfInBounds_toArray, List.set_cons_zero, List.set_cons_succ]; try rfl)))
         first | (refine take_yes' (i := 10) (d := (some 144)) (v := ?tv11) (a' := ?ta11) rfl (by kernel_rfl) (by kernel_rfl) (by kernel_rfl) (by rfl) (fun _ _ _ h => h) ?thy11 (by assumption) rfl ?tha11 ?_; (case thy11 => (intro w hSw; (try dsimp only at hSw); simp only [List.getElem?_toArray, List.getElem?_cons_succ, List.getElem?_cons_zero, Option.map_some, Option.some.injEq]; go_simp; (try with_reducible rfl))); (case tha11 => (simp only [Act.put, List.setIfInBounds_toArray, List.set_cons_zero, List.set_cons_succ]; try rfl))) | (refine take_no' (i := 10) (d := (some 144)) (a' := ?ta11) rfl (by kernel_rfl) (by kernel_rfl) (by kernel_rfl) (by rfl) (fun _ _ _ h => h) (by assumption) rfl ?tha11 ?_; (case tha11 => (simp only [Act.put, List.setIfInBounds_toArray, List.set_cons_zero, List.set_cons_succ]; try rfl)))
         first | (refine take_yes' (i := 11) (d := (some 145)) (v := ?tv12) (a' := ?ta12) rfl (by kernel_rfl) (by kernel_rfl) (by kernel_rfl) (by rfl) (fun _ _ _ h => h) ?thy12 (by assumption) rfl ?tha12 ?_; (case thy12 => (intro w hSw; (try dsimp only at hSw); simp only [List.getElem?_toArray, List.getElem?_cons_succ, List.getElem?_cons_zero, Option.map_some, Option.some.injEq]; go_simp; (try with_reducible rfl))); (case tha12 => (simp only [Act.put, List.setIfInBounds_toArray, List.set_cons_zero, List.set_cons_succ]; try rfl))) | (refine take_no' (i := 11) (d := (some 145)) (a' := ?ta12) rfl (by kernel_rfl) (by kernel_rfl) (by kernel_rfl) (by rfl) (fun _ _ _ h => h) (by assumption) rfl ?tha12 ?_; (case tha12 => (simp only [Act.put, List.setIfInBounds_toArray, List.set_cons_zero, List.set_cons_succ]; try rfl)))
         first | (refine take_yes' (i := 12) (d := (some 146)) (v := ?tv13) (a' := ?ta13) rfl (by kernel_rfl) (by kernel_rfl) (by kernel_rfl) (by rfl) (fun _ _ _ h => h) ?thy13 (by assumption) rfl ?tha13 ?_; (case thy13 => (intro w hSw; (try dsimp only at hSw); simp only [List.getElem?_toArray, List.getElem?_cons_succ, List.getElem?_cons_zero, Option.map_some, Option.some.injEq]; go_simp; (try with_reducible rfl))); (case tha13 => (simp only [Act.put, List.setIfInBounds_toArray, List.set_cons_zero, List.set_cons_succ]; try rfl))) | (refine take_no' (i := 12) (d := (some 146)) (a' := ?ta13) rfl (by kernel_rfl) (by kernel_rfl) (by kernel_rfl) (by rfl) (fun _ _ _ h => h) (by assumption) rfl ?tha13 ?_; (case tha13 => (simp only [Act.put, List.setIfInBounds_toArray, List.set_cons_zero, List.set_cons_succ]; try rfl)))
         first | (refine take_yes' (i := 13) (d := (some 147)) (v := ?tv14) (a' := ?ta14) rfl (by kernel_rfl) (by kernel_rfl) (by kernel_rfl) (by rfl) (fun _ _ _ h => h) ?thy14 (by assumption) rfl ?tha14 ?_; (case thy14 => (intro w hSw; (try dsimp only at hSw); simp only [List.getElem?_toArray, List.getElem?_cons_succ, List.getElem?_cons_zero, Option.map_some, Option.some.injEq]; go_simp; (try with_reducible rfl))); (case tha14 => (simp only [Act.put, List.setIfInBounds_toArray, List.set_cons_zero, List.set_cons_succ]; try rfl))) | (refine take_no' (i := 13) (d := (some 147)) (a' := ?ta14) rfl (by kernel_rfl) (by kernel_rfl) (by kernel_rfl) (by rfl) (fun _ _ _ h => h) (by assumption) rfl ?tha14 ?_; (case tha14 => (simp only [Act.put, List.setIfInBounds_toArray, List.set_cons_zero, List.set_cons_succ]; try rfl)))
         first | (refine take_yes' (i := 14) (d := (some 148)) (v := ?tv15) (a' := ?ta15) rfl (by kernel_rfl) (by kernel_rfl) (by kernel_rfl) (by rfl) (fun _ _ _ h => h) ?thy15 (by assumption) rfl ?tha15 ?_; (case thy15 => (intro w hSw; (try dsimp only at hSw); simp only [List.getElem?_toArray, List.getElem?_cons_succ, List.getElem?_cons_zero, Option.map_some, Option.some.injEq]; go_simp; (try with_reducible rfl))); (case tha15 => (simp only [Act.put, List.setIfInBounds_toArray, List.set_cons_zero, List.set_cons_succ]; try rfl))) | (refine take_no' (i := 14) (d := (some 148)) (a' := ?ta15) rfl (by kernel_rfl) (by kernel_rfl) (by kernel_rfl) (by rfl) (fun _ _ _ h => h) (by assumption) rfl ?tha15 ?_; (case tha15 => (simp only [Act.put, List.setIfInBounds_toArray, List.set_cons_zero, List.set_cons_succ]; try rfl)))
         first | (refine take_yes' (i := 15) (d := (some 149)) (v := ?tv16) (a' := ?ta16) rfl (by kernel_rfl) (by kernel_rfl) (by kernel_rfl) (by rfl) (fun _ _ _ h => h) ?thy16 (by assumption) rfl ?tha16 ?_; (case thy16 => (intro w hSw; (try dsimp only at hSw); simp only [List.getElem?_toArray, List.getElem?_cons_succ, List.getElem?_cons_zero, Option.map_some, Option.some.injEq]; go_simp; (try with_reducible rfl))); (case tha16 => (simp only [Act.put, List.setIfInBounds_toArray, List.set_cons_zero, List.set_cons_succ]; try rfl))) | (refine take_no' (i := 15) (d := (some 149)) (a' := ?ta16) rfl (by kernel_rfl) (by kernel_rfl) (by kernel_rfl) (by rfl) (fun _ _ _ h => h) (by assumption) rfl ?tha16 ?_; (case tha16 => (simp only [Act.put, List.setIfInBounds_toArray, List.set_cons_zero, List.set_cons_succ]; try rfl)))
         first | (refine take_yes' (i := 16) (d := (some 150)) (v := ?tv17) (a' := ?ta17) rfl (by kernel_rfl) (by kernel_rfl) (by kernel_rfl) (by rfl) (fun _ _ _ h => h) ?thy17 (by assumption) rfl ?tha17 ?_; (case thy17 => (intro w hSw; (try dsimp only at hSw); simp only [List.getElem?_toArray, List.getElem?_cons_succ, List.getElem?_cons_zero, Option.map_some, Option.some.injEq]; go_simp; (try with_reducible rfl))); (case tha17 => (simp only [Act.put, List.setIfInBounds_toArray, List.set_cons_zero, List.set_cons_succ]; try rfl))) | (refine take_no' (i := 16) (d := (some 150)) (a' := ?ta17) rfl (by kernel_rfl) (by kernel_rfl) (by kernel_rfl) (by rfl) (fun _ _ _ h => h) (by assumption) rfl ?tha17 ?_; (case tha17 => (simp only [Act.put, List.setIfInBounds_toArray, List.set_cons_zero, List.set_cons_succ]; try rfl)))
         first | (refine take_yes' (i := 17) (d := (some 151)) (v := ?tv18) (a' := ?ta18) rfl (by kernel_rfl) (by kernel_rfl) (by kernel_rfl) (by rfl) (fun _ _ _ h => h) ?thy18 (by assumption) rfl ?tha18 ?_; (case thy18 => (intro w hSw; (try dsimp only at hSw); simp only [List.getElem?_toArray, List.getElem?_cons_succ, List.getElem?_cons_zero, Option.map_some, Option.some.injEq]; go_simp; (try with_reducible rfl))); (case tha18 => (simp only [Act.put, List.setIfInBounds_toArray, List.set_cons_zero, List.set_cons_succ]; try rfl))) | (refine take_no' (i := 17) (d := (some 151)) (a' := ?ta18) rfl (by kernel_rfl) (by kernel_rfl) (by kernel_rfl) (by rfl) (fun _ _ _ h => h) (by assumption) rfl ?tha18 ?_; (case tha18 => (simp only [Act.put, List.setIfInBounds_toArray, List.set_cons_zero, List.set_cons_succ]; try rfl)))
         first | (refine take_yes' (i := 18) (d := (some 152)) (v := ?tv19) (a' := ?ta19) rfl (by kernel_rfl) (by kernel_rfl) (by kernel_rfl) (by rfl) (fun _ _ _ h => h) ?thy19 (by assumption) rfl ?tha19 ?_; (case thy19 => (intro w hSw; (try dsimp only at hSw); simp only [List.getElem?_toArray, List.getElem?_cons_succ, List.getElem?_cons_zero, Option.map_some, Option.some.injEq]; go_simp; (try with_reducible rfl))); (case tha19 => (simp only [Act.put, List.setIfInBounds_toArray, List.set_cons_zero, List.set_cons_succ]; try rfl))) | (refine take_no' (i := 18) (d := (some 152)) (a' := ?ta19) rfl (by kernel_rfl) (by kernel_rfl) (by kernel_rfl) (by rfl) (fun _ _ _ h => h) (by assumption) rfl ?tha19 ?_; (case tha19 => (simp only [Act.put, List.setIfInBounds_toArray, List.set_cons_zero, List.set_cons_succ]; try rfl)))
         refine wpAnyH_done (by kernel_rfl) ?_ _
         go_wp2_with fail
         exact ⟨⟨k + 1, by omega, by go_num, HB9⟩, by simp [intOf]; omega⟩
        ·obtain rfl : k = n := by omega
         clear hr
         go_wp2_with fail
         exact ⟨⟨i + 1, by omega, by go_num, HB⟩, by simp [intOf]; omega⟩
      ·obtain rfl : i = N2 := by omega
       go_wp2_with fail
       go_loopw [11, 12] (fun ii _ W => ∃ i : Nat, i ≤ N3 ∧ ii = .int .i64 (i : Int) ∧ Hid (Below w.heap.size w W))
        (fun ii _ _ => N3 - (intOf ii).toNat)
       case atStart => exact ⟨0, by omega, rfl, HB⟩
       case round =>
        clear HB
        obtain ⟨i, hi, rfl, HB⟩ := hrel
        obtain ⟨p1, p2⟩ := L3.out.1 wr HB.out
        by_cases hlt : i < N3
        ·obtain ⟨tb, mb, g, n, c, m, e1, e2, hn, hm0, hW⟩ := L3.out.2 i hlt
         subst e1 e2
         obtain ⟨x1, x2, -⟩ := hW wr HB.out
         have HW := Aa hW
         have HC := Aa (L3.out.1)
         clear hW
         obtain ⟨Wo, rfl⟩ : ∃ x, x = wr := ⟨wr, rfl⟩
         have HB1 := HB
         go_wp2_with fail
         clear HB p1 p2 x1 x2 hm0
         go_loopw [12] (fun kk W => ∃ k : Nat, k ≤ n ∧ kk = .int .i64 (k : Int) ∧ Hid (Below w.heap.size w W))
          (fun kk _ => n - (intOf kk).toNat)
         case atStart => exact ⟨0, by omega, rfl, HB1⟩
         case round =>
          clear HB1
          obtain ⟨k, hk, rfl, HB⟩ := hrel
          obtain ⟨p1, p2⟩ := HC.out wr HB.out
          obtain ⟨x1, x2, hr⟩ := HW.out wr HB.out
          by_cases hkl : k < n
          ·obtain ⟨gb, go, rfl, y1⟩ := Ge hr k 0 hkl _ rfl
           rw [show (Me 3 m).length = 1 from rfl, Nat.mul_one, Nat.add_zero] at y1
           clear hr
           have hS : ∀ W, Below wr.heap.size wr W → W.cell? ⟨B, 3, none⟩ = some (.slice (some ⟨tb, 0, none⟩) N3 tc3) ∧ W.cell? ⟨B, 7, none⟩ = some (.slice (some ⟨mb, 0, none⟩) N3 mc3) ∧ W.cell? ⟨tb, i, none⟩ = some (.slice (some ⟨gb, go, none⟩) n c) ∧ W.cell? ⟨mb, i, none⟩ = some (.int .i64 m) ∧ W.cell? ⟨gb, go + k, none⟩ = some (.bool (m == 1)) := fun W hb =>
            ⟨(hb.cell (World.block_lt_of_cell? wr _ p1)).trans p1, (hb.cell (World.block_lt_of_cell? wr _ p2)).trans p2, (hb.cell (World.block_lt_of_cell? wr _ x1)).trans x1, (hb.cell (World.block_lt_of_cell? wr _ x2)).trans x2, (hb.cell (World.block_lt_of_cell? wr _ y1)).trans y1⟩
           have HS := Aa hS
           have HB9 := Aa (HB.out.drew)
           clear hS
           go_wp2_with fail
           clear y1
           refine wp_region_held_drew (S := fun W => W.cell? ⟨B, 3, none⟩ = some (.slice (some ⟨tb, 0, none⟩) N3 tc3) ∧ W.cell? ⟨B, 7, none⟩ = some (.slice (some ⟨mb, 0, none⟩) N3 mc3) ∧ W.cell? ⟨tb, i, none⟩ = some (.slice (some ⟨gb, go, none⟩) n c) ∧ W.cell? ⟨mb, i, none⟩ = some (.int .i64 m) ∧ W.cell? ⟨gb, go + k, none⟩ = some (.bool (m == 1))) (by kernel_rfl) (HS.out _ (Below.refl _ _).drew) (fun hHeld => ?_)
           first | (refine take_yes' (i := 0) (d := (some 174)) (v := ?tv20) (a' := ?ta20) rfl (by kernel_rfl) (by kernel_rfl) (by kernel_rfl) (by rfl) (fun _ _ _ h => h) ?thy20 (by assumption) rfl ?tha20 ?_; (case thy20 => (intro w hSw; (try dsimp only at hSw); simp only [List.getElem?_toArray, List.getElem?_cons_succ, List.getElem?_cons_zero, Option.map_some, Option.some.injEq]; go_simp; (try with_reducible rfl))); (case tha20 => (simp only [Act.put, List.setIfInBounds_toArray, List.set_cons_zero, List.set_cons_succ]; try rfl))) | (refine take_no' (i := 0) (d := (some 174)) (a' := ?ta20) rfl (by kernel_rfl) (by kernel_rfl) (by kernel_rfl) (by rfl) (fun _ _ _ h => h) (by assumption) rfl ?tha20 ?_; (case tha20 => (simp only [Act.put, List.setIfInBounds_toArray, List.set_cons_zero, List.set_cons_succ]; try rfl)))
           first | (refine take_yes' (i := 1) (d := (some 175)) (v := ?tv21) (a' := ?ta21) rfl (by kernel_rfl) (by kernel_rfl) (by kernel_rfl) (by rfl) (fun _ _ _ h => h) ?thy21 (by assumption) rfl ?tha21 ?_; (case thy21 => (intro w hSw; (try dsimp only at hSw); simp only [List.getElem?_toArray, List.getElem?_cons_succ, List.getElem?_cons_zero, Option.map_some, Option.some.injEq]; go_simp; (try with_reducible rfl))); (case tha21 => (simp only [Act.put, List.setIfInBounds_toArray, List.set_cons_zero, List.set_cons_succ]; try rfl))) | (refine take_no' (i := 1) (d := (some 175)) (a' := ?ta21) rfl (by kernel_rfl) (by kernel_rfl) (by kernel_rfl) (by rfl) (fun _ _ _ h => h) (by assumption) rfl ?tha21 ?_; (case tha21 => (simp only [Act.put, List.setIfInBounds_toArray, List.set_cons_zero, List.set_cons_succ]; try rfl)))
           first | (refine take_yes' (i := 2) (d := (some 176)) (v := ?tv22) (a' := ?ta22) rfl (by kernel_rfl) (by kernel_rfl) (by kernel_rfl) (by rfl) (fun _ _ _ h => h) ?thy22 (by assumption) rfl ?tha22 ?_; (case thy22 => (intro w hSw; (try dsimp only at hSw); simp only [List.getElem?_toArray, List.getElem?_cons_succ, List.getElem?_cons_zero, Option.map_some, Option.some.injEq]; go_simp; (try with_reducible rfl))); (case tha22 => (simp only [Act.put, List.setIfInBounds_toArray, List.set_cons_zero, List.set_cons_succ]; try rfl))) | (refine take_no' (i := 2) (d := (some 176)) (a' := ?ta22) rfl (by kernel_rfl) (by kernel_rfl) (by kernel_rfl) (by rfl) (fun _ _ _ h => h) (by assumption) rfl ?tha22 ?_; (case tha22 => (simp only [Act.put, List.setIfInBounds_toArray, List.set_cons_zero, List.set_cons_succ]; try rfl)))
           first | (refine take_yes' (i := 3) (d := (some 177)) (v := ?tv23) (a' := ?ta23) rfl (by kernel_rfl) (by kernel_rfl) (by kernel_rfl) (by rfl) (fun _ _ _ h => h) ?thy23 (by assumption) rfl ?tha23 ?_; (case thy23 => (intro w hSw; (try dsimp only at hSw); simp only [List.getElem?_toArray, List.getElem?_cons_succ, List.getElem?_cons_zero, Option.map_some, Option.some.injEq]; go_simp; (try with_reducible rfl))); (case tha23 => (simp only [Act.put, List.setIfInBounds_toArray, List.set_cons_zero, List.set_cons_succ]; try rfl))) | (refine take_no' (i := 3) (d := (some 177)) (a' := ?ta23) rfl (by kernel_rfl) (by kernel_rfl) (by kernel_rfl) (by rfl) (fun _ _ _ h => h) (by assumption) rfl ?tha23 ?_; (case tha23 => (simp only [Act.put, List.setIfInBounds_toArray, List.set_cons_zero, List.set_cons_succ]; try rfl)))
           first | (refine take_yes' (i := 4) (d := (some 178)) (v := ?tv24) (a' := ?ta24) rfl (by kernel_rfl) (by kernel_rfl) (by kernel_rfl) (by rfl) (fun _ _ _ h => h) ?thy24 (by assumption) rfl ?tha24 ?_; (case thy24 => (intro w hSw; (try dsimp only at hSw); simp only [List.getElem?_toArray, List.getElem?_cons_succ, List.getElem?_cons_zero, Option.map_some, Option.some.injEq]; go_simp; (try with_reducible rfl))); (case tha24 => (simp only [Act.put, List.setIfInBounds_toArray, List.set_cons_zero, List.set_cons_succ]; try rfl))) | (refine take_no' (i := 4) (d := (some 178)) (a' := ?ta24) rfl (by kernel_rfl) (by kernel_rfl) (by kernel_rfl) (by rfl) (fun _ _ _ h => h) (by assumption) rfl ?tha24 ?_; (case tha24 => (simp only [Act.put, List.setIfInBounds_toArray, List.set_cons_zero, List.set_cons_succ]; try rfl)))
           first | (refine take_yes' (i := 5) (d := (some 179)) (v := ?tv25) (a' := ?ta25) rfl (by kernel_rfl) (by kernel_rfl) (by kernel_rfl) (by rfl) (fun _ _ _ h => h) ?thy25 (by assumption) rfl ?tha25 ?_; (case thy25 => (intro w hSw; (try dsimp only at hSw); simp only [List.getElem?_toArray, List.getElem?_cons_succ, List.getElem?_cons_zero, Option.map_some, Option.some.injEq]; go_simp; (try with_reducible rfl))); (case tha25 => (simp only [Act.put, List.setIfInBounds_toArray, List.set_cons_zero, List.set_cons_succ]; try rfl))) | (refine take_no' (i := 5) (d := (some 179)) (a' := ?ta25) rfl (by kernel_rfl) (by kernel_rfl) (by kernel_rfl) (by rfl) (fun _ _ _ h => h) (by assumption) rfl ?tha25 ?_; (case tha25 => (simp only [Act.put, List.setIfInBounds_toArray, List.set_cons_zero, List.set_cons_succ]; try rfl)))
           first | (refine take_yes' (i := 6) (d := (some 180)) (v := ?tv26) (a' := ?ta26) rfl (by kernel_rfl) (by kernel_rfl) (by kernel_rfl) (by rfl) (fun _ _ _ h => h) ?thy26 (by assumption) rfl ?tha26 ?_; (case thy26 => (intro w hSw; (try dsimp only at hSw); simp only [List.getElem?_toArray, List.getElem?_cons_succ, List.getElem?_cons_zero, Option.map_some, Option.some.injEq]; go_simp; (try with_reducible rfl))); (case tha26 => (simp only [Act.put, List.setIfInBounds_toArray, List.set_cons_zero, List.set_cons_succ]; try rfl))) | (refine take_no' (i := 6) (d := (some 180)) (a' := ?ta26) rfl (by kernel_rfl) (by kernel_rfl) (by kernel_rfl) (by rfl) (fun _ _ _ h => h) (by assumption) rfl ?tha26 ?_; (case tha26 => (simp only [Act.put, List.setIfInBounds_toArray, List.set_cons_zero, List.set_cons_succ]; try rfl)))
           first | (refine take_yes' (i := 7) (d := (some 181)) (v := ?tv27) (a' := ?ta27) rfl (by kernel_rfl) (by kernel_rfl) (by kernel_rfl) (by rfl) (fun _ _ _ h => h) ?thy27 (by assumption) rfl ?tha27 ?_; (case thy27 => (intro w hSw; (try dsimp only at hSw); simp only [List.getElem?_toArray, List.getElem?_cons_succ, List.getElem?_cons_zero, Option.map_some, Option.some.injEq]; go_simp; (try with_reducible rfl))); (case tha27 => (simp only [Act.put, List.setIfInBounds_toArray, List.set_cons_zero, List.set_cons_succ]; try rfl))) | (refine take_no' (i := 7) (d := (some 181)) (a' := ?ta27) rfl (by kernel_rfl) (by kernel_rfl) (by kernel_rfl) (by rfl) (fun _ _ _ h => h) (by assumption) rfl ?tha27 ?_; (case tha27 => (simp only [Act.put, List.setIfInBounds_toArray, List.set_cons_zero, List.set_cons_succ]; try rfl)))
           first | (refine take_yes' (i := 8) (d := (some 182)) (v := ?tv28) (a' := ?ta28) rfl (by kernel_rfl) (by kernel_rfl) (by kernel_rfl) (by rfl) (fun _ _ _ h => h) ?thy28 (by assumption) rfl ?tha28 ?_; (case thy28 => (intro w hSw; (try dsimp only at hSw); simp only [List.getElem?_toArray, List.getElem?_cons_succ, List.getElem?_cons_zero, Option.map_some, Option.some.injEq]; go_simp; (try with_reducible rfl))); (case tha28 => (simp only [Act.put, List.setIfInBounds_toArray, List.set_cons_zero, List.set_cons_succ]; try rfl))) | (refine take_no' (i := 8) (d := (some 182)) (a' := ?ta28) rfl (by kernel_rfl) (by kernel_rfl) (by kernel_rfl) (by rfl) (fun _ _ _ h => h) (by assumption) rfl ?tha28 ?_; (case tha28 => (simp only [Act.put, List.setIfInBounds_toArray, List.set_cons_zero, List.set_cons_succ]; try rfl)))
           first | (refine take_yes' (i := 9) (d := (some 183)) (v := ?tv29) (a' := ?ta29) rfl (by kernel_rfl) (by kernel_rfl) (by kernel_rfl) (by rfl) (fun _ _ _ h => h) ?thy29 (by assumption) rfl ?tha29 ?_; (case thy29 => (intro w hSw; (try dsimp only at hSw); simp only [List.getElem?_toArray, List.getElem?_cons_succ, List.getElem?_cons_zero, Option.map_some, Option.some.injEq]; go_simp; (try with_reducible rfl))); (case tha29 => (simp only [Act.put, List.setIfInBounds_toArray, List.set_cons_zero, List.set_cons_succ]; try rfl))) | (refine take_no' (i := 9) (d := (some 183)) (a' := ?ta29) rfl (by kernel_rfl) (by kernel_rfl) (by kernel_rfl) (by rfl) (fun _ _ _ h => h) (by assumption) rfl ?tha29 ?_; (case tha29 => (simp only [Act.put, List.setIfInBounds_toArray, List.set_cons_zero, List.set_cons_succ]; try rfl)))
           first | (refine take_yes' (i := 10) (d := (some 184)) (v := ?tv30) (a' := ?ta30) rfl (by kernel_rfl) (by kernel_rfl) (by kernel_rfl) (by rfl) (fun _ _ _ h => h) ?thy30 (by assumption) rfl ?tha30 ?_; (case thy30 => (intro w hSw; (try dsimp only at hSw); simp only [List.getElem?_toArray, List.getElem?_cons_succ, List.getElem?_cons_zero, Option.map_some, Option.some.injEq]; go_simp; (try with_reducible rfl))); (case tha30 => (simp only [Act.put, List.setIfInBounds_toArray, List.set_cons_zero, List.set_cons_succ]; try rfl))) | (refine take_no' (i := 10) (d := (some 184)) (a' := ?ta30) rfl (by kernel_rfl) (by kernel_rfl) (by kernel_rfl) (by rfl) (fun _ _ _ h => h) (by assumption) rfl ?tha30 ?_; (case tha30 => (simp only [Act.put, List.setIfInBounds_toArray, List.set_cons_zero, List.set_cons_succ]; try rfl)))
           first | (refine take_yes' (i := 11) (d := (some 185)) (v := ?tv31) (a' := ?ta31) rfl (by kernel_rfl) (by kernel_rfl) (by kernel_rfl) (by rfl) (fun _ _ _ h => h) ?thy31 (by assumption) rfl ?tha31 ?_; (case thy31 => (intro w hSw; (try dsimp only at hSw); simp only [List.getElem?_toArray, List.getElem?_cons_succ, List.getElem?_cons_zero, Option.map_some, Option.some.injEq]; go_simp; (try with_reducible rfl))); (case tha31 => (simp only [Act.put, List.setIfInBounds_toArray, List.set_cons_zero, List.set_cons_succ]; try rfl))) | (refine take_no' (i := 11) (d := (some 185)) (a' := ?ta31) rfl (by kernel_rfl) (by kernel_rfl) (by kernel_rfl) (by rfl) (fun _ _ _ h => h) (by assumption) rfl ?tha31 ?_; (case tha31 => (simp only [Act.put, List.setIfInBounds_toArray, List.set_cons_zero, List.set_cons_succ]; try rfl)))
           first | (refine take_yes' (i := 12) (d := (some 186)) (v := ?tv32) (a' := ?ta32) rfl (by kernel_rfl) (by kernel_rfl) (by kernel_rfl) (by rfl) (fun _ _ _ h => h) ?thy32 (by assumption) rfl ?tha32 ?_; (case thy32 => (intro w hSw; (try dsimp only at hSw); simp only [List.getElem?_toArray, List.getElem?_cons_succ, List.getElem?_cons_zero, Option.map_some, Option.some.injEq]; go_simp; (try with_reducible rfl))); (case tha32 => (simp only [Act.put, List.setIfInBounds_toArray, List.set_cons_zero, List.set_cons_succ]; try rfl))) | (refine take_no' (i := 12) (d := (some 186)) (a' := ?ta32) rfl (by kernel_rfl) (by kernel_rfl) (by kernel_rfl) (by rfl) (fun _ _ _ h => h) (by assumption) rfl ?tha32 ?_; (case tha32 => (simp only [Act.put, List.setIfInBounds_toArray, List.set_cons_zero, List.set_cons_succ]; try rfl)))
           first | (refine take_yes' (i := 13) (d := (some 187)) (v := ?tv33) (a' := ?ta33) rfl (by kernel_rfl) (by kernel_rfl) (by kernel_rfl) (by rfl) (fun _ _ _ h => h) ?thy33 (by assumption) rfl ?tha33 ?_; (case thy33 => (intro w hSw; (try dsimp only at hSw); simp only [List.getElem?_toArray, List.getElem?_cons_succ, List.getElem?_cons_zero, Option.map_some, Option.some.injEq]; go_simp; (try with_reducible rfl))); (case tha33 => (simp only [Act.put, List.setIfInBounds_toArray, List.set_cons_zero, List.set_cons_succ]; try rfl))) | (refine take_no' (i := 13) (d := (some 187)) (a' := ?ta33) rfl (by kernel_rfl) (by kernel_rfl) (by kernel_rfl) (by rfl) (fun _ _ _ h => h) (by assumption) rfl ?tha33 ?_; (case tha33 => (simp only [Act.put, List.setIfInBounds_toArray, List.set_cons_zero, List.set_cons_succ]; try rfl)))
           first | (refine take_yes' (i := 14) (d := (some 188)) (v := ?tv34) (a' := ?ta34) rfl (by kernel_rfl) (by kernel_rfl) (by kernel_rfl) (by rfl) (fun _ _ _ h => h) ?thy34 (by assumption) rfl ?tha34 ?_; (case thy34 => (intro w hSw; (try dsimp only at hSw); simp only [List.getElem?_toArray, List.getElem?_cons_succ, List.getElem?_cons_zero, Option.map_some, Option.some.injEq]; go_simp; (try with_reducible rfl))); (case tha34 => (simp only [Act.put, List.setIfInBounds_toArray, List.set_cons_zero, List.set_cons_succ]; try rfl))) | (refine take_no' (i := 14) (d := (some 188)) (a' := ?ta34) rfl (by kernel_rfl) (by kernel_rfl) (by kernel_rfl) (by rfl) (fun _ _ _ h => h) (by assumption) rfl ?tha34 ?_; (case tha34 => (simp only [Act.put, List.setIfInBounds_toArray, List.set_cons_zero, List.set_cons_succ]; try rfl)))
           first | (refine take_yes' (i := 15) (d := (some 189)) (v := ?tv35) (a' := ?ta35) rfl (by kernel_rfl) (by kernel_rfl) (by kernel_rfl) (by rfl) (fun _ _ _ h => h) ?thy35 (by assumption) rfl ?tha35 ?_; (case thy35 => (intro w hSw; (try dsimp only at hSw); simp only [List.getElem?_toArray, List.getElem?_cons_succ, List.getElem?_cons_zero, Option.map_some, Option.some.injEq]; go_simp; (try with_reducible rfl))); (case tha35 => (simp only [Act.put, List.setIfInBounds_toArray, List.set_cons_zero, List.set_cons_succ]; try rfl))) | (refine take_no' (i := 15) (d := (some 189)) (a' := ?ta35) rfl (by kernel_rfl) (by kernel_rfl) (by kernel_rfl) (by rfl) (fun _ _ _ h => h) (by assumption) rfl ?tha35 ?_; (case tha35 => (simp only [Act.put, List.setIfInBounds_toArray, List.set_cons_zero, List.set_cons_succ]; try rfl)))
           first | (refine take_yes' (i := 16) (d := (some 190)) (v := ?tv36) (a' := ?ta36) rfl (by kernel_rfl) (by kernel_rfl) (by kernel_rfl) (by rfl) (fun _ _ _ h => h) ?thy36 (by assumption) rfl ?tha36 ?_; (case thy36 => (intro w hSw; (try dsimp only at hSw); simp only [List.getElem?_toArray, List.getElem?_cons_succ, List.getElem?_cons_zero, Option.map_some, Option.some.injEq]; go_simp; (try with_reducible rfl))); (case tha36 => (simp only [Act.put, List.setIfInBounds_toArray, List.set_cons_zero, List.set_cons_succ]; try rfl))) | (refine take_no' (i := 16) (d := (some 190)) (a' := ?ta36) rfl (by kernel_rfl) (by kernel_rfl) (by kernel_rfl) (by rfl) (fun _ _ _ h => h) (by assumption) rfl ?tha36 ?_; (case tha36 => (simp only [Act.put, List.setIfInBounds_toArray, List.set_cons_zero, List.set_cons_succ]; try rfl)))
           first | (refine take_yes' (i := 17) (d := (some 191)) (v := ?tv37) (a' := ?ta37) rfl (by kernel_rfl) (by kernel_rfl) (by kernel_rfl) (by rfl) (fun _ _ _ h => h) ?thy37 (by assumption) rfl ?tha37 ?_; (case thy37 => (intro w hSw; (try dsimp only at hSw); simp only [List.getElem?_toArray, List.getElem?_cons_succ, List.getElem?_cons_zero, Option.map_some, Option.some.injEq]; go_simp; (try with_reducible rfl))); (case tha37 => (simp only [Act.put, List.setIfInBounds_toArray, List.set_cons_zero, List.set_cons_succ]; try rfl))) | (refine take_no' (i := 17) (d := (some 191)) (a' := ?ta37) rfl (by kernel_rfl) (by kernel_rfl) (by kernel_rfl) (by rfl) (fun _ _ _ h => h) (by assumption) rfl ?tha37 ?_; (case tha37 => (simp only [Act.put, List.setIfInBounds_toArray, List.set_cons_zero, List.set_cons_succ]; try rfl)))
           first | (refine take_yes' (i := 18) (d := (some 192)) (v := ?tv38) (a' := ?ta38) rfl (by kernel_rfl) (by kernel_rfl) (by kernel_rfl) (by rfl) (fun _ _ _ h => h) ?thy38 (by assumption) rfl ?tha38 ?_; (case thy38 => (intro w hSw; (try dsimp only at hSw); simp only [List.getElem?_toArray, List.getElem?_cons_succ, List.getElem?_cons_zero, Option.map_some, Option.some.injEq]; go_simp; (try with_reducible rfl))); (case tha38 => (simp only [Act.put, List.setIfInBounds_toArray, List.set_cons_zero, List.set_cons_succ]; try rfl))) | (refine take_no' (i := 18) (d := (some 192)) (a' := ?ta38) rfl (by kernel_rfl) (by kernel_rfl) (by kernel_rfl) (by rfl) (fun _ _ _ h => h) (by assumption) rfl ?tha38 ?_; (case tha38 => (simp only [Act.put, List.setIfInBounds_toArray, List.set_cons_zero, List.set_cons_succ]; try rfl)))
           first | (refine take_yes' (i := 19) (d := (some 193)) (v := ?tv39) (a' := ?ta39) rfl (by kernel_rfl) (by kernel_rfl) (by kernel_rfl) (by rfl) (fun _ _ _ h => h) ?thy39 (by assumption) rfl ?tha39 ?_; (case thy39 => (intro w hSw; (try dsimp only at hSw); simp only [List.getElem?_toArray, List.getElem?_cons_succ, List.getElem?_cons_zero, Option.map_some, Option.some.injEq]; go_simp; (try with_reducible rfl))); (case tha39 => (simp only [Act.put, List.setIfInBounds_toArray, List.set_cons_zero, List.set_cons_succ]; try rfl))) | (refine take_no' (i := 19) (d := (some 193)) (a' := ?ta39) rfl (by kernel_rfl) (by kernel_rfl) (by kernel_rfl) (by rfl) (fun _ _ _ h => h) (by assumption) rfl ?tha39 ?_; (case tha39 => (simp only [Act.put, List.setIfInBounds_toArray, List.set_cons_zero, List.set_cons_succ]; try rfl)))
           refine wpAnyH_done (by kernel_rfl) ?_ _
           go_wp2_with fail
           exact ⟨⟨k + 1, by omega, by go_num, HB9⟩, by simp [intOf]; omega⟩
          ·obtain rfl : k = n := by omega
           clear hr
           go_wp2_with fail
           exact ⟨⟨i + 1, by omega, by go_num, HB⟩, by simp [intOf]; omega⟩
        ·obtain rfl : i = N3 := by omega
         have HE := HB
         go_wp2_with fail
         go_ret
         exact ⟨rfl, HE.out⟩
end Go.Proofs.YtonjphollmdicaaGreatDoor
