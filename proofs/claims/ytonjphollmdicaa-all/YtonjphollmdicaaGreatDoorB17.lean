import Derived.Test.YtonjphollmdicaaGreatDoorB01
import Derived.Test.YtonjphollmdicaaGreatDoorB04
import Derived.Test.YtonjphollmdicaaGreatDoorB06
import Derived.Test.YtonjphollmdicaaGreatDoorB09
import Derived.Test.YtonjphollmdicaaGreatDoorB16
import Derived.Maps.AppendAt
set_option maxRecDepth 100000
set_option maxHeartbeats 4000000
set_option linter.unusedSimpArgs false
namespace Go.Proofs.YtonjphollmdicaaGreatDoor
open Go.ChangeShapes Go.WideShapes Go.ChangeAt Go.RowKit
theorem Tryz.infoKT : (Tryz.prog.info? 9).map (fun i => (i.zero, i.size, i.bytes)) = some (some (.string ByteArray.empty), 1, 16) := by kernel_rfl
theorem Tryz.infoKT2 : (Tryz.prog.info? 23).map (fun i => (i.zero, i.size, i.bytes)) = some (some (.slice none 0 0), 1, 24) := by kernel_rfl
theorem Tryz.infoKT3 : (Tryz.prog.info? 3).map (fun i => (i.zero, i.size, i.bytes)) = some (some (.int .i64 0), 1, 8) := by kernel_rfl
theorem Jb {w : World} {base B : Nat} {F : Nat → Prop} {rs : Nat → Value} {T : Nat → List Value} {M : Nat → List Int} (h : BookI w base B F rs T M) (la : Option Addr) (n c : Nat) (xs : List Value) (hn : n ≤ 1000) (hM : (M 0).length + 4 ≤ 4398046511104)
  (hl : w.ownsRow base 9 1 (.slice la n c) n xs) (hF : ∀ k, (Value.slice la n c).ownBlock = some k → ¬ F k) :
  Calls Tryz.prog 55 #[.pointer (some ⟨B, 0, none⟩), .slice la n c] w (GF w base B F M 0 (.slice la n c)) := by
 obtain ⟨i0, hi, hz0, hz1, hz2⟩ := info_parts Tryz.infoKT
 obtain ⟨j0, ji, jz0, jz1, jz2⟩ := info_parts Tryz.infoKT2
 obtain ⟨k0, ki, kz0, kz1, kz2⟩ := info_parts Tryz.infoKT3
 have H := Aa h
 have HF := Aa (fun k hk => hF k (blkL_mem.1 hk) : ∀ k ∈ Ea (.slice la n c), ¬ F k)
 obtain ⟨ma, mc, hmv, -⟩ := AZ (h.rowM 0 (by omega))
 have hmv : rs 4 = .slice ma (M 0).length mc := hmv
 obtain ⟨na, nc, hnv, -⟩ := AZ (h.rowT 0 (by omega))
 have HLEN := Aa (h.len 0 (by omega))
 obtain ⟨mk, hmk⟩ : ∃ x, x = (M 0).length := ⟨_, rfl⟩
 rw [h.len 0 (by omega), ← hmk] at hnv
 rw [← hmk] at hmv hM HLEN
 have cq := (h.blk 4 _ rfl).1
 rw [hmv] at cq
 have hbase := h.bas
 have HL := Aa hl
 have HLL := Aa (fun k hk => (hl.lt k (blkL_mem.1 hk)).2 : ∀ k ∈ Ea (.slice la n c), k < w.heap.size)
 have HMK := Aa hmk
 have HMV := Aa hmv
 have HNV := Aa hnv
 clear h hl hF hmk hmv hnv
 go_enter Tryz.func55, Tryz.ntmps55
 go_wp2_with fail
 refine (Fe mk w).mono ?_
 rintro e w0 ⟨rfl, hb0⟩
 have HB0 := Aa hb0
 clear hb0
 go_wp2_with fail
 obtain ⟨m, hm⟩ : ∃ m : Int, m = (mk : Int) := ⟨_, rfl⟩
 rw [← hm]
 have HM := Aa (⟨by omega, by omega, fun _ => by omega⟩ : -4398046511104 ≤ m ∧ m ≤ 4398046511104 ∧ ((0 : Nat) ≠ 2 → 0 ≤ m))
 have HT0 := Aa (Touch.of_below HB0.out (Ea (.slice la n c)))
 have HL := Aa (Ab HL.out (Nat.le_refl _) HB0.out)
 clear hm cq HB0
 go_loopw [6] (fun i W => ∃ (k : Nat) (ys : List Value), k ≤ n ∧ i = .int .i64 (k : Int) ∧ W.ownsRow base 9 1 (.slice la n c) n ys ∧ Hid (∀ j, j < k * 1 → ys[j]? = some (.string (str (Bj m)))) ∧ Touch (Ea (.slice la n c)) w W)
  (fun i _ => n - (intOf i).toNat)
 case atStart => exact ⟨0, xs, by omega, rfl, HL.out, Aa (fun j hj => by omega), HT0.out⟩
 case round =>
  clear HL
  obtain ⟨k, ys, hk, rfl, hown, HY, ht⟩ := hrel
  by_cases hlt : k < n
  ·obtain ⟨ga, gc, ge, -, hga, -⟩ := AZ hown
   cases ge
   cases la with
   | none =>
    rcases hown.2 with ⟨_, h0⟩ | ⟨_, _, _, h0, _⟩
    ·omega
    ·cases h0
   | some ad =>
    obtain ⟨g, rfl, hgo⟩ := hga ad rfl
    have hfz := hown.frozenAt k
    have hyl : ys.length = n := by have := hown.1; simpa using this
    have hc1 : wr.cell? ⟨g, k, none⟩ = some ys[k] := by rw [hown.cellAt _ (by omega), List.getElem?_eq_getElem]
    have K1 := Aa (hown.stored k (.string (str (Bj m)))).1
    have K2 : Hid (∀ j, j < (k + 1) * 1 → (ys.set k (.string (str (Bj m))))[j]? = some (.string (str (Bj m)))) := Aa (fun j hj => by
     by_cases e : j = k
     ·subst e
      rw [List.getElem?_set_self (by omega)]
     ·rw [List.getElem?_set_ne (by omega)]
      exact HY.out j (by omega))
    have K3 := Aa (ht.setCell (x := ⟨g, k, none⟩) (.inl (blkL_mem.2 hgo)) (.string (str (Bj m))))
    clear hown HY ht hga hgo
    go_wp2_with fail
    exact ⟨⟨k + 1, _, by omega, by go_num, K1.out, K2, K3.out⟩, by simp [intOf]; omega⟩
  ·obtain rfl : k = n := by omega
   have hyl : ys.length = k := by have := hown.1; simpa using this
   have e := Gt (n := k) (p := [.string (str (Bj m))]) (ys := ys) (by simpa using hyl) (by simp) (fun i q hi hq => by
    obtain rfl : q = 0 := by simpa using hq
    simpa using HY.out i (by omega))
   subst e
   have HO := Aa hown
   have HT := Aa ht
   have hsz : base ≤ wr.heap.size := Nat.le_trans hbase ht.size
   have HS0 := Aa ht.size
   clear hown ht HY
   go_wp2_with (at_builtin; refine AI rfl (.tmp 28) (.tmp 30) 23 rfl base 9 i0 (.string ByteArray.empty) 16 [.string (str (Bj m))] Tryz.underlying23 hi hz0 hz1 hz2 rfl (by simp) (.slice la k c) k rfl (HO.out.alloc _) ⟨wr.heap.size, 0, none⟩ 1 1 rfl (by omega) (CT (EQ wr #[.string (str (Bj m))] 9) rfl) (by simp [Value.oneCell']) (by unfold maxLen; omega) (by omega) (by simp; omega) ?_)
   intro v1 w1 hg1
   have C1 := Aa (hg1.copy (N := w.heap.size) (by omega) (by simp; have := HS0.out; omega))
   have O1 := Aa hg1.2.1
   have T1 := Aa ((HT.out.alloc _).trans hg1.2.2.1)
   have hz1' : base ≤ w1.heap.size := by have := hg1.2.2.1.size; simp at this; omega
   have hs1 : w.heap.size ≤ w1.heap.size := T1.out.size
   clear hg1 HO HT HS0
   go_wp2_with (at_builtin; refine AI rfl (.tmp 32) (.tmp 35) 23 rfl base 9 i0 (.string ByteArray.empty) 16 [.string (str (Bj m))] Tryz.underlying23 hi hz0 hz1 hz2 rfl (by simp) (.slice la k c) k rfl (O1.out.alloc _) ⟨w1.heap.size, 0, none⟩ 2 2 rfl (by omega) (CT (EQ w1 #[.string (str (Bj m)), .string (str (Bj m))] 9) rfl) (by simp [Value.oneCell']) (by unfold maxLen; omega) (by omega) (by simp; omega) ?_)
   intro v2 w2 hg2
   have C12 := Aa ((C1.out.alloc _).next hg2 (by omega))
   have C2 := Aa (hg2.copy (N := w.heap.size) (by omega) (by simp; omega))
   have O2 := Aa hg2.2.1
   have T2 := Aa ((T1.out.alloc _).trans hg2.2.2.1)
   have hz2' : base ≤ w2.heap.size := by have := hg2.2.2.1.size; simp at this; omega
   have hs2 : w.heap.size ≤ w2.heap.size := T2.out.size
   clear hg2 C1 O1 T1 hz1' hs1
   go_wp2_with (at_builtin; refine AI rfl (.tmp 37) (.tmp 41) 23 rfl base 9 i0 (.string ByteArray.empty) 16 [.string (str (Bj m))] Tryz.underlying23 hi hz0 hz1 hz2 rfl (by simp) (.slice la k c) k rfl (O2.out.alloc _) ⟨w2.heap.size, 0, none⟩ 3 3 rfl (by omega) (CT (EQ w2 #[.string (str (Bj m)), .string (str (Bj m)), .string (str (Bj m))] 9) rfl) (by simp [Value.oneCell']) (by unfold maxLen; omega) (by omega) (by simp; omega) ?_)
   intro v3 w3 hg3
   have C13 := Aa ((C12.out.alloc _).next hg3 (by omega))
   have C23 := Aa ((C2.out.alloc _).next hg3 (by omega))
   have C3 := Aa (hg3.copy (N := w.heap.size) (by omega) (by simp; omega))
   have O3 := Aa hg3.2.1
   have T3 := Aa ((T2.out.alloc _).trans hg3.2.2.1)
   have hs3 : w.heap.size ≤ w3.heap.size := T3.out.size
   clear hg3 C12 C2 O2 T2 hz2' hs2
   obtain ⟨g1, c1, rfl, -⟩ := C13.out
   obtain ⟨g2, c2, rfl, -⟩ := C23.out
   obtain ⟨g3, c3, rfl, -⟩ := C3.out
   have HB3 := Aa (H.out.touch T3.out HF.out)
   have c20 := (HB3.out.blk 0 _ rfl).1
   rw [HNV.out] at c20
   have hb3 := HB3.out.bas
   have hlt3 : B < w3.heap.size := HB3.out.lt
   have HR := Aa (HB3.out.rowT 0 (by omega))
   rw [HLEN.out, HNV.out] at HR
   go_wp2_with (at_builtin; refine wpList_append_own_at _ rfl (.tmp 47) (.tmp 52) 73 rfl base 23 j0 (.slice none 0 0) 1 24 Tryz.underlying73 ji jz0 jz1 jz2 rfl (by decide) (.slice na mk nc) mk (T 0) rfl (HR.out.alloc _) ⟨w3.heap.size, 0, none⟩ 4 4 [.slice la k c, .slice (some ⟨g1, 0, none⟩) (k + 1) c1, .slice (some ⟨g2, 0, none⟩) (k + 2) c2, .slice (some ⟨g3, 0, none⟩) (k + 3) c3] rfl rfl ?c1 ?c2 (by unfold maxLen; omega) (by omega) (by simp; omega) ?_)
   case c1 => exact CS _ _ _
   case c2 =>
    intro u hu
    simp at hu
    rcases hu with rfl | rfl | rfl | rfl <;> rfl
   intro tv w4 hT4 hg4 hnil hat4
   obtain ⟨ta, tc, rfl, -⟩ := AZ hT4
   obtain ⟨⟨s2, s2f⟩, hE⟩ := Gm (j := 0) (q := 4) (m := m) H.out (by omega) rfl HNV.out HMV.out HMK.out HF.out hn HM.out T3.out O3.out C13.out C23.out C3.out hT4 hg4 hat4
   have HE := Aa hE
   clear hT4 hg4 hat4 hnil hE HR c20 hb3 HB3 HF HLL C13 C23 C3 O3 T3 HM
   go_wp2_with fail
   obtain ⟨W5, hW5⟩ : ∃ X, X = w4.setCell ⟨B, 0, none⟩ (.slice ta (mk + 4) tc) := ⟨_, rfl⟩
   rw [← hW5]
   obtain ⟨cq, hmo, hlt5, hb5, he⟩ := HE.out W5 hW5
   have M2 := Aa hmo
   have HQ := Aa he
   clear hW5 s2 s2f HE hmo he
   refine wp_region_held_drew (S := fun _ => True) (by kernel_rfl) trivial (fun hHeld => ?_)
   first | (refine take_yes' (i := 0) (d := (some 56)) (v := ?tv1) (a' := ?ta1) rfl (by kernel_rfl) (by kernel_rfl) (by kernel_rfl) (by rfl) (fun _ _ _ h => h) ?thy1 (by assumption) rfl ?tha1 ?_; (case thy1 => (intro w hSw; (try dsimp only at hSw); simp only [List.getElem?_toArray, List.getElem?_cons_succ, List.getElem?_cons_zero, Option.map_some, Option.some.injEq]; go_simp; (try with_reducible rfl))); (case tha1 => (simp only [Act.put, List.setIfInBounds_toArray, List.set_cons_zero, List.set_cons_succ]; try rfl))) | (refine take_no' (i := 0) (d := (some 56)) (a' := ?ta1) rfl (by kernel_rfl) (by kernel_rfl) (by kernel_rfl) (by rfl) (fun _ _ _ h => h) (by assumption) rfl ?tha1 ?_; (case tha1 => (simp only [Act.put, List.setIfInBounds_toArray, List.set_cons_zero, List.set_cons_succ]; try rfl)))
   first | (refine take_yes' (i := 1) (d := (some 57)) (v := ?tv2) (a' := ?ta2) rfl (by kernel_rfl) (by kernel_rfl) (by kernel_rfl) (by rfl) (fun _ _ _ h => h) ?thy2 (by assumption) rfl ?tha2 ?_; (case thy2 => (intro w hSw; (try dsimp only at hSw); simp only [List.getElem?_toArray, List.getElem?_cons_succ, List.getElem?_cons_zero, Option.map_some, Option.some.injEq]; go_simp; (try with_reducible rfl))); (case tha2 => (simp only [Act.put, List.setIfInBounds_toArray, List.set_cons_zero, List.set_cons_succ]; try rfl))) | (refine take_no' (i := 1) (d := (some 57)) (a' := ?ta2) rfl (by kernel_rfl) (by kernel_rfl) (by kernel_rfl) (by rfl) (fun _ _ _ h => h) (by assumption) rfl ?tha2 ?_; (case tha2 => (simp only [Act.put, List.setIfInBounds_toArray, List.set_cons_zero, List.set_cons_succ]; try rfl)))
   first | (refine take_yes' (i := 2) (d := (some 58)) (v := ?tv3) (a' := ?ta3) rfl (by kernel_rfl) (by kernel_rfl) (by kernel_rfl) (by rfl) (fun _ _ _ h => h) ?thy3 (by assumption) rfl ?tha3 ?_; (case thy3 => (intro w hSw; (try dsimp only at hSw); simp only [List.getElem?_toArray, List.getElem?_cons_succ, List.getElem?_cons_zero, Option.map_some, Option.some.injEq]; go_simp; (try with_reducible rfl))); (case tha3 => (simp only [Act.put, List.setIfInBounds_toArray, List.set_cons_zero, List.set_cons_succ]; try rfl))) | (refine take_no' (i := 2) (d := (some 58)) (a' := ?ta3) rfl (by kernel_rfl) (by kernel_rfl) (by kernel_rfl) (by rfl) (fun _ _ _ h => h) (by assumption) rfl ?tha3 ?_; (case tha3 => (simp only [Act.put, List.setIfInBounds_toArray, List.set_cons_zero, List.set_cons_succ]; try rfl)))
   first | (refine take_yes' (i := 3) (d := (some 59)) (v := ?tv4) (a' := ?ta4) rfl (by kernel_rfl) (by kernel_rfl) (by kernel_rfl) (by rfl) (fun _ _ _ h => h) ?thy4 (by assumption) rfl ?tha4 ?_; (case thy4 => (intro w hSw; (try dsimp only at hSw); simp only [List.getElem?_toArray, List.getElem?_cons_succ, List.getElem?_cons_zero, Option.map_some, Option.some.injEq]; go_simp; (try with_reducible rfl))); (case tha4 => (simp only [Act.put, List.setIfInBounds_toArray, List.set_cons_zero, List.set_cons_succ]; try rfl))) | (refine take_no' (i := 3) (d := (some 59)) (a' := ?ta4) rfl (by kernel_rfl) (by kernel_rfl) (by kernel_rfl) (by rfl) (fun _ _ _ h => h) (by assumption) rfl ?tha4 ?_; (case tha4 => (simp only [Act.put, List.setIfInBounds_toArray, List.set_cons_zero, List.set_cons_succ]; try rfl)))
   first | (refine take_yes' (i := 4) (d := (some 60)) (v := ?tv5) (a' := ?ta5) rfl (by kernel_rfl) (by kernel_rfl) (by kernel_rfl) (by rfl) (fun _ _ _ h => h) ?thy5 (by assumption) rfl ?tha5 ?_; (case thy5 => (intro w hSw; (try dsimp only at hSw); simp only [List.getElem?_toArray, List.getElem?_cons_succ, List.getElem?_cons_zero, Option.map_some, Option.some.injEq]; go_simp; (try with_reducible rfl))); (case tha5 => (simp only [Act.put, List.setIfInBounds_toArray, List.set_cons_zero, List.set_cons_succ]; try rfl))) | (refine take_no' (i := 4) (d := (some 60)) (a' := ?ta5) rfl (by kernel_rfl) (by kernel_rfl) (by kernel_rfl) (by rfl) (fun _ _ _ h => h) (by assumption) rfl ?tha5 ?_; (case tha5 => (simp only [Act.put, List.setIfInBounds_toArray, List.set_cons_zero, List.set_cons_succ]; try rfl)))
   first | (refine take_yes' (i := 6) (d := (some 62)) (v := ?tv6) (a' := ?ta6) rfl (by kernel_rfl) (by kernel_rfl) (by kernel_rfl) (by rfl) (fun _ _ _ h => h) ?thy6 (by assumption) rfl ?tha6 ?_; (case thy6 => (intro w hSw; (try dsimp only at hSw); simp only [List.getElem?_toArray, List.getElem?_cons_succ, List.getElem?_cons_zero, Option.map_some, Option.some.injEq]; go_simp; (try with_reducible rfl))); (case tha6 => (simp only [Act.put, List.setIfInBounds_toArray, List.set_cons_zero, List.set_cons_succ]; try rfl))) | (refine take_no' (i := 6) (d := (some 62)) (a' := ?ta6) rfl (by kernel_rfl) (by kernel_rfl) (by kernel_rfl) (by rfl) (fun _ _ _ h => h) (by assumption) rfl ?tha6 ?_; (case tha6 => (simp only [Act.put, List.setIfInBounds_toArray, List.set_cons_zero, List.set_cons_succ]; try rfl)))
   first | (refine take_yes' (i := 7) (d := (some 63)) (v := ?tv7) (a' := ?ta7) rfl (by kernel_rfl) (by kernel_rfl) (by kernel_rfl) (by rfl) (fun _ _ _ h => h) ?thy7 (by assumption) rfl ?tha7 ?_; (case thy7 => (intro w hSw; (try dsimp only at hSw); simp only [List.getElem?_toArray, List.getElem?_cons_succ, List.getElem?_cons_zero, Option.map_some, Option.some.injEq]; go_simp; (try with_reducible rfl))); (case tha7 => (simp only [Act.put, List.setIfInBounds_toArray, List.set_cons_zero, List.set_cons_succ]; try rfl))) | (refine take_no' (i := 7) (d := (some 63)) (a' := ?ta7) rfl (by kernel_rfl) (by kernel_rfl) (by kernel_rfl) (by rfl) (fun _ _ _ h => h) (by assumption) rfl ?tha7 ?_; (case tha7 => (simp only [Act.put, List.setIfInBounds_toArray, List.set_cons_zero, List.set_cons_succ]; try rfl)))
   first | (refine take_yes' (i := 8) (d := (some 64)) (v := ?tv8) (a' := ?ta8) rfl (by kernel_rfl) (by kernel_rfl) (by kernel_rfl) (by rfl) (fun _ _ _ h => h) ?thy8 (by assumption) rfl ?tha8 ?_; (case thy8 => (intro w hSw; (try dsimp only at hSw); simp only [List.getElem?_toArray, List.getElem?_cons_succ, List.getElem?_cons_zero, Option.map_some, Option.some.injEq]; go_simp; (try with_reducible rfl))); (case tha8 => (simp only [Act.put, List.setIfInBounds_toArray, List.set_cons_zero, List.set_cons_succ]; try rfl))) | (refine take_no' (i := 8) (d := (some 64)) (a' := ?ta8) rfl (by kernel_rfl) (by kernel_rfl) (by kernel_rfl) (by rfl) (fun _ _ _ h => h) (by assumption) rfl ?tha8 ?_; (case tha8 => (simp only [Act.put, List.setIfInBounds_toArray, List.set_cons_zero, List.set_cons_succ]; try rfl)))
   first | (refine take_yes' (i := 9) (d := (some 65)) (v := ?tv9) (a' := ?ta9) rfl (by kernel_rfl) (by kernel_rfl) (by kernel_rfl) (by rfl) (fun _ _ _ h => h) ?thy9 (by assumption) rfl ?tha9 ?_; (case thy9 => (intro w hSw; (try dsimp only at hSw); simp only [List.getElem?_toArray, List.getElem?_cons_succ, List.getElem?_cons_zero, Option.map_some, Option.some.injEq]; go_simp; (try with_reducible rfl))); (case tha9 => (simp only [Act.put, List.setIfInBounds_toArray, List.set_cons_zero, List.set_cons_succ]; try rfl))) | (refine take_no' (i := 9) (d := (some 65)) (a' := ?ta9) rfl (by kernel_rfl) (by kernel_rfl) (by kernel_rfl) (by rfl) (fun _ _ _ h => h) (by assumption) rfl ?tha9 ?_; (case tha9 => (simp only [Act.put, List.setIfInBounds_toArray, List.set_cons_zero, List.set_cons_succ]; try rfl)))
   first | (refine take_yes' (i := 12) (d := (some 68)) (v := ?tv10) (a' := ?ta10) rfl (by kernel_rfl) (by kernel_rfl) (by kernel_rfl) (by rfl) (fun _ _ _ h => h) ?thy10 (by assumption) rfl ?tha10 ?_; (case thy10 => (intro w hSw; (try dsimp only at hSw); simp only [List.getElem?_toArray, List.getElem?_cons_succ, List.getElem?_cons_zero, Option.map_some, Option.some.injEq]; go_simp; (try with_reducible rfl))); (case tha10 => (simp only [Act.put, List.setIfInBounds_toArray, List.set_cons_zero, List.set_cons_succ]; try rfl))) | (refine take_no' (i := 12) (d := (some 68)) (a' := ?ta10) rfl (by kernel_rfl) (by kernel_rfl) (by kernel_rfl) (by rfl) (fun _ _ _ h => h) (by assumption) rfl ?tha10 ?_; (case tha10 => (simp only [Act.put, List.setIfInBounds_toArray, List.set_cons_zero, List.set_cons_succ]; try rfl)))
   first | (refine take_yes' (i := 13) (d := (some 69)) (v := ?tv11) (a' := ?ta11) rfl (by kernel_rfl) (by kernel_rfl) (by kernel_rfl) (by rfl) (fun _ _ _ h => h) ?thy11 (by assumption) rfl ?tha11 ?_; (case thy11 => (intro w hSw; (try dsimp only at hSw); simp only [List.getElem?_toArray, List.getElem?_cons_succ, List.getElem?_cons_zero, Option.map_some, Option.some.injEq]; go_simp; (try with_reducible rfl))); (case tha11 => (simp only [Act.put, List.setIfInBounds_toArray, List.set_cons_zero, List.set_cons_succ]; try rfl))) | (refine take_no' (i := 13) (d := (some 69)) (a' := ?ta11) rfl (by kernel_rfl) (by kernel_rfl) (by kernel_rfl) (by rfl) (fun _ _ _ h => h) (by assumption) rfl ?tha11 ?_; (case tha11 => (simp only [Act.put, List.setIfInBounds_toArray, List.set_cons_zero, List.set_cons_succ]; try rfl)))
   refine step_two (i := 5) (j := 10) (by kernel_rfl) (fun K o ho hK => ?_) (fun K o ho hK => ?_)
   focus
    simp only [gA, gB, gC, gE] at ho
    subst ho
    go_simp
    refine hK.out _ _ ?_ (fun hHeld => ?_)
    focus trivial
    clear hK K
    try simp only [Act.put, sA, sB, sC]
    refine step_one (i := 10) (by kernel_rfl) (fun K o ho hK => ?_)
    simp only [gA, gB, gC, gE] at ho
    subst ho
    go_simp
    refine hK.out _ _ ?_ (fun hHeld => ?_)
    focus trivial
    clear hK K
    try simp only [Act.put, sA, sB, sC]
    refine step_one (i := 11) (by kernel_rfl) (fun K o ho hK => ?_)
    simp only [gA, gB, gC, gE] at ho
    subst ho
    rw [if_pos (by rfl)]
    refine BE _ (.tmp 61) (.tmp 66) 31 rfl base 3 k0 (.int .i64 0) 1 8 Tryz.underlying31 ki kz0 kz1 kz2 rfl (by decide) (.slice ma mk mc) mk ((M 0).map (Value.int .i64)) rfl (M2.out.alloc _) ⟨W5.heap.size, 0, none⟩ 4 4 [.int .i64 m, .int .i64 m, .int .i64 m, .int .i64 m] rfl rfl (CS _ _ _) (by simp [Value.oneCell']) (by unfold maxLen; omega) (by omega) (by simp; omega) ?_
    intro mv w6 hM6 hg6 hat6
    obtain ⟨va, vc, rfl, -⟩ := AZ hM6
    obtain ⟨⟨q6, q6f⟩, hfin⟩ := HQ.out _ w6 hg6
    have HFIN := Aa (hfin _ hM6 (hat6.imp id (fun e => by rw [e]; simp)))
    clear hM6 hg6 hat6 hfin
    refine hK.out _ _ ?_ (fun hHeld => ?_)
    focus trivial
    clear hK K
    try simp only [Act.put, sA, sB, sC]
    first | (refine take_yes' (i := 14) (d := (some 70)) (v := ?tv12) (a' := ?ta12) rfl (by kernel_rfl) (by kernel_rfl) (by kernel_rfl) (by rfl) (fun _ _ _ h => h) ?thy12 (by assumption) rfl ?tha12 ?_; (case thy12 => (intro w hSw; (try dsimp only at hSw); simp only [List.getElem?_toArray, List.getElem?_cons_succ, List.getElem?_cons_zero, Option.map_some, Option.some.injEq]; go_simp; (try with_reducible rfl))); (case tha12 => (simp only [Act.put, List.setIfInBounds_toArray, List.set_cons_zero, List.set_cons_succ]; try rfl))) | (refine take_no' (i := 14) (d := (some 70)) (a' := ?ta12) rfl (by kernel_rfl) (by kernel_rfl) (by kernel_rfl) (by rfl) (fun _ _ _ h => h) (by assumption) rfl ?tha12 ?_; (case tha12 => (simp only [Act.put, List.setIfInBounds_toArray, List.set_cons_zero, List.set_cons_succ]; try rfl)))
    refine step_one (i := 15) (by kernel_rfl) (fun K o ho hK => ?_)
    simp only [gA, gB, gC, gE] at ho
    subst ho
    go_simp
    refine hK.out _ _ ?_ (fun hHeld => ?_)
    focus trivial
    clear hK K
    try simp only [Act.put, sA, sB, sC]
    refine wpAnyH_done (by kernel_rfl) ?_ _
    go_wp2_with fail
    go_end0
    exact HFIN.out
   focus
    simp only [gA, gB, gC, gE] at ho
    subst ho
    go_simp
    refine hK.out _ _ ?_ (fun hHeld => ?_)
    focus trivial
    clear hK K
    try simp only [Act.put, sA, sB, sC]
    refine step_one (i := 5) (by kernel_rfl) (fun K o ho hK => ?_)
    simp only [gA, gB, gC, gE] at ho
    subst ho
    go_simp
    refine hK.out _ _ ?_ (fun hHeld => ?_)
    focus trivial
    clear hK K
    try simp only [Act.put, sA, sB, sC]
    refine step_one (i := 11) (by kernel_rfl) (fun K o ho hK => ?_)
    simp only [gA, gB, gC, gE] at ho
    subst ho
    rw [if_pos (by rfl)]
    refine BE _ (.tmp 61) (.tmp 66) 31 rfl base 3 k0 (.int .i64 0) 1 8 Tryz.underlying31 ki kz0 kz1 kz2 rfl (by decide) (.slice ma mk mc) mk ((M 0).map (Value.int .i64)) rfl (M2.out.alloc _) ⟨W5.heap.size, 0, none⟩ 4 4 [.int .i64 m, .int .i64 m, .int .i64 m, .int .i64 m] rfl rfl (CS _ _ _) (by simp [Value.oneCell']) (by unfold maxLen; omega) (by omega) (by simp; omega) ?_
    intro mv w6 hM6 hg6 hat6
    obtain ⟨va, vc, rfl, -⟩ := AZ hM6
    obtain ⟨⟨q6, q6f⟩, hfin⟩ := HQ.out _ w6 hg6
    have HFIN := Aa (hfin _ hM6 (hat6.imp id (fun e => by rw [e]; simp)))
    clear hM6 hg6 hat6 hfin
    refine hK.out _ _ ?_ (fun hHeld => ?_)
    focus trivial
    clear hK K
    try simp only [Act.put, sA, sB, sC]
    first | (refine take_yes' (i := 14) (d := (some 70)) (v := ?tv13) (a' := ?ta13) rfl (by kernel_rfl) (by kernel_rfl) (by kernel_rfl) (by rfl) (fun _ _ _ h => h) ?thy13 (by assumption) rfl ?tha13 ?_; (case thy13 => (intro w hSw; (try dsimp only at hSw); simp only [List.getElem?_toArray, List.getElem?_cons_succ, List.getElem?_cons_zero, Option.map_some, Option.some.injEq]; go_simp; (try with_reducible rfl))); (case tha13 => (simp only [Act.put, List.setIfInBounds_toArray, List.set_cons_zero, List.set_cons_succ]; try rfl))) | (refine take_no' (i := 14) (d := (some 70)) (a' := ?ta13) rfl (by kernel_rfl) (by kernel_rfl) (by kernel_rfl) (by rfl) (fun _ _ _ h => h) (by assumption) rfl ?tha13 ?_; (case tha13 => (simp only [Act.put, List.setIfInBounds_toArray, List.set_cons_zero, List.set_cons_succ]; try rfl)))
    refine step_one (i := 15) (by kernel_rfl) (fun K o ho hK => ?_)
    simp only [gA, gB, gC, gE] at ho
    subst ho
    go_simp
    refine hK.out _ _ ?_ (fun hHeld => ?_)
    focus trivial
    clear hK K
    try simp only [Act.put, sA, sB, sC]
    refine wpAnyH_done (by kernel_rfl) ?_ _
    go_wp2_with fail
    go_end0
    exact HFIN.out
theorem Ok (fs : List Aj) (b x : Int) (a : Option Addr) (cap : Nat) (w : World) (hh : Handed w fs a cap) :
  Calls Tryz.prog 37 #[.slice a fs.length cap, .int .i64 b, .int .i64 x] w fun e w' => ∃ al cl, e = .returned (.tuple #[.slice al (IX fs b x).1.length cl, .int .i64 (IX fs b x).2]) ∧ w'.ownsRow w.heap.size 9 1 (.slice al (IX fs b x).1.length cl) (IX fs b x).1.length (AL (IX fs b x).1) ∧ Below w.heap.size w w' := by
 unfold IX
 by_cases h1 : Fl b x = true
 ·rw [if_pos h1]
  refine (Oy fs b x a cap h1 w).mono ?_
  rintro e w' ⟨rfl, hb⟩
  exact ⟨none, 0, rfl, World.ownsRow_nil _ _ _ _, hb⟩
 ·rw [if_neg h1]
  obtain ⟨size, extra, hb, hx, h0, h32, hev, hex, hss⟩ := Ht (by simpa using h1)
  have e1 : b.toNat = size := by omega
  have e2 : x.toNat = extra := by omega
  rw [e1, e2]
  by_cases h2 : CO fs size = true
  ·rw [if_pos h2]
   refine (Lu fs b x size extra a cap hb hx h0 h32 hev hex hss h2 w hh).mono ?_
   rintro e w' ⟨v, rfl, hown, hbl⟩
   obtain ⟨al, cl, rfl, _, _, _⟩ := Av hown
   exact ⟨al, cl, by rw [Df], by rw [Df]; exact hown, hbl⟩
  ·rw [if_neg h2]
   refine (Mc fs b x size extra a cap hb hx h0 h32 hex hss (by simpa using h2) w hh).mono ?_
   rintro e w' ⟨rfl, hbl⟩
   exact ⟨none, 0, rfl, World.ownsRow_nil _ _ _ _, hbl⟩
theorem MT {base B : Nat} {rs : Nat → Value} {T : Nat → List Value} {M : Nat → List Int} (a b : Nat) (fs : List Aj) (bx ex : Int) (sa : Option Addr) (sc : Nat) (u6 u7 u8 : Value) (ha : sa = none → sc = 0) (hn : fs.length + 8 ≤ 4398046511104) (w : World) (hbk : BookI w base B (· < w.heap.size) rs T M) (hMs : ∀ j, j < 4 → (M j).length + 4 ≤ 4398046511104) (hh : Handed w fs sa sc) :
  Calls Tryz.prog 34 #[.pointer (some ⟨B, 0, none⟩), .agg #[.int .i64 2, .int .u16 (a : Int), .int .u16 (b : Int), .slice sa fs.length sc, .int .i64 bx, .int .i64 ex, u6, u7, u8]] w (Eo w base B M) := by
 have HH := Aa hh
 have HL := Aa (fun W (hW : Below w.heap.size w W) => En fs sa sc ha hn W (hh.rd.later (Nat.le_refl _) hW))
 have hC := fun W a' c' (hW : Handed W fs a' c') => Ok fs bx ex a' c' W hW
 have hR := fun W a' c' (hW : Handed W fs a' c') => IV fs bx ex a' c' W hW
 have hlen := Nn fs bx ex
 have HW := Aa (fun v W (h1 : Below w.heap.size w W) (h2 : Lent W w.heap.size v fs) => DT fs sa sc v w W hn hh.short hh.rd h1 h2)
 have HLH : Hid (∀ W base v, Lent W base v fs → ∃ a c, v = .slice a fs.length c ∧ Handed W fs a c) := Aa (fun W base v h => h.handed hh.short)
 have HBK := Aa (fun W (hW : Below w.heap.size w W) => hbk.later (fun _ hk => hk) hW)
 have hbs := hbk.bas
 have hM0 := hMs 0 (by omega)
 have HLK := Aa (fun W (hW : Below w.heap.size w W) => Dt (hbk.later (fun _ hk => hk) hW) (fun j hj => by have := hMs j hj; omega))
 obtain ⟨L, hLe⟩ : ∃ y, y = (IX fs bx ex).1 := ⟨_, rfl⟩
 obtain ⟨er, her⟩ : ∃ y, y = (IX fs bx ex).2 := ⟨_, rfl⟩
 rw [← hLe, ← her] at hC hR
 rw [← hLe] at hlen
 obtain ⟨nL, hnL⟩ : ∃ y, y = L.length := ⟨_, rfl⟩
 have HNL := Aa hnL
 rw [← hnL] at hC hR hlen
 have HC := Aa hC
 have HR := Aa hR
 obtain ⟨n, hN⟩ : ∃ n, n = fs.length := ⟨_, rfl⟩
 rw [← hN] at HL HC HR HW HLH ⊢
 clear hC hR hLe her hh hn ha hbk hMs hN hnL
 go_enter Tryz.func34, Tryz.ntmps34
 go_wp2_with fail
 obtain ⟨w1, hw1⟩ : ∃ X, X = w.alloc (.cells #[.int .i64 2, .int .u16 (a : Int), .int .u16 (b : Int), .slice sa n sc, .int .i64 bx, .int .i64 ex, u6, u7, u8] 82) := ⟨_, rfl⟩
 rw [← hw1]
 have hb1 : Below w.heap.size w w1 := by rw [hw1]; exact (Below.refl _ _).alloc (Nat.le_refl _) _
 have hp1 : Blk w1 w.heap.size [.int .i64 2, .int .u16 (a : Int), .int .u16 (b : Int), .slice sa n sc, .int .i64 bx, .int .i64 ex, u6, u7, u8] := by rw [hw1]; exact Blk.new w _ _
 have A1 := Aa hb1
 have P1 := Aa hp1
 clear hb1 hp1 hw1
 refine (HL.out w1 A1.out).mono ?_
 rintro e w2 ⟨v2, rfl, hl2, hb2⟩
 have hsz1 := A1.out.size
 obtain ⟨ag, cg, rfl, hh2⟩ := HLH.out w2 _ _ hl2
 have B1 := Aa (Below.next A1.out hb2)
 have B2 := Aa (hl2.base hsz1)
 have B3 := Aa hh2
 have P2 := Aa (P1.out.touch (Touch.of_below hb2 []) (by simp))
 have hgl : ∀ k, (Value.slice ag n cg).ownBlock = some k → w.heap.size ≤ k ∧ k < w2.heap.size := fun k hk => by
  obtain ⟨gg, c, e, _, ho⟩ := hl2
  have := ho.lt k (by rw [e] at hk; exact hk)
  omega
 have GL := Aa hgl
 clear hgl
 have p4 := (P2.out 4 _ rfl).1
 have p5 := (P2.out 5 _ rfl).1
 clear hl2 hb2 hh2 A1 P1
 go_wp2_with fail
 refine (HC.out w2 ag cg B3.out).mono ?_
 rintro e w3 ⟨al, cl, rfl, hr3, hb3⟩
 have C1 := Aa (Below.next B1.out hb3)
 have C2 := Aa (B2.out.later hb3)
 have C3 := Aa hr3
 have P3 := Aa (P2.out.touch (Touch.of_below hb3 []) (by simp))
 have p3 := (P3.out 3 _ rfl).1
 have p4 := (P3.out 4 _ rfl).1
 have p5 := (P3.out 5 _ rfl).1
 have z23 : w2.heap.size ≤ w3.heap.size := hb3.size
 have z02 : w.heap.size ≤ w2.heap.size := B1.out.size
 clear hr3 hb3 B1 B2 B3 P2
 go_wp2_with fail
 refine (HR.out w3 sa sc (HH.out.later C1.out)).mono ?_
 rintro e w4 ⟨am, cm, rfl, hr4, hb4⟩
 have D1 := Aa (Below.next C1.out hb4)
 have D2 := Aa (C2.out.later hb4)
 have D3 := Aa (Ab C3.out (Nat.le_refl _) hb4)
 have D4 := Aa hr4
 have P4 := Aa (P3.out.touch (Touch.of_below hb4 []) (by simp))
 have z34 : w3.heap.size ≤ w4.heap.size := hb4.size
 clear hr4 hb4 C1 C2 C3 P3
 go_wp2_with fail
 refine (HLK.out w4 D1.out).mono ?_
 rintro e wk ⟨rfl, hbk⟩
 have D1 := Aa (Below.next D1.out hbk)
 have D2 := Aa (D2.out.later hbk)
 have D3 := Aa (Ab D3.out (Nat.le_refl _) hbk)
 have D4 := Aa (Ab D4.out (Nat.le_refl _) hbk)
 have p3 := ((P4.out.touch (Touch.of_below hbk []) (by simp)) 3 _ rfl).1
 have z4k : w4.heap.size ≤ wk.heap.size := hbk.size
 clear hbk P4
 go_wp2_with fail
 refine (HW.out _ wk D1.out D2.out).mono ?_
 rintro e w5 ⟨rfl, hg5⟩
 have t5 : Touch (Ea (.slice ag n cg)) wk w5 := Touch.of_row hg5
 have m5 : ∀ x ∈ Ea (.slice ag n cg), w.heap.size ≤ x ∧ x < w2.heap.size := fun x hx => GL.out x (blkL_mem.1 hx)
 have hb5 : Below w.heap.size w w5 := D1.out.trans (t5.below (by omega) (fun x hx => (m5 x hx).1))
 have e3 := Ac D3.out t5 (fun x hx => (m5 x hx).2)
 have e4 := Ac D4.out t5 (fun x hx => by have := (m5 x hx).2; omega)
 obtain ⟨al', cl', ee3, hr3⟩ := AC e3
 cases ee3
 obtain ⟨am', cm', ee4, hr4⟩ := AC e4
 cases ee4
 have hST := IC L L al am cl cm (by rw [← HNL.out]; omega) (by rw [← HNL.out]; omega) w5 hr3 hr4
 rw [show (L == L) = true from by simp, ← HNL.out] at hST
 have E1 := Aa hb5
 have E2 := Aa hST
 have E3 := Aa e3
 clear hb5 hST e3 e4 hr3 hr4 hg5 t5 m5 D1 D2 D3 D4 GL
 go_wp2_with fail
 refine E2.out.mono ?_
 rintro e wA ⟨rfl, hbA⟩
 have HBWA := Aa (Below.next E1.out hbA)
 have HKT := Aa (Jb (HBK.out wA HBWA.out) al nL cl (AL L) hlen hM0 (Ad (by omega) (Ab E3.out (Nat.le_refl _) hbA)) (fun k hk => by have := (E3.out.lt k hk).1; omega))
 clear hbA E1 E2 E3
 go_wp2_with fail
 refine HKT.out.mono ?_
 rintro e wK hres
 obtain ⟨rfl, hkb, -, rs', T', M', hbook, hlen'⟩ := hres
 have HFIN : Hid (Eo w base B M (.returned (.bool true)) wK) := Aa ⟨rfl, (HBWA.out.mono hbs).trans hkb, rs', T', M', hbook.mono (fun k hk => hbook.le k hk) (fun _ hk => hk), fun j => by rw [hlen']; split <;> omega⟩
 clear hkb hbook hlen' HKT HBWA
 go_wp2_with fail
 refine (Ew er wK).mono ?_
 rintro e wB ⟨rfl, hwB⟩
 have hwB := hwB.symm
 subst hwB
 go_wp2_with fail
 refine (Ew er wK).mono ?_
 rintro e wB ⟨rfl, hwB⟩
 have hwB := hwB.symm
 subst hwB
 go_wp2_with fail
 go_ret
 exact HFIN.out
def rdT (s : List UInt8 × Bool) (n : Nat) : List UInt8 := if n ≤ s.1.length then s.1.take n else []
def rdS (s : List UInt8 × Bool) (n : Nat) : List UInt8 × Bool := if n ≤ s.1.length then (s.1.drop n, s.2) else ([], true)
def KM (r : List UInt8) : List Nat := (List.range ((r.length + 7) / 8)).map fun i => CZ (rdT (r.drop (8 * i), false) 8)
def IW (s : List UInt8 × Bool) : List UInt8 × Bool := ([], s.2 || decide (s.1.length % 8 ≠ 0))
theorem Dp (s : List UInt8 × Bool) (n : Nat) : (rdT s n).length ≤ n := by
 unfold rdT; split
 ·rw [List.length_take]; omega
 ·simp
theorem Cf (s : List UInt8 × Bool) (n : Nat) : (rdS s n).1.length ≤ s.1.length := by
 unfold rdS; split
 ·simp
 ·simp
theorem Rv (s : List UInt8 × Bool) (n : Nat) : (rdT s n).length ≤ s.1.length := by
 unfold rdT; split
 ·rw [List.length_take]; omega
 ·simp
theorem Be {s : List UInt8 × Bool} (h : s.2 = true) (n : Nat) : (rdS s n).2 = true := by
 unfold rdS; split
 ·exact h
 ·rfl
theorem CL {s : List UInt8 × Bool} {n : Nat} (h : n ≤ s.1.length) : rdT s n = s.1.take n := if_pos h
theorem BI {s : List UInt8 × Bool} {n : Nat} (h : n ≤ s.1.length) : rdS s n = (s.1.drop n, s.2) := if_pos h
theorem Sw {s : List UInt8 × Bool} {n : Nat} (h : s.1.length < n) : rdT s n = [] := if_neg (by omega)
theorem DC {s : List UInt8 × Bool} {n : Nat} (h : s.1.length < n) : rdS s n = ([], true) := if_neg (by omega)
theorem QR : KM [] = [] := rfl
theorem Dk (r : List UInt8) : (KM r).length = (r.length + 7) / 8 := by simp [KM]
theorem Pm (s : List UInt8 × Bool) (h : s.1 ≠ []) : KM s.1 = CZ (rdT s 8) :: KM (rdS s 8).1 := by
 obtain ⟨r, sh⟩ := s
 have h0 : 0 < r.length := List.length_pos_iff.2 h
 unfold KM rdS
 simp only
 by_cases h8 : 8 ≤ r.length
 ·rw [if_pos h8]
  simp only [List.length_drop]
  rw [show (r.length + 7) / 8 = (r.length - 8 + 7) / 8 + 1 from by omega, List.range_succ_eq_map, List.map_cons, List.map_map]
  congr 1
  apply List.map_congr_left
  intro i _
  simp only [Function.comp, List.drop_drop]
  rw [show 8 * i.succ = 8 + 8 * i from by omega]
 ·rw [if_neg h8]
  rw [show (r.length + 7) / 8 = 1 from by omega]
  simp [List.range_succ, rdT]
theorem Pw (s : List UInt8 × Bool) (h : s.1 ≠ []) : IW (rdS s 8) = IW s := by
 obtain ⟨r, sh⟩ := s
 have h0 : 0 < r.length := List.length_pos_iff.2 h
 unfold IW rdS
 simp only
 by_cases h8 : 8 ≤ r.length
 ·rw [if_pos h8]
  simp only [List.length_drop]
  rw [show (r.length - 8) % 8 = r.length % 8 from by omega]
 ·rw [if_neg h8]
  simp only [Prod.mk.injEq, true_and, Bool.true_or]
  rw [decide_eq_true (by omega : r.length % 8 ≠ 0), Bool.or_true]
theorem Gs (l : List UInt8) (k : Nat) (h : k < l.length) : (l.drop k).take 1 = [l.getD k 0] := by
 rw [List.drop_eq_getElem_cons h, List.take_succ_cons, List.take_zero]
 simp [h]
end Go.Proofs.YtonjphollmdicaaGreatDoor
