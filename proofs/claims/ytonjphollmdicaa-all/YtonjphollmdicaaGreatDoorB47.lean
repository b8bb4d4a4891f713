import Derived.Test.YtonjphollmdicaaGreatDoorB04
import Derived.Test.YtonjphollmdicaaGreatDoorB06
import Derived.Test.YtonjphollmdicaaGreatDoorB46
import Derived.Maps.AppendAt
set_option maxRecDepth 100000
set_option maxHeartbeats 4000000
set_option linter.unusedSimpArgs false
namespace Go.Proofs.YtonjphollmdicaaGreatDoor
open Go.ChangeShapes Go.WideShapes Go.ChangeAt Go.RowKit
theorem Tryz.infoKF : (Tryz.prog.info? 62).map (fun i => (i.zero, i.size, i.bytes)) = some (some (.agg #[.string ByteArray.empty, .string ByteArray.empty]), 2, 32) := by kernel_rfl
theorem Tryz.infoKF2 : (Tryz.prog.info? 22).map (fun i => (i.zero, i.size, i.bytes)) = some (some (.slice none 0 0), 1, 24) := by kernel_rfl
theorem Tryz.infoKF3 : (Tryz.prog.info? 3).map (fun i => (i.zero, i.size, i.bytes)) = some (some (.int .i64 0), 1, 8) := by kernel_rfl
theorem I2 {w : World} {base B : Nat} {F : Nat → Prop} {rs : Nat → Value} {T : Nat → List Value} {M : Nat → List Int} (h : BookI w base B F rs T M) (la : Option Addr) (n c : Nat) (xs : List Value) (hn : n ≤ 1000) (hM : (M 1).length + 4 ≤ 4398046511104)
  (hl : w.ownsRow base 62 2 (.slice la n c) n xs) (hF : ∀ k, (Value.slice la n c).ownBlock = some k → ¬ F k) :
  Calls Tryz.prog 58 #[.pointer (some ⟨B, 0, none⟩), .slice la n c] w (GF w base B F M 1 (.slice la n c)) := by
 obtain ⟨i0, hi, hz0, hz1, hz2⟩ := info_parts Tryz.infoKF
 obtain ⟨j0, ji, jz0, jz1, jz2⟩ := info_parts Tryz.infoKF2
 obtain ⟨k0, ki, kz0, kz1, kz2⟩ := info_parts Tryz.infoKF3
 have H := Aa h
 have HF := Aa (fun k hk => hF k (blkL_mem.1 hk) : ∀ k ∈ Ea (.slice la n c), ¬ F k)
 obtain ⟨ma, mc, hmv, -⟩ := AZ (h.rowM 1 (by omega))
 have hmv : rs 5 = .slice ma (M 1).length mc := hmv
 obtain ⟨na, nc, hnv, -⟩ := AZ (h.rowT 1 (by omega))
 have HLEN := Aa (h.len 1 (by omega))
 obtain ⟨mk, hmk⟩ : ∃ x, x = (M 1).length := ⟨_, rfl⟩
 rw [h.len 1 (by omega), ← hmk] at hnv
 rw [← hmk] at hmv hM HLEN
 have cq := (h.blk 5 _ rfl).1
 rw [hmv] at cq
 have hbase := h.bas
 have HL := Aa hl
 have HLL := Aa (fun k hk => (hl.lt k (blkL_mem.1 hk)).2 : ∀ k ∈ Ea (.slice la n c), k < w.heap.size)
 have HMK := Aa hmk
 have HMV := Aa hmv
 have HNV := Aa hnv
 clear h hl hF hmk hmv hnv
 go_enter Tryz.func58, Tryz.ntmps58
 go_wp2_with fail
 refine (Fe mk w).mono ?_
 rintro e wa ⟨rfl, hba⟩
 have HBa := Aa hba
 clear hba
 go_wp2_with fail
 refine (Fe mk wa).mono ?_
 rintro e wb ⟨rfl, hbb⟩
 have HBb := Aa (Below.next HBa.out hbb)
 clear hbb HBa
 go_wp2_with fail
 obtain ⟨m, hm⟩ : ∃ m : Int, m = (mk : Int) := ⟨_, rfl⟩
 rw [← hm]
 have HM := Aa (⟨by omega, by omega, fun _ => by omega⟩ : -4398046511104 ≤ m ∧ m ≤ 4398046511104 ∧ ((1 : Nat) ≠ 2 → 0 ≤ m))
 obtain ⟨w0, hw0⟩ : ∃ X, X = wb.alloc (.cells #[.string (str (Bj m)), .string (str (Bj m))] 62) := ⟨_, rfl⟩
 rw [← hw0]
 have HB0 := Aa (Below.next HBb.out (show Below wb.heap.size wb w0 from by rw [hw0]; exact (Below.refl _ _).alloc (Nat.le_refl _) _))
 have HFB0 := Aa (show Blk w0 wb.heap.size [.string (str (Bj m)), .string (str (Bj m))] from by rw [hw0]; exact Blk.new _ _ _)
 have HFL := Aa (fun e => by have h1 := HLL.out _ e; have h2 := HBb.out.size; omega : wb.heap.size ∉ Ea (.slice la n c))
 have HT0 := Aa (Touch.of_below HB0.out (Ea (.slice la n c)))
 have HL := Aa (Ab HL.out (Nat.le_refl _) HB0.out)
 clear hm cq HB0 HBb hw0
 go_loopw [6] (fun i W => ∃ (k : Nat) (ys : List Value), k ≤ n ∧ i = .int .i64 (k : Int) ∧ W.ownsRow base 62 2 (.slice la n c) n ys ∧ Hid (∀ j, j < k * 2 → ys[j]? = some (.string (str (Bj m)))) ∧ Touch (Ea (.slice la n c)) w W ∧ Hid (Blk W wb.heap.size [.string (str (Bj m)), .string (str (Bj m))]))
  (fun i _ => n - (intOf i).toNat)
 case atStart => exact ⟨0, xs, by omega, rfl, HL.out, Aa (fun j hj => by omega), HT0.out, HFB0⟩
 case round =>
  clear HL
  obtain ⟨k, ys, hk, rfl, hown, HY, ht, HFB⟩ := hrel
  by_cases hlt : k < n
  ·obtain ⟨ga, gc, ge, -, hga, -⟩ := AZ hown
   cases ge
   cases la with
   | none =>
    rcases hown.2 with ⟨_, h0⟩ | ⟨_, _, _, h0, _⟩
    ·omega
    ·cases h0
   | some ad =>
    obtain ⟨g, rfl, hgo⟩ := hga ad rfl
    have hfz := hown.frozenAt (k * 2)
    have hfz2 := hown.frozenAt (k * 2 + 1)
    have hyl : ys.length = n * 2 := hown.1
    have hc1 : wr.cell? ⟨g, k * 2, none⟩ = some ys[k * 2] := by rw [hown.cellAt _ (by omega), List.getElem?_eq_getElem]
    have hc2 : wr.cell? ⟨g, k * 2 + 1, none⟩ = some ys[k * 2 + 1] := by rw [hown.cellAt _ (by omega), List.getElem?_eq_getElem]
    have K1 := Aa ((hown.stored (k * 2) (.string (str (Bj m)))).1.stored (k * 2 + 1) (.string (str (Bj m)))).1
    have K2 : Hid (∀ j, j < (k + 1) * 2 → ((ys.set (k * 2) (.string (str (Bj m)))).set (k * 2 + 1) (.string (str (Bj m))))[j]? = some (.string (str (Bj m)))) := Aa (fun j hj => by
     by_cases e : j = k * 2 + 1
     ·subst e
      rw [List.getElem?_set_self (by simp; omega)]
     ·rw [List.getElem?_set_ne (by omega)]
      by_cases e : j = k * 2
      ·subst e
       rw [List.getElem?_set_self (by omega)]
      ·rw [List.getElem?_set_ne (by omega)]
       exact HY.out j (by omega))
    have K3 := Aa ((ht.setCell (x := ⟨g, k * 2, none⟩) (.inl (blkL_mem.2 hgo)) (.string (str (Bj m)))).setCell (x := ⟨g, k * 2 + 1, none⟩) (.inl (blkL_mem.2 hgo)) (.string (str (Bj m))))
    have hgf : g ≠ wb.heap.size := fun e => HFL.out (blkL_mem.2 (e ▸ hgo))
    have K4 := Aa ((HFB.out.set_other (a := ⟨g, k * 2, none⟩) hgf (.string (str (Bj m)))).set_other (a := ⟨g, k * 2 + 1, none⟩) hgf (.string (str (Bj m))))
    have f1 := (HFB.out 0 _ rfl).1
    have f2 := (HFB.out 1 _ rfl).1
    clear hown HY ht hga hgo HFB hgf
    go_wp2_with fail
    exact ⟨⟨k + 1, _, by omega, by go_num, K1.out, K2, K3.out, K4⟩, by simp [intOf]; omega⟩
  ·obtain rfl : k = n := by omega
   have hyl : ys.length = k * 2 := hown.1
   have e := Gt (n := k) (p := [.string (str (Bj m)), .string (str (Bj m))]) (ys := ys) hyl (by simp) (fun i q hi hq => by
    have hq : q < 2 := by simpa using hq
    rw [show i * ([.string (str (Bj m)), .string (str (Bj m))] : List Value).length + q = i * 2 + q from rfl, HY.out _ (by omega)]
    rcases q with _ | _ | q
    ·rfl
    ·rfl
    ·omega)
   subst e
   have HO := Aa hown
   have HT := Aa ht
   have hsz : base ≤ wr.heap.size := Nat.le_trans hbase ht.size
   have HS0 := Aa ht.size
   have f1 := (HFB.out 0 _ rfl).1
   have f2 := (HFB.out 1 _ rfl).1
   have f3 := HFB.out.lt (by simp)
   clear hown ht HY
   go_wp2_with (at_builtin; refine AI rfl (.tmp 31) (.tmp 33) 22 rfl base 62 i0 (.agg #[.string ByteArray.empty, .string ByteArray.empty]) 32 [.string (str (Bj m)), .string (str (Bj m))] Tryz.underlying22 hi hz0 hz1 hz2 rfl (by simp) (.slice la k c) k rfl (HO.out.alloc _) ⟨wr.heap.size, 0, none⟩ 1 1 rfl (by omega) (CT (EQ wr #[.string (str (Bj m)), .string (str (Bj m))] 62) rfl) (by simp [Value.oneCell']) (by unfold maxLen; omega) (by omega) (by simp; omega) ?_)
   intro v1 w1 hg1
   have C1 := Aa (hg1.copy (N := w.heap.size) (by omega) (by simp; have := HS0.out; omega))
   have O1 := Aa hg1.2.1
   have T1 := Aa ((HT.out.alloc _).trans hg1.2.2.1)
   have HFB := Aa ((HFB.out.alloc _).touch hg1.2.2.1 HFL.out)
   have f1 := (HFB.out 0 _ rfl).1
   have f2 := (HFB.out 1 _ rfl).1
   have f3 := HFB.out.lt (by simp)
   have hz1' : base ≤ w1.heap.size := by have := hg1.2.2.1.size; simp at this; omega
   have hs1 : w.heap.size ≤ w1.heap.size := T1.out.size
   clear hg1 HO HT HS0
   go_wp2_with (at_builtin; refine AI rfl (.tmp 35) (.tmp 38) 22 rfl base 62 i0 (.agg #[.string ByteArray.empty, .string ByteArray.empty]) 32 [.string (str (Bj m)), .string (str (Bj m))] Tryz.underlying22 hi hz0 hz1 hz2 rfl (by simp) (.slice la k c) k rfl (O1.out.alloc _) ⟨w1.heap.size, 0, none⟩ 2 2 rfl (by omega) (CT (EQ w1 #[.string (str (Bj m)), .string (str (Bj m)), .string (str (Bj m)), .string (str (Bj m))] 62) rfl) (by simp [Value.oneCell']) (by unfold maxLen; omega) (by omega) (by simp; omega) ?_)
   intro v2 w2 hg2
   have C12 := Aa ((C1.out.alloc _).next hg2 (by omega))
   have C2 := Aa (hg2.copy (N := w.heap.size) (by omega) (by simp; omega))
   have O2 := Aa hg2.2.1
   have T2 := Aa ((T1.out.alloc _).trans hg2.2.2.1)
   have HFB := Aa ((HFB.out.alloc _).touch hg2.2.2.1 HFL.out)
   have f1 := (HFB.out 0 _ rfl).1
   have f2 := (HFB.out 1 _ rfl).1
   have f3 := HFB.out.lt (by simp)
   have hz2' : base ≤ w2.heap.size := by have := hg2.2.2.1.size; simp at this; omega
   have hs2 : w.heap.size ≤ w2.heap.size := T2.out.size
   clear hg2 C1 O1 T1 hz1' hs1
   go_wp2_with (at_builtin; refine AI rfl (.tmp 40) (.tmp 44) 22 rfl base 62 i0 (.agg #[.string ByteArray.empty, .string ByteArray.empty]) 32 [.string (str (Bj m)), .string (str (Bj m))] Tryz.underlying22 hi hz0 hz1 hz2 rfl (by simp) (.slice la k c) k rfl (O2.out.alloc _) ⟨w2.heap.size, 0, none⟩ 3 3 rfl (by omega) (CT (EQ w2 #[.string (str (Bj m)), .string (str (Bj m)), .string (str (Bj m)), .string (str (Bj m)), .string (str (Bj m)), .string (str (Bj m))] 62) rfl) (by simp [Value.oneCell']) (by unfold maxLen; omega) (by omega) (by simp; omega) ?_)
   intro v3 w3 hg3
   have C13 := Aa ((C12.out.alloc _).next hg3 (by omega))
   have C23 := Aa ((C2.out.alloc _).next hg3 (by omega))
   have C3 := Aa (hg3.copy (N := w.heap.size) (by omega) (by simp; omega))
   have O3 := Aa hg3.2.1
   have T3 := Aa ((T2.out.alloc _).trans hg3.2.2.1)
   have hs3 : w.heap.size ≤ w3.heap.size := T3.out.size
   clear hg3 C12 C2 O2 T2 hz2' hs2
   obtain ⟨g1, c1, rfl, -⟩ := C13.out
   obtain ⟨g2, c2, rfl, -⟩ := C23.out
   obtain ⟨g3, c3, rfl, -⟩ := C3.out
   have HB3 := Aa (H.out.touch T3.out HF.out)
   have c20 := (HB3.out.blk 1 _ rfl).1
   rw [HNV.out] at c20
   have hb3 := HB3.out.bas
   have hlt3 : B < w3.heap.size := HB3.out.lt
   have HR := Aa (HB3.out.rowT 1 (by omega))
   rw [HLEN.out, HNV.out] at HR
   go_wp2_with (at_builtin; refine wpList_append_own_at _ rfl (.tmp 50) (.tmp 55) 74 rfl base 22 j0 (.slice none 0 0) 1 24 Tryz.underlying74 ji jz0 jz1 jz2 rfl (by decide) (.slice na mk nc) mk (T 1) rfl (HR.out.alloc _) ⟨w3.heap.size, 0, none⟩ 4 4 [.slice la k c, .slice (some ⟨g1, 0, none⟩) (k + 1) c1, .slice (some ⟨g2, 0, none⟩) (k + 2) c2, .slice (some ⟨g3, 0, none⟩) (k + 3) c3] rfl rfl ?c1 ?c2 (by unfold maxLen; omega) (by omega) (by simp; omega) ?_)
   case c1 => exact CS _ _ _
   case c2 =>
    intro u hu
    simp at hu
    rcases hu with rfl | rfl | rfl | rfl <;> rfl
   intro tv w4 hT4 hg4 hnil hat4
   obtain ⟨ta, tc, rfl, -⟩ := AZ hT4
   obtain ⟨⟨s2, s2f⟩, hE⟩ := Gm (j := 1) (q := 5) (m := m) H.out (by omega) rfl HNV.out HMV.out HMK.out HF.out hn HM.out T3.out O3.out C13.out C23.out C3.out hT4 hg4 hat4
   have HE := Aa hE
   clear hT4 hg4 hat4 hnil hE HR c20 hb3 HB3 HF HLL C13 C23 C3 O3 T3 HM
   go_wp2_with fail
   obtain ⟨W5, hW5⟩ : ∃ X, X = w4.setCell ⟨B, 1, none⟩ (.slice ta (mk + 4) tc) := ⟨_, rfl⟩
   rw [← hW5]
   obtain ⟨cq, hmo, hlt5, hb5, he⟩ := HE.out W5 hW5
   have M2 := Aa hmo
   have HQ := Aa he
   clear hW5 s2 s2f HE hmo he
   refine wp_region_held_drew (S := fun _ => True) (by kernel_rfl) trivial (fun hHeld => ?_)
   first | (refine take_yes' (i := 0) (d := (some 59)) (v := ?tv1) (a' := ?ta1) rfl (by kernel_rfl) (by kernel_rfl) (by kernel_rfl) (by rfl) (fun _ _ _ h => h) ?thy1 (by assumption) rfl ?tha1 ?_; (case thy1 => (intro w hSw; (try dsimp only at hSw); simp only [List.getElem?_toArray, List.getElem?_cons_succ, List.getElem?_cons_zero, Option.map_some, Option.some.injEq]; go_simp; (try with_reducible rfl))); (case tha1 => (simp only [Act.put, List.setIfInBounds_toArray, List.set_cons_zero, List.set_cons_succ]; try rfl))) | (refine take_no' (i := 0) (d := (some 59)) (a' := ?ta1) rfl (by kernel_rfl) (by kernel_rfl) (by kernel_rfl) (by rfl) (fun _ _ _ h => h) (by assumption) rfl ?tha1 ?_; (case tha1 => (simp only [Act.put, List.setIfInBounds_toArray, List.set_cons_zero, List.set_cons_succ]; try rfl)))
   first | (refine take_yes' (i := 1) (d := (some 60)) (v := ?tv2) (a' := ?ta2) rfl (by kernel_rfl) (by kernel_rfl) (by kernel_rfl) (by rfl) (fun _ _ _ h => h) ?thy2 (by assumption) rfl ?tha2 ?_; (case thy2 => (intro w hSw; (try dsimp only at hSw); simp only [List.getElem?_toArray, List.getElem?_cons_succ, List.getElem?_cons_zero, Option.map_some, Option.some.injEq]; go_simp; (try with_reducible rfl))); (case tha2 => (simp only [Act.put, List.setIfInBounds_toArray, List.set_cons_zero, List.set_cons_succ]; try rfl))) | (refine take_no' (i := 1) (d := (some 60)) (a' := ?ta2) rfl (by kernel_rfl) (by kernel_rfl) (by kernel_rfl) (by rfl) (fun _ _ _ h => h) (by assumption) rfl ?tha2 ?_; (case tha2 => (simp only [Act.put, List.setIfInBounds_toArray, List.set_cons_zero, List.set_cons_succ]; try rfl)))
   first | (refine take_yes' (i := 2) (d := (some 61)) (v := ?tv3) (a' := ?ta3) rfl (by kernel_rfl) (by kernel_rfl) (by kernel_rfl) (by rfl) (fun _ _ _ h => h) ?thy3 (by assumption) rfl ?tha3 ?_; (case thy3 => (intro w hSw; (try dsimp only at hSw); simp only [List.getElem?_toArray, List.getElem?_cons_succ, List.getElem?_cons_zero, Option.map_some, Option.some.injEq]; go_simp; (try with_reducible rfl))); (case tha3 => (simp only [Act.put, List.setIfInBounds_toArray, List.set_cons_zero, List.set_cons_succ]; try rfl))) | (refine take_no' (i := 2) (d := (some 61)) (a' := ?ta3) rfl (by kernel_rfl) (by kernel_rfl) (by kernel_rfl) (by rfl) (fun _ _ _ h => h) (by assumption) rfl ?tha3 ?_; (case tha3 => (simp only [Act.put, List.setIfInBounds_toArray, List.set_cons_zero, List.set_cons_succ]; try rfl)))
   first | (refine take_yes' (i := 3) (d := (some 62)) (v := ?tv4) (a' := ?ta4) rfl (by kernel_rfl) (by kernel_rfl) (by kernel_rfl) (by rfl) (fun _ _ _ h => h) ?thy4 (by assumption) rfl ?tha4 ?_; (case thy4 => (intro w hSw; (try dsimp only at hSw); simp only [List.getElem?_toArray, List.getElem?_cons_succ, List.getElem?_cons_zero, Option.map_some, Option.some.injEq]; go_simp; (try with_reducible rfl))); (case tha4 => (simp only [Act.put, List.setIfInBounds_toArray, List.set_cons_zero, List.set_cons_succ]; try rfl))) | (refine take_no' (i := 3) (d := (some 62)) (a' := ?ta4) rfl (by kernel_rfl) (by kernel_rfl) (by kernel_rfl) (by rfl) (fun _ _ _ h => h) (by assumption) rfl ?tha4 ?_; (case tha4 => (simp only [Act.put, List.setIfInBounds_toArray, List.set_cons_zero, List.set_cons_succ]; try rfl)))
   first | (refine take_yes' (i := 4) (d := (some 63)) (v := ?tv5) (a' := ?ta5) rfl (by kernel_rfl) (by kernel_rfl) (by kernel_rfl) (by rfl) (fun _ _ _ h => h) ?thy5 (by assumption) rfl ?tha5 ?_; (case thy5 => (intro w hSw; (try dsimp only at hSw); simp only [List.getElem?_toArray, List.getElem?_cons_succ, List.getElem?_cons_zero, Option.map_some, Option.some.injEq]; go_simp; (try with_reducible rfl))); (case tha5 => (simp only [Act.put, List.setIfInBounds_toArray, List.set_cons_zero, List.set_cons_succ]; try rfl))) | (refine take_no' (i := 4) (d := (some 63)) (a' := ?ta5) rfl (by kernel_rfl) (by kernel_rfl) (by kernel_rfl) (by rfl) (fun _ _ _ h => h) (by assumption) rfl ?tha5 ?_; (case tha5 => (simp only [Act.put, List.setIfInBounds_toArray, List.set_cons_zero, List.set_cons_succ]; try rfl)))
   first | (refine take_yes' (i := 6) (d := (some 65)) (v := ?tv6) (a' := ?ta6) rfl (by kernel_rfl) (by kernel_rfl) (by kernel_rfl) (by rfl) (fun _ _ _ h => h) ?thy6 (by assumption) rfl ?tha6 ?_; (case thy6 => (intro w hSw; (try dsimp only at hSw); simp only [List.getElem?_toArray, List.getElem?_cons_succ, List.getElem?_cons_zero, Option.map_some, Option.some.injEq]; go_simp; (try with_reducible rfl))); (case tha6 => (simp only [Act.put, List.setIfInBounds_toArray, List.set_cons_zero, List.set_cons_succ]; try rfl))) | (refine take_no' (i := 6) (d := (some 65)) (a' := ?ta6) rfl (by kernel_rfl) (by kernel_rfl) (by kernel_rfl) (by rfl) (fun _ _ _ h => h) (by assumption) rfl ?tha6 ?_; (case tha6 => (simp only [Act.put, List.setIfInBounds_toArray, List.set_cons_zero, List.set_cons_succ]; try rfl)))
   first | (refine take_yes' (i := 7) (d := (some 66)) (v := ?tv7) (a' := ?ta7) rfl (by kernel_rfl) (by kernel_rfl) (by kernel_rfl) (by rfl) (fun _ _ _ h => h) ?thy7 (by assumption) rfl ?tha7 ?_; (case thy7 => (intro w hSw; (try dsimp only at hSw); simp only [List.getElem?_toArray, List.getElem?_cons_succ, List.getElem?_cons_zero, Option.map_some, Option.some.injEq]; go_simp; (try with_reducible rfl))); (case tha7 => (simp only [Act.put, List.setIfInBounds_toArray, List.set_cons_zero, List.set_cons_succ]; try rfl))) | (refine take_no' (i := 7) (d := (some 66)) (a' := ?ta7) rfl (by kernel_rfl) (by kernel_rfl) (by kernel_rfl) (by rfl) (fun _ _ _ h => h) (by assumption) rfl ?tha7 ?_; (case tha7 => (simp only [Act.put, List.setIfInBounds_toArray, List.set_cons_zero, List.set_cons_succ]; try rfl)))
   first | (refine take_yes' (i := 8) (d := (some 67)) (v := ?tv8) (a' := ?ta8) rfl (by kernel_rfl) (by kernel_rfl) (by kernel_rfl) (by rfl) (fun _ _ _ h => h) ?thy8 (by assumption) rfl ?tha8 ?_; (case thy8 => (intro w hSw; (try dsimp only at hSw); simp only [List.getElem?_toArray, List.getElem?_cons_succ, List.getElem?_cons_zero, Option.map_some, Option.some.injEq]; go_simp; (try with_reducible rfl))); (case tha8 => (simp only [Act.put, List.setIfInBounds_toArray, List.set_cons_zero, List.set_cons_succ]; try rfl))) | (refine take_no' (i := 8) (d := (some 67)) (a' := ?ta8) rfl (by kernel_rfl) (by kernel_rfl) (by kernel_rfl) (by rfl) (fun _ _ _ h => h) (by assumption) rfl ?tha8 ?_; (case tha8 => (simp only [Act.put, List.setIfInBounds_toArray, List.set_cons_zero, List.set_cons_succ]; try rfl)))
   first | (refine take_yes' (i := 9) (d := (some 68)) (v := ?tv9) (a' := ?ta9) rfl (by kernel_rfl) (by kernel_rfl) (by kernel_rfl) (by rfl) (fun _ _ _ h => h) ?thy9 (by assumption) rfl ?tha9 ?_; (case thy9 => (intro w hSw; (try dsimp only at hSw); simp only [List.getElem?_toArray, List.getElem?_cons_succ, List.getElem?_cons_zero, Option.map_some, Option.some.injEq]; go_simp; (try with_reducible rfl))); (case tha9 => (simp only [Act.put, List.setIfInBounds_toArray, List.set_cons_zero, List.set_cons_succ]; try rfl))) | (refine take_no' (i := 9) (d := (some 68)) (a' := ?ta9) rfl (by kernel_rfl) (by kernel_rfl) (by kernel_rfl) (by rfl) (fun _ _ _ h => h) (by assumption) rfl ?tha9 ?_; (case tha9 => (simp only [Act.put, List.setIfInBounds_toArray, List.set_cons_zero, List.set_cons_succ]; try rfl)))
   first | (refine take_yes' (i := 12) (d := (some 71)) (v := ?tv10) (a' := ?ta10) rfl (by kernel_rfl) (by kernel_rfl) (by kernel_rfl) (by rfl) (fun _ _ _ h => h) ?thy10 (by assumption) rfl ?tha10 ?_; (case thy10 => (intro w hSw; (try dsimp only at hSw); simp only [List.getElem?_toArray, List.getElem?_cons_succ, List.getElem?_cons_zero, Option.map_some, Option.some.injEq]; go_simp; (try with_reducible rfl))); (case tha10 => (simp only [Act.put, List.setIfInBounds_toArray, List.set_cons_zero, List.set_cons_succ]; try rfl))) | (refine take_no' (i := 12) (d := (some 71)) (a' := ?ta10) rfl (by kernel_rfl) (by kernel_rfl) (by kernel_rfl) (by rfl) (fun _ _ _ h => h) (by assumption) rfl ?tha10 ?_; (case tha10 => (simp only [Act.put, List.setIfInBounds_toArray, List.set_cons_zero, List.set_cons_succ]; try rfl)))
   first | (refine take_yes' (i := 13) (d := (some 72)) (v := ?tv11) (a' := ?ta11) rfl (by kernel_rfl) (by kernel_rfl) (by kernel_rfl) (by rfl) (fun _ _ _ h => h) ?thy11 (by assumption) rfl ?tha11 ?_; (case thy11 => (intro w hSw; (try dsimp only at hSw); simp only [List.getElem?_toArray, List.getElem?_cons_succ, List.getElem?_cons_zero, Option.map_some, Option.some.injEq]; go_simp; (try with_reducible rfl))); (case tha11 => (simp only [Act.put, List.setIfInBounds_toArray, List.set_cons_zero, List.set_cons_succ]; try rfl))) | (refine take_no' (i := 13) (d := (some 72)) (a' := ?ta11) rfl (by kernel_rfl) (by kernel_rfl) (by kernel_rfl) (by rfl) (fun _ _ _ h => h) (by assumption) rfl ?tha11 ?_; (case tha11 => (simp only [Act.put, List.setIfInBounds_toArray, List.set_cons_zero, List.set_cons_succ]; try rfl)))
   refine step_two (i := 5) (j := 10) (by kernel_rfl) (fun K o ho hK => ?_) (fun K o ho hK => ?_)
   focus
    simp only [gA, gB, gC, gE] at ho
    subst ho
    go_simp
    refine hK.out _ _ ?_ (fun hHeld => ?_)
    focus trivial
    clear hK K
    try simp only [Act.put, sA, sB, sC]
    refine step_one (i := 10) (by kernel_rfl) (fun K o ho hK => ?_)
    simp only [gA, gB, gC, gE] at ho
    subst ho
    go_simp
    refine hK.out _ _ ?_ (fun hHeld => ?_)
    focus trivial
    clear hK K
    try simp only [Act.put, sA, sB, sC]
    refine step_one (i := 11) (by kernel_rfl) (fun K o ho hK => ?_)
    simp only [gA, gB, gC, gE] at ho
    subst ho
    rw [if_pos (by rfl)]
    refine BE _ (.tmp 64) (.tmp 69) 31 rfl base 3 k0 (.int .i64 0) 1 8 Tryz.underlying31 ki kz0 kz1 kz2 rfl (by decide) (.slice ma mk mc) mk ((M 1).map (Value.int .i64)) rfl (M2.out.alloc _) ⟨W5.heap.size, 0, none⟩ 4 4 [.int .i64 m, .int .i64 m, .int .i64 m, .int .i64 m] rfl rfl (CS _ _ _) (by simp [Value.oneCell']) (by unfold maxLen; omega) (by omega) (by simp; omega) ?_
    intro mv w6 hM6 hg6 hat6
    obtain ⟨va, vc, rfl, -⟩ := AZ hM6
    obtain ⟨⟨q6, q6f⟩, hfin⟩ := HQ.out _ w6 hg6
    have HFIN := Aa (hfin _ hM6 (hat6.imp id (fun e => by rw [e]; simp)))
    clear hM6 hg6 hat6 hfin
    refine hK.out _ _ ?_ (fun hHeld => ?_)
    focus trivial
    clear hK K
    try simp only [Act.put, sA, sB, sC]
    first | (refine take_yes' (i := 14) (d := (some 73)) (v := ?tv12) (a' := ?ta12) rfl (by kernel_rfl) (by kernel_rfl) (by kernel_rfl) (by rfl) (fun _ _ _ h => h) ?thy12 (by assumption) rfl ?tha12 ?_; (case thy12 => (intro w hSw; (try dsimp only at hSw); simp only [List.getElem?_toArray, List.getElem?_cons_succ, List.getElem?_cons_zero, Option.map_some, Option.some.injEq]; go_simp; (try with_reducible rfl))); (case tha12 => (simp only [Act.put, List.setIfInBounds_toArray, List.set_cons_zero, List.set_cons_succ]; try rfl))) | (refine take_no' (i := 14) (d := (some 73)) (a' := ?ta12) rfl (by kernel_rfl) (by kernel_rfl) (by kernel_rfl) (by rfl) (fun _ _ _ h => h) (by assumption) rfl ?tha12 ?_; (case tha12 => (simp only [Act.put, List.setIfInBounds_toArray, List.set_cons_zero, List.set_cons_succ]; try rfl)))
    refine step_one (i := 15) (by kernel_rfl) (fun K o ho hK => ?_)
    simp only [gA, gB, gC, gE] at ho
    subst ho
    go_simp
    refine hK.out _ _ ?_ (fun hHeld => ?_)
    focus trivial
    clear hK K
    try simp only [Act.put, sA, sB, sC]
    refine wpAnyH_done (by kernel_rfl) ?_ _
    go_wp2_with fail
    go_end0
    exact HFIN.out
   focus
    simp only [gA, gB, gC, gE] at ho
    subst ho
    go_simp
    refine hK.out _ _ ?_ (fun hHeld => ?_)
    focus trivial
    clear hK K
    try simp only [Act.put, sA, sB, sC]
    refine step_one (i := 5) (by kernel_rfl) (fun K o ho hK => ?_)
    simp only [gA, gB, gC, gE] at ho
    subst ho
    go_simp
    refine hK.out _ _ ?_ (fun hHeld => ?_)
    focus trivial
    clear hK K
    try simp only [Act.put, sA, sB, sC]
    refine step_one (i := 11) (by kernel_rfl) (fun K o ho hK => ?_)
    simp only [gA, gB, gC, gE] at ho
    subst ho
    rw [if_pos (by rfl)]
    refine BE _ (.tmp 64) (.tmp 69) 31 rfl base 3 k0 (.int .i64 0) 1 8 Tryz.underlying31 ki kz0 kz1 kz2 rfl (by decide) (.slice ma mk mc) mk ((M 1).map (Value.int .i64)) rfl (M2.out.alloc _) ⟨W5.heap.size, 0, none⟩ 4 4 [.int .i64 m, .int .i64 m, .int .i64 m, .int .i64 m] rfl rfl (CS _ _ _) (by simp [Value.oneCell']) (by unfold maxLen; omega) (by omega) (by simp; omega) ?_
    intro mv w6 hM6 hg6 hat6
    obtain ⟨va, vc, rfl, -⟩ := AZ hM6
    obtain ⟨⟨q6, q6f⟩, hfin⟩ := HQ.out _ w6 hg6
    have HFIN := Aa (hfin _ hM6 (hat6.imp id (fun e => by rw [e]; simp)))
    clear hM6 hg6 hat6 hfin
    refine hK.out _ _ ?_ (fun hHeld => ?_)
    focus trivial
    clear hK K
    try simp only [Act.put, sA, sB, sC]
    first | (refine take_yes' (i := 14) (d := (some 73)) (v := ?tv13) (a' := ?ta13) rfl (by kernel_rfl) (by kernel_rfl) (by kernel_rfl) (by rfl) (fun _ _ _ h => h) ?thy13 (by assumption) rfl ?tha13 ?_; (case thy13 => (intro w hSw; (try dsimp only at hSw); simp only [List.getElem?_toArray, List.getElem?_cons_succ, List.getElem?_cons_zero, Option.map_some, Option.some.injEq]; go_simp; (try with_reducible rfl))); (case tha13 => (simp only [Act.put, List.setIfInBounds_toArray, List.set_cons_zero, List.set_cons_succ]; try rfl))) | (refine take_no' (i := 14) (d := (some 73)) (a' := ?ta13) rfl (by kernel_rfl) (by kernel_rfl) (by kernel_rfl) (by rfl) (fun _ _ _ h => h) (by assumption) rfl ?tha13 ?_; (case tha13 => (simp only [Act.put, List.setIfInBounds_toArray, List.set_cons_zero, List.set_cons_succ]; try rfl)))
    refine step_one (i := 15) (by kernel_rfl) (fun K o ho hK => ?_)
    simp only [gA, gB, gC, gE] at ho
    subst ho
    go_simp
    refine hK.out _ _ ?_ (fun hHeld => ?_)
    focus trivial
    clear hK K
    try simp only [Act.put, sA, sB, sC]
    refine wpAnyH_done (by kernel_rfl) ?_ _
    go_wp2_with fail
    go_end0
    exact HFIN.out
theorem Mm {base B : Nat} {rs : Nat → Value} {T : Nat → List Value} {M : Nat → List Int} (a b : Nat) (fs0 fs : List Aj) (bx ex : Int) (vs : List (List UInt8)) (pk : List (List Int)) (sa fa va pa : Option Addr) (sc fc vc pc : Nat) (hfn : fs.length + 8 ≤ 4398046511104) (hfa : fa = none → fc = 0)
  (hvn : vs.length ≤ 8796093022200) (hvl : ∀ v ∈ vs, v.length ≤ 140737488355328) (hpl : ∀ ks ∈ pk, ks.length ≤ 17592186044416) (hpr : ∀ ks ∈ pk, ∀ c ∈ ks, -9223372036854775808 ≤ c ∧ c ≤ 9223372036854775807) (w : World) (hbk : BookI w base B (· < w.heap.size) rs T M) (hMs : ∀ j, j < 4 → (M j).length + 4 ≤ 4398046511104) (hK : Kinds w) (hh0 : Handed w fs0 sa sc) (hh : Handed w fs fa fc) (hvr : Rd w va (AL vs)) (hpk : RdPk w pa pk) :
  Calls Tryz.prog 34 #[.pointer (some ⟨B, 0, none⟩), .agg #[.int .i64 4, .int .u16 (a : Int), .int .u16 (b : Int), .slice sa fs0.length sc, .int .i64 bx, .int .i64 ex, .slice fa fs.length fc, .slice va vs.length vc, .slice pa pk.length pc]] w (Eo w base B M) := by
 obtain ⟨L, hL⟩ : ∃ L, L = GA (IX fs0 bx ex).1 vs pk := ⟨_, rfl⟩
 have hLn : L.length = vs.length := by rw [hL, Gk]
 have hLd := Aa (fun W (hW : Below w.heap.size w W) => LR fs0 bx ex vs pk sa va pa sc vc pc (.slice fa fs.length fc) hvn hvl hpl hpr W (hh0.later hW) (hvr.later (Nat.le_refl _) hW) (hpk.later hW))
 rw [← hL] at hLd
 have hLe := Aa (fun W (hW : Below w.heap.size w W) => En fs fa fc hfa hfn W (hh.rd.later (Nat.le_refl _) hW))
 have hLT := Aa (fun W a c (ha : a = none → c = 0) (hr : Rd W a (AL L)) => FN L a c ha (by omega) W hr)
 have hLK0 := fun W a b ca cb (hK : Kinds W) (h1 : Rd W a (Ar fs)) (h2 : Rd W b (AL L)) => MC fs L a b ca cb W hK h1 h2
 simp only [OO] at hLK0
 have hLK := Aa hLK0
 have hRL := Aa (fun W b cb (hW : Below w.heap.size w W) (h2 : Rd W b (AL L)) => Lw fs L fa b fc cb (by omega) (by omega) W (hh.rd.later (Nat.le_refl _) hW) h2)
 have hWF := Aa (fun v w0 W (h0 : Below w.heap.size w w0) (h1 : Below w0.heap.size w0 W) (h2 : Lent W w0.heap.size v fs) => DT fs fa fc v w0 W hfn hh.short (hh.rd.later (Nat.le_refl _) h0) h1 h2)
 have hWT := Aa (fun v a c w0 W (h0 : Rd w0 a (AL L)) (h1 : Below w0.heap.size w0 W) (h2 : LentT W w0.heap.size v L) => Fk L a c v w0 W (by omega) h0 h1 h2)
 have ol1 := Rz fs L
 have hLO := Aa (fun w w' e (h : Gq (C9 fs L) w e w') => NJ h)
 obtain ⟨S, hS⟩ : ∃ x, x = Rh (C9 fs L) := ⟨_, rfl⟩
 obtain ⟨en, hen⟩ : ∃ x, x = Sz (C9 fs L) := ⟨_, rfl⟩
 rw [← hS, ← hen] at hLO
 rw [← hS] at ol1
 have HK := Aa hK
 have HBK := Aa (fun W (hW : Below w.heap.size w W) => hbk.later (fun _ hk => hk) hW)
 have hbs := hbk.bas
 have hM1 := hMs 1 (by omega)
 have HLK := Aa (fun W (hW : Below w.heap.size w W) => Dt (hbk.later (fun _ hk => hk) hW) (fun j hj => by have := hMs j hj; omega))
 have h0 := hK.lt
 obtain ⟨n0, hn0⟩ : ∃ x, x = fs0.length := ⟨_, rfl⟩
 obtain ⟨nf, hnf⟩ : ∃ x, x = fs.length := ⟨_, rfl⟩
 obtain ⟨nv, hnv⟩ : ∃ x, x = vs.length := ⟨_, rfl⟩
 obtain ⟨np, hnp⟩ : ∃ x, x = pk.length := ⟨_, rfl⟩
 obtain ⟨nS, hnS⟩ : ∃ x, x = S.length := ⟨_, rfl⟩
 have HNS := Aa hnS
 have HNFS := Aa hnf
 have HLN := Aa (hLn.trans hnv.symm)
 rw [← hn0, ← hnf, ← hnv, ← hnp] at hLd ⊢
 rw [← hnf] at hLe hLK hRL hWF
 rw [hLn, ← hnv] at hLT hLK hRL hWT
 rw [← hnS] at hLO
 rw [← hnS] at ol1
 clear hK hh0 hh hvr hpk hvl hpl hpr hL hLn hS hen hn0 hnf hnv hnp hnS hfn hfa hvn hLK0 hbk hMs
 go_enter Tryz.func34, Tryz.ntmps34
 go_wp2_with fail
 obtain ⟨w1, hw1⟩ : ∃ X, X = w.alloc (.cells #[.int .i64 4, .int .u16 (a : Int), .int .u16 (b : Int), .slice sa n0 sc, .int .i64 bx, .int .i64 ex, .slice fa nf fc, .slice va nv vc, .slice pa np pc] 82) := ⟨_, rfl⟩
 rw [← hw1]
 have hbw1 : Below w.heap.size w w1 := by rw [hw1]; exact (Below.refl _ _).alloc (Nat.le_refl _) _
 have hpb1 : Blk w1 w.heap.size [.int .i64 4, .int .u16 (a : Int), .int .u16 (b : Int), .slice sa n0 sc, .int .i64 bx, .int .i64 ex, .slice fa nf fc, .slice va nv vc, .slice pa np pc] := by rw [hw1]; exact Blk.new w _ _
 have hsz1 : w.heap.size < w1.heap.size := hpb1.lt (by simp)
 have HPB1 := Aa hpb1
 have HBW1 := Aa hbw1
 clear hpb1 hbw1 hw1
 refine (hLd.out w1 HBW1.out).mono ?_
 rintro e w2 ⟨v2, rfl, hr2, hb2⟩
 have hal : ∃ al cl, v2 = .slice al nv cl ∧ (al = none → cl = 0) := by
  rcases hr2.2 with ⟨h1, h2⟩ | ⟨g, c, cur, h1, _⟩
  ·exact ⟨none, 0, by rw [h1, h2], fun _ => rfl⟩
  ·exact ⟨_, _, h1, fun h => by cases h⟩
 obtain ⟨al, cl, rfl, hal⟩ := hal
 obtain ⟨al', cl', ee, hrd2⟩ := AC hr2
 cases ee
 have hpb2 := HPB1.out.touch (Touch.of_below hb2 []) (by simp)
 have hbw2 : Below w.heap.size w w2 := Below.next HBW1.out hb2
 have hsz2 : w.heap.size < w2.heap.size := Nat.lt_of_lt_of_le hsz1 hb2.size
 have p3 := (hpb2 6 _ rfl).1
 have HPB2 := Aa hpb2
 have HBW2 := Aa hbw2
 have HRD2 := Aa hrd2
 have HAL := Aa hal
 clear hpb2 hbw2 hb2 hr2 hrd2 hal HPB1 HBW1 hLd
 go_wp2_with fail
 refine (hLe.out w2 HBW2.out).mono ?_
 rintro e w3 ⟨g, rfl, hl3, hb3⟩
 have HBW3 := Aa (Below.next HBW2.out hb3)
 have HB23 := Aa hb3
 have HPB3 := Aa (HPB2.out.touch (Touch.of_below hb3 []) (by simp))
 have HRD3 := Aa (HRD2.out.later (Nat.le_refl _) hb3)
 have HL3 := Aa hl3
 clear hl3 hb3 HPB2 hLe
 have hgl : ∀ k, g.ownBlock = some k → w2.heap.size ≤ k ∧ k < w3.heap.size := fun k hk => by
  obtain ⟨gg, c, rfl, _, ho⟩ := HL3.out
  exact ho.lt k hk
 have HGL := Aa hgl
 clear hgl
 obtain ⟨ga, gc, hgv, hgr⟩ := HL3.out.rd
 rw [← HNFS.out] at hgv
 subst hgv
 go_wp2_with fail
 refine (hLT.out w3 al cl HAL.out HRD3.out).mono ?_
 rintro e w4 ⟨h, rfl, hl4, hb4⟩
 have hhl : ∀ k, h.ownBlock = some k → w3.heap.size ≤ k ∧ k < w4.heap.size := fun k hk => by
  obtain ⟨gg, c, rfl, _, ho⟩ := hl4
  exact ho.lt k hk
 have HHL := Aa hhl
 clear hhl
 obtain ⟨ha, hc, hhv, hhr⟩ := hl4.rd
 rw [HLN.out] at hhv
 subst hhv
 have HBW4 := Aa (Below.next HBW3.out hb4)
 have HB24 := Aa (Below.next HB23.out hb4)
 have HB34 := Aa hb4
 have HPB4 := Aa (HPB3.out.touch (Touch.of_below hb4 []) (by simp))
 have HRD4 := Aa (HRD3.out.later (Nat.le_refl _) hb4)
 have HL34 := Aa (HL3.out.later hb4)
 have HL4 := Aa hl4
 have HGR := Aa (hgr.later (Nat.le_refl _) hb4)
 have HHR := Aa hhr
 clear hl4 hb4 hgr hhr HPB3 HL3 hLT HAL
 go_wp2_with fail
 refine (hLK.out w4 ga ha gc hc (HK.out.later HBW4.out h0) HGR.out HHR.out).mono ?_
 rintro e w5 hres5
 obtain ⟨hb5, s5a, s5c, rfl, hs5⟩ := hLO.out _ _ _ hres5
 have HBW5 := Aa (Below.next HBW4.out hb5)
 have HB25 := Aa (Below.next HB24.out hb5)
 have HPB5 := Aa (HPB4.out.touch (Touch.of_below hb5 []) (by simp))
 have HRD5 := Aa (HRD4.out.later (Nat.le_refl _) hb5)
 have HL5 := Aa (HL34.out.later hb5)
 have HT5 := Aa (HL4.out.later hb5)
 have HS5 := Aa hs5
 have p3 := (HPB5.out 6 _ rfl).1
 have hsz5 : w.heap.size < w5.heap.size := HPB5.out.lt (by simp)
 have hsz45 : w4.heap.size ≤ w5.heap.size := hb5.size
 have hsz34 : w3.heap.size ≤ w4.heap.size := HB34.out.size
 have hsz23 : w2.heap.size ≤ w3.heap.size := HB23.out.size
 clear hres5 hb5 hs5 HPB4 HRD4 HL34 HL4 HGR HHR hLK HBW4 HB24 HB34
 go_wp2_with fail
 refine (hRL.out w5 al cl HBW5.out HRD5.out).mono ?_
 rintro e w6 hres6
 obtain ⟨hb6, s6a, s6c, rfl, hs6⟩ := hLO.out _ _ _ hres6
 have HBW6 := Aa (Below.next HBW5.out hb6)
 have HB26 := Aa (Below.next HB25.out hb6)
 have HPB6 := Aa (HPB5.out.touch (Touch.of_below hb6 []) (by simp))
 have HL6 := Aa (HL5.out.later hb6)
 have HT6 := Aa (HT5.out.later hb6)
 have HS56 := Aa (Ab HS5.out (Nat.le_refl _) hb6)
 have HS6 := Aa hs6
 have p3 := (HPB6.out 6 _ rfl).1
 have hsz6 : w.heap.size < w6.heap.size := HPB6.out.lt (by simp)
 have hsz56 : w5.heap.size ≤ w6.heap.size := hb6.size
 clear hres6 hb6 hs6 HPB5 HRD5 HL5 HT5 HS5 HBW5 HB25 hRL
 go_wp2_with fail
 refine (HLK.out w6 HBW6.out).mono ?_
 rintro e wk ⟨rfl, hbk⟩
 have HBW6 := Aa (Below.next HBW6.out hbk)
 have HB26 := Aa (Below.next HB26.out hbk)
 have HPB6 := Aa (HPB6.out.touch (Touch.of_below hbk []) (by simp))
 have HL6 := Aa (HL6.out.later hbk)
 have HT6 := Aa (HT6.out.later hbk)
 have HS56 := Aa (Ab HS56.out (Nat.le_refl _) hbk)
 have HS6 := Aa (Ab HS6.out (Nat.le_refl _) hbk)
 have p3 := (HPB6.out 6 _ rfl).1
 have hsz6k : w6.heap.size ≤ wk.heap.size := hbk.size
 clear hbk
 go_wp2_with fail
 refine (hWF.out _ w2 wk HBW2.out HB26.out HL6.out).mono ?_
 rintro e w7 ⟨rfl, hg7⟩
 have t7 : Touch (Ea (.slice ga nf gc)) wk w7 := Touch.of_row hg7
 have m7 : ∀ x ∈ Ea (.slice ga nf gc), w2.heap.size ≤ x ∧ x < w3.heap.size := fun x hx => HGL.out x (blkL_mem.1 hx)
 have HBW7 := Aa (HBW6.out.trans (t7.below (by omega) (fun x hx => by have := m7 x hx; omega)))
 have hb27 : Below w2.heap.size w2 w7 := HB26.out.trans (t7.below (by omega) (fun x hx => (m7 x hx).1))
 have HS57 := Aa (Ac HS56.out t7 (fun x hx => by have := m7 x hx; omega))
 have HS67 := Aa (Ac HS6.out t7 (fun x hx => by have := m7 x hx; omega))
 have hT7 : LentT w7 w2.heap.size (.slice ha nv hc) L := by
  obtain ⟨gg, c, hv, hcc, ho⟩ := HT6.out
  exact ⟨gg, c, hv, hcc, Ad hsz23 (Ac ho t7 (fun x hx => (m7 x hx).2))⟩
 have hsz7 : wk.heap.size ≤ w7.heap.size := t7.size
 have HWT := Aa (hWT.out (.slice ha nv hc) al cl w2 w7 HRD2.out hb27 hT7)
 clear hg7 t7 m7 hb27 hT7 HPB6 HL6 HT6 HS56 HS6 HBW6 HB26 hWF hWT HGL
 go_wp2_with fail
 refine HWT.out.mono ?_
 rintro e w8 ⟨rfl, hg8⟩
 have t8 : Touch (Ea (.slice ha nv hc)) w7 w8 := Touch.of_row hg8
 have m8 : ∀ x ∈ Ea (.slice ha nv hc), w3.heap.size ≤ x ∧ x < w4.heap.size := fun x hx => HHL.out x (blkL_mem.1 hx)
 have HBW8 := Aa (HBW7.out.trans (t8.below (by omega) (fun x hx => by have := m8 x hx; omega)))
 have hs58 := Ac HS57.out t8 (fun x hx => by have := m8 x hx; omega)
 have hs68 := Ac HS67.out t8 (fun x hx => by have := m8 x hx; omega)
 obtain ⟨_, _, e1, hd1⟩ := AC hs58
 cases e1
 obtain ⟨_, _, e2, hd2⟩ := AC hs68
 cases e2
 have hSN := IS S s5a s6a s5c s6c (by rw [← HNS.out]; omega) w8 hd1 hd2
 rw [← HNS.out] at hSN
 have HSN := Aa hSN
 have HS58 := Aa hs58
 clear hSN hs58 hs68 hd1 hd2 t8 m8 hg8 HS57 HS67 HBW7 HWT HHL
 go_wp2_with fail
 refine HSN.out.mono ?_
 rintro e wA ⟨rfl, hb9⟩
 have HBWA := Aa (Below.next HBW8.out hb9)
 have hKF := I2 (HBK.out wA HBWA.out) s5a nS s5c (Ar S) ol1 hM1 (Ad (by omega) (Ab HS58.out (Nat.le_refl _) hb9)) (fun k hk => by have := (HS58.out.lt k hk).1; omega)
 have HKF := Aa hKF
 clear hb9 HSN HBW8 hKF HS58
 go_wp2_with fail
 refine HKF.out.mono ?_
 rintro e wK hres
 obtain ⟨rfl, hkb, -, rs', T', M', hbook, hlen⟩ := hres
 have HFIN : Hid (Eo w base B M (.returned (.bool true)) wK) := Aa ⟨rfl, (HBWA.out.mono hbs).trans hkb, rs', T', M', hbook.mono (fun k hk => hbook.le k hk) (fun _ hk => hk), fun j => by rw [hlen]; split <;> omega⟩
 clear hkb hbook hlen HKF HBWA
 go_wp2_with fail
 refine (Ew _ wK).mono ?_
 rintro e wB ⟨rfl, hwB⟩
 have hwB := hwB.symm
 subst hwB
 go_wp2_with fail
 refine (Ew _ wK).mono ?_
 rintro e wB ⟨rfl, hwB⟩
 have hwB := hwB.symm
 subst hwB
 go_wp2_with fail
 go_ret
 exact HFIN.out
end Go.Proofs.YtonjphollmdicaaGreatDoor
