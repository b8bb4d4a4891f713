import Derived.Test.YtonjphollmdicaaGreatDoorB04
import Derived.Maps.AppendAt
set_option maxRecDepth 100000
set_option maxHeartbeats 4000000
set_option linter.unusedSimpArgs false
namespace Go.Proofs.YtonjphollmdicaaGreatDoor
open Go.ChangeShapes Go.WideShapes Go.ChangeAt Go.RowKit
theorem Tryz.infoKN : (Tryz.prog.info? 3).map (fun i => (i.zero, i.size, i.bytes)) = some (some (.int .i64 0), 1, 8) := by kernel_rfl
theorem Tryz.infoKN2 : (Tryz.prog.info? 31).map (fun i => (i.zero, i.size, i.bytes)) = some (some (.slice none 0 0), 1, 24) := by kernel_rfl
theorem Tryz.infoKN3 : (Tryz.prog.info? 3).map (fun i => (i.zero, i.size, i.bytes)) = some (some (.int .i64 0), 1, 8) := by kernel_rfl
theorem Hj {w : World} {base B : Nat} {F : Nat → Prop} {rs : Nat → Value} {T : Nat → List Value} {M : Nat → List Int} (h : BookI w base B F rs T M) (la : Option Addr) (n c : Nat) (xs : List Value) (hn : n ≤ 1000) (hM : (M 2).length + 4 ≤ 4398046511104)
  (hl : w.ownsRow base 3 1 (.slice la n c) n xs) (hF : ∀ k, (Value.slice la n c).ownBlock = some k → ¬ F k) :
  Calls Tryz.prog 56 #[.pointer (some ⟨B, 0, none⟩), .slice la n c] w (GA w base B F M 2 (.slice la n c)) := by
 obtain ⟨i0, hi, hz0, hz1, hz2⟩ := info_parts Tryz.infoKN
 obtain ⟨j0, ji, jz0, jz1, jz2⟩ := info_parts Tryz.infoKN2
 obtain ⟨k0, ki, kz0, kz1, kz2⟩ := info_parts Tryz.infoKN3
 have H := Aa h
 have HF := Aa (fun k hk => hF k (blkL_mem.1 hk) : ∀ k ∈ Ed (.slice la n c), ¬ F k)
 obtain ⟨ma, mc, hmv, -⟩ := A6 (h.rowM 2 (by omega))
 have hmv : rs 6 = .slice ma (M 2).length mc := hmv
 obtain ⟨na, nc, hnv, -⟩ := A6 (h.rowT 2 (by omega))
 have HLEN := Aa (h.len 2 (by omega))
 obtain ⟨mk, hmk⟩ : ∃ x, x = (M 2).length := ⟨_, rfl⟩
 rw [h.len 2 (by omega), ← hmk] at hnv
 rw [← hmk] at hmv hM HLEN
 have cq := (h.blk 6 _ rfl).1
 rw [hmv] at cq
 have hbase := h.bas
 have HL := Aa hl
 have HLL := Aa (fun k hk => (hl.lt k (blkL_mem.1 hk)).2 : ∀ k ∈ Ed (.slice la n c), k < w.heap.size)
 have HMK := Aa hmk
 have HMV := Aa hmv
 have HNV := Aa hnv
 clear h hl hF hmk hmv hnv
 go_enter Tryz.func56, Tryz.ntmps56
 go_wp2_with fail
 obtain ⟨m, hm⟩ : ∃ m : Int, m = -1 - (mk : Int) := ⟨_, rfl⟩
 rw [← hm]
 have HM := Aa (⟨by omega, by omega, fun h => absurd rfl h⟩ : -4398046511104 ≤ m ∧ m ≤ 4398046511104 ∧ ((2 : Nat) ≠ 2 → 0 ≤ m))
 clear hm cq
 go_loopw [5] (fun i W => ∃ (k : Nat) (ys : List Value), k ≤ n ∧ i = .int .i64 (k : Int) ∧ W.ownsRow base 3 1 (.slice la n c) n ys ∧ Hid (∀ j, j < k * 1 → ys[j]? = some (.int .i64 m)) ∧ Touch (Ed (.slice la n c)) w W)
  (fun i _ => n - (intOf i).toNat)
 case atStart => exact ⟨0, xs, by omega, rfl, HL.out, Aa (fun j hj => by omega), Touch.refl _ _⟩
 case round =>
  clear HL
  obtain ⟨k, ys, hk, rfl, hown, HY, ht⟩ := hrel
  by_cases hlt : k < n
  ·obtain ⟨ga, gc, ge, -, hga, -⟩ := A6 hown
   cases ge
   cases la with
   | none =>
    rcases hown.2 with ⟨_, h0⟩ | ⟨_, _, _, h0, _⟩
    ·omega
    ·cases h0
   | some ad =>
    obtain ⟨g, rfl, hgo⟩ := hga ad rfl
    have hfz := hown.frozenAt k
    have hyl : ys.length = n := by have := hown.1; simpa using this
    have hc1 : wr.cell? ⟨g, k, none⟩ = some ys[k] := by rw [hown.cellAt _ (by omega), List.getElem?_eq_getElem]
    have K1 := Aa (hown.stored k (.int .i64 m)).1
    have K2 : Hid (∀ j, j < (k + 1) * 1 → (ys.set k (.int .i64 m))[j]? = some (.int .i64 m)) := Aa (fun j hj => by
     by_cases e : j = k
     ·subst e
      rw [List.getElem?_set_self (by omega)]
     ·rw [List.getElem?_set_ne (by omega)]
      exact HY.out j (by omega))
    have K3 := Aa (ht.setCell (x := ⟨g, k, none⟩) (.inl (blkL_mem.2 hgo)) (.int .i64 m))
    clear hown HY ht hga hgo
    go_wp2_with fail
    exact ⟨⟨k + 1, _, by omega, by go_num, K1.out, K2, K3.out⟩, by simp [intOf]; omega⟩
  ·obtain rfl : k = n := by omega
   have hyl : ys.length = k := by have := hown.1; simpa using this
   have e := Gp (n := k) (p := [.int .i64 m]) (ys := ys) (by simpa using hyl) (by simp) (fun i q hi hq => by
    obtain rfl : q = 0 := by simpa using hq
    simpa using HY.out i (by omega))
   subst e
   have HO := Aa hown
   have HT := Aa ht
   have hsz : base ≤ wr.heap.size := Nat.le_trans hbase ht.size
   have HS0 := Aa ht.size
   clear hown ht HY
   go_wp2_with (at_builtin; refine AJ rfl (.tmp 26) (.tmp 28) 31 rfl base 3 i0 (.int .i64 0) 8 [.int .i64 m] Tryz.underlying31 hi hz0 hz1 hz2 rfl (by simp) (.slice la k c) k rfl (HO.out.alloc _) ⟨wr.heap.size, 0, none⟩ 1 1 rfl (by omega) (CU (ES wr #[.int .i64 m] 3) rfl) (by simp [Value.oneCell']) (by unfold maxLen; omega) (by omega) (by simp; omega) ?_)
   intro v1 w1 hg1
   have C1 := Aa (hg1.copy (N := w.heap.size) (by omega) (by simp; have := HS0.out; omega))
   have O1 := Aa hg1.2.1
   have T1 := Aa ((HT.out.alloc _).trans hg1.2.2.1)
   have hz1' : base ≤ w1.heap.size := by have := hg1.2.2.1.size; simp at this; omega
   have hs1 : w.heap.size ≤ w1.heap.size := T1.out.size
   clear hg1 HO HT HS0
   go_wp2_with (at_builtin; refine AJ rfl (.tmp 30) (.tmp 33) 31 rfl base 3 i0 (.int .i64 0) 8 [.int .i64 m] Tryz.underlying31 hi hz0 hz1 hz2 rfl (by simp) (.slice la k c) k rfl (O1.out.alloc _) ⟨w1.heap.size, 0, none⟩ 2 2 rfl (by omega) (CU (ES w1 #[.int .i64 m, .int .i64 m] 3) rfl) (by simp [Value.oneCell']) (by unfold maxLen; omega) (by omega) (by simp; omega) ?_)
   intro v2 w2 hg2
   have C12 := Aa ((C1.out.alloc _).next hg2 (by omega))
   have C2 := Aa (hg2.copy (N := w.heap.size) (by omega) (by simp; omega))
   have O2 := Aa hg2.2.1
   have T2 := Aa ((T1.out.alloc _).trans hg2.2.2.1)
   have hz2' : base ≤ w2.heap.size := by have := hg2.2.2.1.size; simp at this; omega
   have hs2 : w.heap.size ≤ w2.heap.size := T2.out.size
   clear hg2 C1 O1 T1 hz1' hs1
   go_wp2_with (at_builtin; refine AJ rfl (.tmp 35) (.tmp 39) 31 rfl base 3 i0 (.int .i64 0) 8 [.int .i64 m] Tryz.underlying31 hi hz0 hz1 hz2 rfl (by simp) (.slice la k c) k rfl (O2.out.alloc _) ⟨w2.heap.size, 0, none⟩ 3 3 rfl (by omega) (CU (ES w2 #[.int .i64 m, .int .i64 m, .int .i64 m] 3) rfl) (by simp [Value.oneCell']) (by unfold maxLen; omega) (by omega) (by simp; omega) ?_)
   intro v3 w3 hg3
   have C13 := Aa ((C12.out.alloc _).next hg3 (by omega))
   have C23 := Aa ((C2.out.alloc _).next hg3 (by omega))
   have C3 := Aa (hg3.copy (N := w.heap.size) (by omega) (by simp; omega))
   have O3 := Aa hg3.2.1
   have T3 := Aa ((T2.out.alloc _).trans hg3.2.2.1)
   have hs3 : w.heap.size ≤ w3.heap.size := T3.out.size
   clear hg3 C12 C2 O2 T2 hz2' hs2
   obtain ⟨g1, c1, rfl, -⟩ := C13.out
   obtain ⟨g2, c2, rfl, -⟩ := C23.out
   obtain ⟨g3, c3, rfl, -⟩ := C3.out
   have HB3 := Aa (H.out.touch T3.out HF.out)
   have c20 := (HB3.out.blk 2 _ rfl).1
   rw [HNV.out] at c20
   have hb3 := HB3.out.bas
   have hlt3 : B < w3.heap.size := HB3.out.lt
   have HR := Aa (HB3.out.rowT 2 (by omega))
   rw [HLEN.out, HNV.out] at HR
   go_wp2_with (at_builtin; refine wpList_append_own_at _ rfl (.tmp 45) (.tmp 50) 24 rfl base 31 j0 (.slice none 0 0) 1 24 Tryz.underlying24 ji jz0 jz1 jz2 rfl (by decide) (.slice na mk nc) mk (T 2) rfl (HR.out.alloc _) ⟨w3.heap.size, 0, none⟩ 4 4 [.slice la k c, .slice (some ⟨g1, 0, none⟩) (k + 1) c1, .slice (some ⟨g2, 0, none⟩) (k + 2) c2, .slice (some ⟨g3, 0, none⟩) (k + 3) c3] rfl rfl ?c1 ?c2 (by unfold maxLen; omega) (by omega) (by simp; omega) ?_)
   case c1 => exact CT _ _ _
   case c2 =>
    intro u hu
    simp at hu
    rcases hu with rfl | rfl | rfl | rfl <;> rfl
   intro tv w4 hT4 hg4 hnil hat4
   obtain ⟨ta, tc, rfl, -⟩ := A6 hT4
   obtain ⟨⟨s2, s2f⟩, hE⟩ := Gx (j := 2) (q := 6) (m := m) H.out (by omega) rfl HNV.out HMV.out HMK.out HF.out hn HM.out T3.out O3.out C13.out C23.out C3.out hT4 hg4 hat4
   have HE := Aa hE
   clear hT4 hg4 hat4 hnil hE HR c20 hb3 HB3 HF HLL C13 C23 C3 O3 T3 HM
   go_wp2_with fail
   obtain ⟨W5, hW5⟩ : ∃ X, X = w4.setCell ⟨B, 2, none⟩ (.slice ta (mk + 4) tc) := ⟨_, rfl⟩
   rw [← hW5]
   obtain ⟨cq, hmo, hlt5, hb5, he⟩ := HE.out W5 hW5
   have M2 := Aa hmo
   have HQ := Aa he
   clear hW5 s2 s2f HE hmo he
   refine wp_region_held_drew (S := fun _ => True) (by kernel_rfl) trivial (fun hHeld => ?_)
   refine tY 0 54 ?_
   refine tY 1 55 ?_
   refine tY 2 56 ?_
   refine tY 3 57 ?_
   refine tY 4 58 ?_
   refine tY 6 60 ?_
   refine tY 7 61 ?_
   refine tY 8 62 ?_
   refine tY 9 63 ?_
   refine tY 12 66 ?_
   refine tY 13 67 ?_
   refine EK (i := 5) (j := 10) (by kernel_rfl) (fun K o ho hK => ?_) (fun K o ho hK => ?_)
   focus
    simp only [gA, gB, gC, gE] at ho
    subst ho
    go_simp
    refine hK.out _ _ ?_ (fun hHeld => ?_)
    focus trivial
    clear hK K
    try simp only [Act.put, sA, sB, sC]
    refine Ah (i := 10) (by kernel_rfl) (fun K o ho hK => ?_)
    simp only [gA, gB, gC, gE] at ho
    subst ho
    go_simp
    refine hK.out _ _ ?_ (fun hHeld => ?_)
    focus trivial
    clear hK K
    try simp only [Act.put, sA, sB, sC]
    refine Ah (i := 11) (by kernel_rfl) (fun K o ho hK => ?_)
    simp only [gA, gB, gC, gE] at ho
    subst ho
    rw [if_pos (by rfl)]
    refine BG _ (.tmp 59) (.tmp 64) 31 rfl base 3 k0 (.int .i64 0) 1 8 Tryz.underlying31 ki kz0 kz1 kz2 rfl (by decide) (.slice ma mk mc) mk ((M 2).map (Value.int .i64)) rfl (M2.out.alloc _) ⟨W5.heap.size, 0, none⟩ 4 4 [.int .i64 m, .int .i64 m, .int .i64 m, .int .i64 m] rfl rfl (CT _ _ _) (by simp [Value.oneCell']) (by unfold maxLen; omega) (by omega) (by simp; omega) ?_
    intro mv w6 hM6 hg6 hat6
    obtain ⟨va, vc, rfl, -⟩ := A6 hM6
    obtain ⟨⟨q6, q6f⟩, hfin⟩ := HQ.out _ w6 hg6
    have HFIN := Aa (hfin _ hM6 (hat6.imp id (fun e => by rw [e]; simp)))
    clear hM6 hg6 hat6 hfin
    refine hK.out _ _ ?_ (fun hHeld => ?_)
    focus trivial
    clear hK K
    try simp only [Act.put, sA, sB, sC]
    refine tY 14 68 ?_
    refine Ah (i := 15) (by kernel_rfl) (fun K o ho hK => ?_)
    simp only [gA, gB, gC, gE] at ho
    subst ho
    go_simp
    refine hK.out _ _ ?_ (fun hHeld => ?_)
    focus trivial
    clear hK K
    try simp only [Act.put, sA, sB, sC]
    refine wpAnyH_done (by kernel_rfl) ?_ _
    go_wp2_with fail
    go_end0
    exact HFIN.out
   focus
    simp only [gA, gB, gC, gE] at ho
    subst ho
    go_simp
    refine hK.out _ _ ?_ (fun hHeld => ?_)
    focus trivial
    clear hK K
    try simp only [Act.put, sA, sB, sC]
    refine Ah (i := 5) (by kernel_rfl) (fun K o ho hK => ?_)
    simp only [gA, gB, gC, gE] at ho
    subst ho
    go_simp
    refine hK.out _ _ ?_ (fun hHeld => ?_)
    focus trivial
    clear hK K
    try simp only [Act.put, sA, sB, sC]
    refine Ah (i := 11) (by kernel_rfl) (fun K o ho hK => ?_)
    simp only [gA, gB, gC, gE] at ho
    subst ho
    rw [if_pos (by rfl)]
    refine BG _ (.tmp 59) (.tmp 64) 31 rfl base 3 k0 (.int .i64 0) 1 8 Tryz.underlying31 ki kz0 kz1 kz2 rfl (by decide) (.slice ma mk mc) mk ((M 2).map (Value.int .i64)) rfl (M2.out.alloc _) ⟨W5.heap.size, 0, none⟩ 4 4 [.int .i64 m, .int .i64 m, .int .i64 m, .int .i64 m] rfl rfl (CT _ _ _) (by simp [Value.oneCell']) (by unfold maxLen; omega) (by omega) (by simp; omega) ?_
    intro mv w6 hM6 hg6 hat6
    obtain ⟨va, vc, rfl, -⟩ := A6 hM6
    obtain ⟨⟨q6, q6f⟩, hfin⟩ := HQ.out _ w6 hg6
    have HFIN := Aa (hfin _ hM6 (hat6.imp id (fun e => by rw [e]; simp)))
    clear hM6 hg6 hat6 hfin
    refine hK.out _ _ ?_ (fun hHeld => ?_)
    focus trivial
    clear hK K
    try simp only [Act.put, sA, sB, sC]
    refine tY 14 68 ?_
    refine Ah (i := 15) (by kernel_rfl) (fun K o ho hK => ?_)
    simp only [gA, gB, gC, gE] at ho
    subst ho
    go_simp
    refine hK.out _ _ ?_ (fun hHeld => ?_)
    focus trivial
    clear hK K
    try simp only [Act.put, sA, sB, sC]
    refine wpAnyH_done (by kernel_rfl) ?_ _
    go_wp2_with fail
    go_end0
    exact HFIN.out
theorem Tryz.infoKB : (Tryz.prog.info? 4).map (fun i => (i.zero, i.size, i.bytes)) = some (some (.bool false), 1, 1) := by kernel_rfl
theorem Tryz.infoKB2 : (Tryz.prog.info? 32).map (fun i => (i.zero, i.size, i.bytes)) = some (some (.slice none 0 0), 1, 24) := by kernel_rfl
theorem Tryz.infoKB3 : (Tryz.prog.info? 3).map (fun i => (i.zero, i.size, i.bytes)) = some (some (.int .i64 0), 1, 8) := by kernel_rfl
theorem Je {w : World} {base B : Nat} {F : Nat → Prop} {rs : Nat → Value} {T : Nat → List Value} {M : Nat → List Int} (h : BookI w base B F rs T M) (la : Option Addr) (n c : Nat) (xs : List Value) (hn : n ≤ 1000) (hM : (M 3).length + 4 ≤ 4398046511104)
  (hl : w.ownsRow base 4 1 (.slice la n c) n xs) (hF : ∀ k, (Value.slice la n c).ownBlock = some k → ¬ F k) :
  Calls Tryz.prog 57 #[.pointer (some ⟨B, 0, none⟩), .slice la n c] w (GA w base B F M 3 (.slice la n c)) := by
 obtain ⟨i0, hi, hz0, hz1, hz2⟩ := info_parts Tryz.infoKB
 obtain ⟨j0, ji, jz0, jz1, jz2⟩ := info_parts Tryz.infoKB2
 obtain ⟨k0, ki, kz0, kz1, kz2⟩ := info_parts Tryz.infoKB3
 have H := Aa h
 have HF := Aa (fun k hk => hF k (blkL_mem.1 hk) : ∀ k ∈ Ed (.slice la n c), ¬ F k)
 obtain ⟨ma, mc, hmv, -⟩ := A6 (h.rowM 3 (by omega))
 have hmv : rs 7 = .slice ma (M 3).length mc := hmv
 obtain ⟨na, nc, hnv, -⟩ := A6 (h.rowT 3 (by omega))
 have HLEN := Aa (h.len 3 (by omega))
 obtain ⟨mk, hmk⟩ : ∃ x, x = (M 3).length := ⟨_, rfl⟩
 rw [h.len 3 (by omega), ← hmk] at hnv
 rw [← hmk] at hmv hM HLEN
 have cq := (h.blk 7 _ rfl).1
 rw [hmv] at cq
 have hbase := h.bas
 have HL := Aa hl
 have HLL := Aa (fun k hk => (hl.lt k (blkL_mem.1 hk)).2 : ∀ k ∈ Ed (.slice la n c), k < w.heap.size)
 have HMK := Aa hmk
 have HMV := Aa hmv
 have HNV := Aa hnv
 clear h hl hF hmk hmv hnv
 go_enter Tryz.func57, Tryz.ntmps57
 go_wp2_with fail
 go_wp2_with fail
 obtain ⟨m, hm⟩ : ∃ m : Int, m = (mk : Int) / 4 % 2 := ⟨_, rfl⟩
 rw [← hm]
 have HM := Aa (⟨by omega, by omega, fun _ => by omega⟩ : -4398046511104 ≤ m ∧ m ≤ 4398046511104 ∧ ((3 : Nat) ≠ 2 → 0 ≤ m))
 clear hm cq
 go_loopw [6] (fun i W => ∃ (k : Nat) (ys : List Value), k ≤ n ∧ i = .int .i64 (k : Int) ∧ W.ownsRow base 4 1 (.slice la n c) n ys ∧ Hid (∀ j, j < k * 1 → ys[j]? = some (.bool (m == 1))) ∧ Touch (Ed (.slice la n c)) w W)
  (fun i _ => n - (intOf i).toNat)
 case atStart => exact ⟨0, xs, by omega, rfl, HL.out, Aa (fun j hj => by omega), Touch.refl _ _⟩
 case round =>
  clear HL
  obtain ⟨k, ys, hk, rfl, hown, HY, ht⟩ := hrel
  by_cases hlt : k < n
  ·obtain ⟨ga, gc, ge, -, hga, -⟩ := A6 hown
   cases ge
   cases la with
   | none =>
    rcases hown.2 with ⟨_, h0⟩ | ⟨_, _, _, h0, _⟩
    ·omega
    ·cases h0
   | some ad =>
    obtain ⟨g, rfl, hgo⟩ := hga ad rfl
    have hfz := hown.frozenAt k
    have hyl : ys.length = n := by have := hown.1; simpa using this
    have hc1 : wr.cell? ⟨g, k, none⟩ = some ys[k] := by rw [hown.cellAt _ (by omega), List.getElem?_eq_getElem]
    have K1 := Aa (hown.stored k (.bool (m == 1))).1
    have K2 : Hid (∀ j, j < (k + 1) * 1 → (ys.set k (.bool (m == 1)))[j]? = some (.bool (m == 1))) := Aa (fun j hj => by
     by_cases e : j = k
     ·subst e
      rw [List.getElem?_set_self (by omega)]
     ·rw [List.getElem?_set_ne (by omega)]
      exact HY.out j (by omega))
    have K3 := Aa (ht.setCell (x := ⟨g, k, none⟩) (.inl (blkL_mem.2 hgo)) (.bool (m == 1)))
    clear hown HY ht hga hgo
    go_wp2_with fail
    exact ⟨⟨k + 1, _, by omega, by go_num, K1.out, K2, K3.out⟩, by simp [intOf]; omega⟩
  ·obtain rfl : k = n := by omega
   have hyl : ys.length = k := by have := hown.1; simpa using this
   have e := Gp (n := k) (p := [.bool (m == 1)]) (ys := ys) (by simpa using hyl) (by simp) (fun i q hi hq => by
    obtain rfl : q = 0 := by simpa using hq
    simpa using HY.out i (by omega))
   subst e
   have HO := Aa hown
   have HT := Aa ht
   have hsz : base ≤ wr.heap.size := Nat.le_trans hbase ht.size
   have HS0 := Aa ht.size
   clear hown ht HY
   go_wp2_with (at_builtin; refine AJ rfl (.tmp 30) (.tmp 32) 32 rfl base 4 i0 (.bool false) 1 [.bool (m == 1)] Tryz.underlying32 hi hz0 hz1 hz2 rfl (by simp) (.slice la k c) k rfl (HO.out.alloc _) ⟨wr.heap.size, 0, none⟩ 1 1 rfl (by omega) (CU (ES wr #[.bool (m == 1)] 4) rfl) (by simp [Value.oneCell']) (by unfold maxLen; omega) (by omega) (by simp; omega) ?_)
   intro v1 w1 hg1
   have C1 := Aa (hg1.copy (N := w.heap.size) (by omega) (by simp; have := HS0.out; omega))
   have O1 := Aa hg1.2.1
   have T1 := Aa ((HT.out.alloc _).trans hg1.2.2.1)
   have hz1' : base ≤ w1.heap.size := by have := hg1.2.2.1.size; simp at this; omega
   have hs1 : w.heap.size ≤ w1.heap.size := T1.out.size
   clear hg1 HO HT HS0
   go_wp2_with (at_builtin; refine AJ rfl (.tmp 34) (.tmp 37) 32 rfl base 4 i0 (.bool false) 1 [.bool (m == 1)] Tryz.underlying32 hi hz0 hz1 hz2 rfl (by simp) (.slice la k c) k rfl (O1.out.alloc _) ⟨w1.heap.size, 0, none⟩ 2 2 rfl (by omega) (CU (ES w1 #[.bool (m == 1), .bool (m == 1)] 4) rfl) (by simp [Value.oneCell']) (by unfold maxLen; omega) (by omega) (by simp; omega) ?_)
   intro v2 w2 hg2
   have C12 := Aa ((C1.out.alloc _).next hg2 (by omega))
   have C2 := Aa (hg2.copy (N := w.heap.size) (by omega) (by simp; omega))
   have O2 := Aa hg2.2.1
   have T2 := Aa ((T1.out.alloc _).trans hg2.2.2.1)
   have hz2' : base ≤ w2.heap.size := by have := hg2.2.2.1.size; simp at this; omega
   have hs2 : w.heap.size ≤ w2.heap.size := T2.out.size
   clear hg2 C1 O1 T1 hz1' hs1
   go_wp2_with (at_builtin; refine AJ rfl (.tmp 39) (.tmp 43) 32 rfl base 4 i0 (.bool false) 1 [.bool (m == 1)] Tryz.underlying32 hi hz0 hz1 hz2 rfl (by simp) (.slice la k c) k rfl (O2.out.alloc _) ⟨w2.heap.size, 0, none⟩ 3 3 rfl (by omega) (CU (ES w2 #[.bool (m == 1), .bool (m == 1), .bool (m == 1)] 4) rfl) (by simp [Value.oneCell']) (by unfold maxLen; omega) (by omega) (by simp; omega) ?_)
   intro v3 w3 hg3
   have C13 := Aa ((C12.out.alloc _).next hg3 (by omega))
   have C23 := Aa ((C2.out.alloc _).next hg3 (by omega))
   have C3 := Aa (hg3.copy (N := w.heap.size) (by omega) (by simp; omega))
   have O3 := Aa hg3.2.1
   have T3 := Aa ((T2.out.alloc _).trans hg3.2.2.1)
   have hs3 : w.heap.size ≤ w3.heap.size := T3.out.size
   clear hg3 C12 C2 O2 T2 hz2' hs2
   obtain ⟨g1, c1, rfl, -⟩ := C13.out
   obtain ⟨g2, c2, rfl, -⟩ := C23.out
   obtain ⟨g3, c3, rfl, -⟩ := C3.out
   have HB3 := Aa (H.out.touch T3.out HF.out)
   have c20 := (HB3.out.blk 3 _ rfl).1
   rw [HNV.out] at c20
   have hb3 := HB3.out.bas
   have hlt3 : B < w3.heap.size := HB3.out.lt
   have HR := Aa (HB3.out.rowT 3 (by omega))
   rw [HLEN.out, HNV.out] at HR
   go_wp2_with (at_builtin; refine wpList_append_own_at _ rfl (.tmp 49) (.tmp 54) 75 rfl base 32 j0 (.slice none 0 0) 1 24 Tryz.underlying75 ji jz0 jz1 jz2 rfl (by decide) (.slice na mk nc) mk (T 3) rfl (HR.out.alloc _) ⟨w3.heap.size, 0, none⟩ 4 4 [.slice la k c, .slice (some ⟨g1, 0, none⟩) (k + 1) c1, .slice (some ⟨g2, 0, none⟩) (k + 2) c2, .slice (some ⟨g3, 0, none⟩) (k + 3) c3] rfl rfl ?c1 ?c2 (by unfold maxLen; omega) (by omega) (by simp; omega) ?_)
   case c1 => exact CT _ _ _
   case c2 =>
    intro u hu
    simp at hu
    rcases hu with rfl | rfl | rfl | rfl <;> rfl
   intro tv w4 hT4 hg4 hnil hat4
   obtain ⟨ta, tc, rfl, -⟩ := A6 hT4
   obtain ⟨⟨s2, s2f⟩, hE⟩ := Gx (j := 3) (q := 7) (m := m) H.out (by omega) rfl HNV.out HMV.out HMK.out HF.out hn HM.out T3.out O3.out C13.out C23.out C3.out hT4 hg4 hat4
   have HE := Aa hE
   clear hT4 hg4 hat4 hnil hE HR c20 hb3 HB3 HF HLL C13 C23 C3 O3 T3 HM
   go_wp2_with fail
   obtain ⟨W5, hW5⟩ : ∃ X, X = w4.setCell ⟨B, 3, none⟩ (.slice ta (mk + 4) tc) := ⟨_, rfl⟩
   rw [← hW5]
   obtain ⟨cq, hmo, hlt5, hb5, he⟩ := HE.out W5 hW5
   have M2 := Aa hmo
   have HQ := Aa he
   clear hW5 s2 s2f HE hmo he
   refine wp_region_held_drew (S := fun _ => True) (by kernel_rfl) trivial (fun hHeld => ?_)
   refine tY 0 58 ?_
   refine tY 1 59 ?_
   refine tY 2 60 ?_
   refine tY 3 61 ?_
   refine tY 4 62 ?_
   refine tY 6 64 ?_
   refine tY 7 65 ?_
   refine tY 8 66 ?_
   refine tY 9 67 ?_
   refine tY 12 70 ?_
   refine tY 13 71 ?_
   refine EK (i := 5) (j := 10) (by kernel_rfl) (fun K o ho hK => ?_) (fun K o ho hK => ?_)
   focus
    simp only [gA, gB, gC, gE] at ho
    subst ho
    go_simp
    refine hK.out _ _ ?_ (fun hHeld => ?_)
    focus trivial
    clear hK K
    try simp only [Act.put, sA, sB, sC]
    refine Ah (i := 10) (by kernel_rfl) (fun K o ho hK => ?_)
    simp only [gA, gB, gC, gE] at ho
    subst ho
    go_simp
    refine hK.out _ _ ?_ (fun hHeld => ?_)
    focus trivial
    clear hK K
    try simp only [Act.put, sA, sB, sC]
    refine Ah (i := 11) (by kernel_rfl) (fun K o ho hK => ?_)
    simp only [gA, gB, gC, gE] at ho
    subst ho
    rw [if_pos (by rfl)]
    refine BG _ (.tmp 63) (.tmp 68) 31 rfl base 3 k0 (.int .i64 0) 1 8 Tryz.underlying31 ki kz0 kz1 kz2 rfl (by decide) (.slice ma mk mc) mk ((M 3).map (Value.int .i64)) rfl (M2.out.alloc _) ⟨W5.heap.size, 0, none⟩ 4 4 [.int .i64 m, .int .i64 m, .int .i64 m, .int .i64 m] rfl rfl (CT _ _ _) (by simp [Value.oneCell']) (by unfold maxLen; omega) (by omega) (by simp; omega) ?_
    intro mv w6 hM6 hg6 hat6
    obtain ⟨va, vc, rfl, -⟩ := A6 hM6
    obtain ⟨⟨q6, q6f⟩, hfin⟩ := HQ.out _ w6 hg6
    have HFIN := Aa (hfin _ hM6 (hat6.imp id (fun e => by rw [e]; simp)))
    clear hM6 hg6 hat6 hfin
    refine hK.out _ _ ?_ (fun hHeld => ?_)
    focus trivial
    clear hK K
    try simp only [Act.put, sA, sB, sC]
    refine tY 14 72 ?_
    refine Ah (i := 15) (by kernel_rfl) (fun K o ho hK => ?_)
    simp only [gA, gB, gC, gE] at ho
    subst ho
    go_simp
    refine hK.out _ _ ?_ (fun hHeld => ?_)
    focus trivial
    clear hK K
    try simp only [Act.put, sA, sB, sC]
    refine wpAnyH_done (by kernel_rfl) ?_ _
    go_wp2_with fail
    go_end0
    exact HFIN.out
   focus
    simp only [gA, gB, gC, gE] at ho
    subst ho
    go_simp
    refine hK.out _ _ ?_ (fun hHeld => ?_)
    focus trivial
    clear hK K
    try simp only [Act.put, sA, sB, sC]
    refine Ah (i := 5) (by kernel_rfl) (fun K o ho hK => ?_)
    simp only [gA, gB, gC, gE] at ho
    subst ho
    go_simp
    refine hK.out _ _ ?_ (fun hHeld => ?_)
    focus trivial
    clear hK K
    try simp only [Act.put, sA, sB, sC]
    refine Ah (i := 11) (by kernel_rfl) (fun K o ho hK => ?_)
    simp only [gA, gB, gC, gE] at ho
    subst ho
    rw [if_pos (by rfl)]
    refine BG _ (.tmp 63) (.tmp 68) 31 rfl base 3 k0 (.int .i64 0) 1 8 Tryz.underlying31 ki kz0 kz1 kz2 rfl (by decide) (.slice ma mk mc) mk ((M 3).map (Value.int .i64)) rfl (M2.out.alloc _) ⟨W5.heap.size, 0, none⟩ 4 4 [.int .i64 m, .int .i64 m, .int .i64 m, .int .i64 m] rfl rfl (CT _ _ _) (by simp [Value.oneCell']) (by unfold maxLen; omega) (by omega) (by simp; omega) ?_
    intro mv w6 hM6 hg6 hat6
    obtain ⟨va, vc, rfl, -⟩ := A6 hM6
    obtain ⟨⟨q6, q6f⟩, hfin⟩ := HQ.out _ w6 hg6
    have HFIN := Aa (hfin _ hM6 (hat6.imp id (fun e => by rw [e]; simp)))
    clear hM6 hg6 hat6 hfin
    refine hK.out _ _ ?_ (fun hHeld => ?_)
    focus trivial
    clear hK K
    try simp only [Act.put, sA, sB, sC]
    refine tY 14 72 ?_
    refine Ah (i := 15) (by kernel_rfl) (fun K o ho hK => ?_)
    simp only [gA, gB, gC, gE] at ho
    subst ho
    go_simp
    refine hK.out _ _ ?_ (fun hHeld => ?_)
    focus trivial
    clear hK K
    try simp only [Act.put, sA, sB, sC]
    refine wpAnyH_done (by kernel_rfl) ?_ _
    go_wp2_with fail
    go_end0
    exact HFIN.out
end Go.Proofs.YtonjphollmdicaaGreatDoor
