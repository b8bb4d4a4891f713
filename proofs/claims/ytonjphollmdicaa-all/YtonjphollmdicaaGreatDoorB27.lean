import Derived.Test.YtonjphollmdicaaGreatDoorB26
set_option maxRecDepth 100000
set_option maxHeartbeats 4000000
set_option linter.unusedSimpArgs false
namespace Go.Proofs.YtonjphollmdicaaGreatDoor
open Go.ChangeShapes Go.WideShapes Go.ChangeAt Go.RowKit
open Go.Maps
theorem Tryz.infoI64 : (Tryz.prog.info? 3).map (fun i => (i.zero, i.size, i.bytes)) = some (some (.int .i64 0), 1, 8) := by kernel_rfl
theorem Tryz.infoFI : (Tryz.prog.info? 143).map (fun i => (i.zero, i.size, i.bytes)) = some (some (.agg #[.int .i64 0, .string ByteArray.empty, .int .i64 0, .int .u64 0, .slice none 0 0]), 5, 64) := by kernel_rfl
def cellsL (v : Value) : List Value := match v with
 | .agg cs => cs.toList
 | _ => []
def CD (D : DataW Value) (ks : List Nat) : List Value := ks.flatMap fun k => cellsL ((atM D (Bo k)).getD undef)
theorem IB (D : DataW Value) (ks : List Nat) (j : Nat) (h : j < ks.length) : CD D (ks.take (j + 1)) = CD D (ks.take j) ++ cellsL ((atM D (Bo ks[j])).getD undef) := by
 unfold CD
 rw [Ap ks j h, List.flatMap_append]
 simp
theorem Pb (xs : List Value) (k : Nat) (y0 y1 y2 y3 y4 : Value) (h : k + 5 ≤ xs.length) : (((((xs.set k y0).set (k + 1) y1).set (k + 2) y2).set (k + 3) y3).set (k + 4) y4).take (k + 5) = xs.take k ++ [y0, y1, y2, y3, y4] := by
 apply List.ext_getElem?
 intro i
 by_cases hi : i < k + 5
 ·rw [List.getElem?_take_of_lt hi]
  by_cases h1 : i < k
  ·rw [List.getElem?_append_left (by rw [List.length_take]; omega), List.getElem?_take_of_lt h1]
   simp only [List.getElem?_set]
   repeat rw [if_neg (by omega)]
  ·rw [List.getElem?_append_right (by rw [List.length_take]; omega), List.length_take, Nat.min_eq_left (by omega)]
   have h2 : i = k ∨ i = k + 1 ∨ i = k + 2 ∨ i = k + 3 ∨ i = k + 4 := by omega
   rcases h2 with rfl | rfl | rfl | rfl | rfl
   ·simp [List.getElem?_set]; omega
   ·simp [List.getElem?_set]; omega
   ·simp [List.getElem?_set]; omega
   ·simp [List.getElem?_set]; omega
   ·simp [List.getElem?_set]; omega
 ·rw [List.getElem?_take_eq_none (by omega), List.getElem?_eq_none (by simp; omega)]
theorem Ii (g : FoundL → Option Nat) (l : List FoundL) (N : Nat) : (Ba g l N).Pairwise (· < ·) := List.pairwise_lt_range.filter _
structure Coll (D : DataW Value) (left : Lit → Bool) (ss : List Nat) : Prop where
 nodup : ss.Nodup
 mem : ∀ i, i ∈ ss ↔ (Maps.has D (Bo i) = true ∧ left (Bo i) = false)
theorem Coll.start (D : DataW Value) : Coll D (Maps.has D) [] := ⟨List.nodup_nil, fun i => by simp⟩
theorem Coll.step {D : DataW Value} {left : Lit → Bool} {ss : List Nat} (h : Coll D left ss) {i : Nat} (hl : left (Bo i) = true) (hh : Maps.has D (Bo i) = true) : Coll D (fun z => left z && !z.sameKey (Bo i)) (ss ++ [i]) := by
 have hi : i ∉ ss := fun e => by have := (h.mem i).1 e; rw [hl] at this; simp at this
 have hsame : (Bo i).sameKey (Bo i) = true := by simp [Bo, Lit.sameKey]
 refine ⟨List.nodup_append.2 ⟨h.nodup, by simp, fun a ha b hb e => ?_⟩, fun j => ?_⟩
 ·simp at hb
  subst hb
  exact hi (e ▸ ha)
 ·rw [List.mem_append, h.mem j]
  simp only [List.mem_singleton]
  by_cases c : j = i
  ·subst c
   simp [hl, hh, hsame]
  ·rw [Maps.sameKey_ne (GD c)]
   simp [c]
theorem Coll.perm {D : DataW Value} {left : Lit → Bool} {ss : List Nat} (h : Coll D left ss) (hl : ∀ kl, left kl = false) {g : FoundL → Option Nat} {l : List FoundL} {N : Nat} {R : Value → FoundL → Prop} (hk : KMap D g l N R) (hha : ∀ i, i < N → Maps.has D (Bo i) = (atM D (Bo i)).isSome) : ss.Perm (Ba g l N) := by
 refine (List.perm_ext_iff_of_nodup h.nodup ((Ii g l N).imp (fun {a b} h => Nat.ne_of_lt h))).2 fun i => ?_
 rw [h.mem i, hl]
 unfold Ba
 rw [List.mem_filter, List.mem_range]
 constructor
 ·rintro ⟨h1, _⟩
  obtain ⟨j, hj, e⟩ := hk.keys _ h1
  have : i = j := by
   by_cases c : i = j
   ·exact c
   ·exact absurd e (GD c)
  subst this
  refine ⟨hj, ?_⟩
  rw [← hk.isSome, ← hha i hj]
  exact h1
 ·rintro ⟨h1, h2⟩
  rw [← hk.isSome, ← hha i h1] at h2
  exact ⟨h2, rfl⟩
theorem Kg (F c N : Nat) (D : DataW Value) (g : FoundL → Option Nat) (l : List FoundL) (R : Value → FoundL → Prop) (hN : N ≤ 1000) (hRF : ∀ v f, R v f → R9 v) (w : World) (hm : w.ownsMap Tryz.prog 3 CK F c D) (hk : KMap D g l N R) :
  Calls Tryz.prog 110 #[.map (some F)] w fun e w' => ∃ v, e = .returned v ∧ w'.ownsRow w.heap.size 143 5 v (Ba g l N).length (CD D (Ba g l N)) ∧ Below w.heap.size w w' := by
 obtain ⟨i0, hi, hz0, hz1, hz2⟩ := info_parts Tryz.infoI64
 obtain ⟨j0, hj, hy0, hy1, hy2⟩ := info_parts Tryz.infoFI
 have hlen := hm.len (ty := 3) Tryz.underlying129
 have HM := Aa hm
 have HKM := Aa hk
 have hFl := hm.lt
 have hha : ∀ i, i < N → Maps.has D (Bo i) = (atM D (Bo i)).isSome := fun i hi => (GO hm Tryz.lawInt Tryz.underlying129 (Tryz.zeroFI w) (Di i (by omega))).1
 have HHA := Aa hha
 have hsz : Maps.size D ≤ 1000 := by
  rw [hk.size]
  unfold Ba
  exact Nat.le_trans (List.length_filter_le _ _) (by simpa using hN)
 clear hm hk hha
 obtain ⟨n, hn⟩ : ∃ n, n = Maps.size D := ⟨_, rfl⟩
 have HNS := Aa hn
 rw [← hn] at hlen hsz
 clear hn
 go_enter Tryz.func110, Tryz.ntmps110
 go_wp2_with (at_make; refine wpList_make_own _ rfl _ _ 31 rfl w.heap.size 3 i0 (.int .i64 0) 1 Tryz.underlying31 hi hz0 hz1 .i64 .i64 _ n rfl rfl rfl (by rw [hz2]; omega) (by unfold maxLen; omega) (Nat.le_refl _) ?_)
 intro w1 hown1 hg1
 have hb1 : Below w.heap.size w w1 := (Below.refl _ w).grown hg1 (Nat.le_refl _) (by simp)
 have hm1 := HM.out.kept hg1 (by simp)
 have HO1 := Aa hown1
 have HB1 := Aa hb1
 have HM1 := Aa hm1
 clear hown1 hg1 hb1 hm1 hlen
 go_wp2_with (at_range; refine wpList_range_own _ rfl _ 129 rfl 3 143 Tryz.lawInt Tryz.underlying129 _ F c D rfl HM1.out ?_)
 intro w2 hrg hg2 hs2
 have hb2 : Below w.heap.size w w2 := HB1.out.grown hg2 HB1.out.size (by simp)
 have ho2 := HO1.out.kept hg2 (.inr (by simp [Value.ownBlock]))
 obtain ⟨r, hr⟩ : ∃ r, r = w1.heap.size := ⟨_, rfl⟩
 have hrw : w.heap.size ≤ r := by have := HB1.out.size; omega
 have hor : w.heap.size ≠ r := by
  have := (HO1.out.lt w.heap.size rfl).2
  omega
 rw [← hr] at hrg ⊢
 clear hg2 hs2 hr
 rw [← HNS.out] at hrg
 have HRG := Aa hrg
 have HB2 := Aa hb2
 have HO2 := Aa ho2
 clear hrg hb2 ho2 HB1 HO1 HM1
 go_wp2_with fail
 go_loopw [3] (fun nv W => ∃ left cnt ss, W.ranges Tryz.prog 3 CK F r c D left cnt ∧ W.ownsRow w.heap.size 3 1 nv ss.length (Dz ss) ∧ nv.ownBlock ≠ some r ∧ Coll D left ss ∧ ss.length + cnt ≤ n ∧ Below w.heap.size w W)
  (fun _ W => W.rangeLeft F r)
 case atStart => exact ⟨_, _, [], HRG.out, HO2.out, by simpa [Value.ownBlock] using hor, Coll.start D, by simp, HB2.out⟩
 case round =>
  obtain ⟨left, cnt, ss, hrg, hown, hne, hcl, hct, hbl⟩ := hrel
  have hlq := hrg.left_eq
  have hszr := hbl.size
  have HRG := Aa hrg
  have HO := Aa hown
  have HNE := Aa hne
  have HCL := Aa hcl
  have HB := Aa hbl
  clear hrg hown hne hcl hbl HO2 HB2
  go_wp2_with (at_next; refine Gd _ rfl _ rfl 3 .i64 Tryz.lawInt Tryz.underlying3 F r c D left cnt rfl HRG.out ?_ ?_)
  ·intro hc0 hl0
   have hperm := HCL.out.perm hl0 HKM.out HHA.out
   have HP := Aa hperm
   clear hperm hlq
   obtain ⟨ks, hks⟩ : ∃ ks, ks = Ba g l N := ⟨_, rfl⟩
   rw [← hks] at HP
   have hpair : ks.Pairwise (· < ·) := by rw [hks]; exact Ii g l N
   have hkl : ss.length = ks.length := HP.out.length_eq
   have hkn : ∀ k ∈ ks, k < N ∧ ∃ v, atM D (Bo k) = some v ∧ R9 v := by
    intro k hk
    rw [hks] at hk
    unfold Ba at hk
    rw [List.mem_filter, List.mem_range] at hk
    refine ⟨hk.1, ?_⟩
    cases hf : AN g l k with
    | none => rw [hf] at hk; simp at hk
    | some f =>
     obtain ⟨v, h1, h2⟩ := HKM.out.there k f hf
     exact ⟨v, h1, hRF v f h2⟩
   have HKN := Aa hkn
   have hSW := Aa (KQ w.heap.size u3 ss ks wr (by omega) HP.out hpair HO.out)
   have hmr := HRG.out.owns
   have HMR := Aa hmr
   have hvb : ∀ j, u3.ownBlock = some j → w.heap.size ≤ j := fun j hj => (HO.out.lt j hj).1
   have HVB := Aa hvb
   obtain ⟨a3, c3, rfl, -⟩ := AE HO.out
   have HKL := Aa hkl
   have HKS := Aa hks
   have hsl : ss.length ≤ 1000 := by omega
   clear hkl hct
   clear hks hkn hmr hvb hpair HCL HRG HO HNE HKM HHA HNS HP hRF
   go_wp2_with fail
   refine hSW.out.mono ?_
   rintro e w4 ⟨rfl, ho4, ht4⟩
   have hb4 : Below w.heap.size w w4 := HB.out.trans (ht4.below hszr (fun x hx => HVB.out x (blkL_mem.1 hx)))
   have hm4 := Ar HMR.out ht4 (fun e => by have := HVB.out F (blkL_mem.1 e); omega)
   have B4 := Aa hb4
   have O4 := Aa ho4
   have M4 := Aa hm4
   clear ho4 ht4 hb4 hm4 HMR HB hSW HVB
   obtain ⟨m, hm⟩ : ∃ m, m = ss.length := ⟨_, rfl⟩
   rw [← hm] at O4 HKL hsl ⊢
   clear hm
   have hs4 : w.heap.size ≤ w4.heap.size := B4.out.size
   go_wp2_with (at_make; refine wpList_make_full _ rfl _ _ 88 rfl w.heap.size 143 j0 (.agg #[.int .i64 0, .string ByteArray.empty, .int .i64 0, .int .u64 0, .slice none 0 0]) 5 Tryz.underlying88 hj hy0 hy1 .i64 .i64 _ _ m rfl rfl rfl rfl (by rw [hy2]; omega) (by unfold maxLen; omega) hs4 ?_)
   intro w5 hown5 hg5
   have hb5 : Below w.heap.size w w5 := B4.out.grown hg5 hs4 (by simp)
   have ho5 := O4.out.kept hg5 (by cases h : (Value.slice a3 m c3).ownBlock <;> simp)
   have hm5 := M4.out.kept hg5 (by simp)
   obtain ⟨gr, hgr⟩ : ∃ x, x = w4.heap.size := ⟨_, rfl⟩
   rw [← hgr] at hown5 ⊢
   have hnb : ∀ k, (Value.slice a3 m c3).ownBlock = some k → k < gr := fun k hk => by rw [hgr]; exact (O4.out.lt k hk).2
   have HNB := Aa hnb
   have hgw : w.heap.size ≤ gr := by omega
   have B5 := Aa hb5
   have O5 := Aa ho5
   have M5 := Aa hm5
   have R5 := Aa hown5
   clear hgr hg5 hb5 ho5 hm5 hown5 B4 O4 M4 hnb hs4
   go_wp2_with fail
   go_loopw [28] (fun ix W => ∃ (j : Nat) (xs : List Value), j ≤ m ∧ ix = .int .i64 (j : Int) ∧ W.ownsRow w.heap.size 143 5 (.slice (some ⟨gr, 0, none⟩) m m) m xs ∧ Hid (xs.take (j * 5) = CD D (ks.take j)) ∧ W.ownsRow w.heap.size 3 1 (.slice a3 m c3) m (Dz ks) ∧ W.ownsMap Tryz.prog 3 CK F c D ∧ Below w.heap.size w W)
    (fun ix _ => m - (intOf ix).toNat)
   case atStart => exact ⟨0, _, by omega, rfl, R5.out, Aa (by simp [CD]), O5.out, M5.out, B5.out⟩
   case round =>
    clear R5 O5 M5 B5
    obtain ⟨j, xs, hjm, rfl, hrow, HX, hnum, hmap, hbl⟩ := hrel
    by_cases hlt : j < m
    ·have hjk : j < ks.length := by rw [← HKL.out]; exact hlt
     obtain ⟨hkN, v, hkv, hfi⟩ := HKN.out ks[j] (List.getElem_mem hjk)
     obtain ⟨y0, y1, y2, y3, ya, yl, yc, rfl⟩ := hfi
     have hlk := FJ hmap Tryz.lawInt Tryz.underlying129 (Tryz.zeroFI wr) (Di ks[j] (by omega))
     rw [hkv] at hlk
     simp only [Option.getD_some] at hlk
     obtain ⟨a4, c4, e4, hrd⟩ := AE hnum
     cases e4
     obtain ⟨bb, off, rfl, hcell⟩ := hrd j (.int .i64 (ks[j] : Int)) (by simp [Dz, hjk])
     have hxl : xs.length = m * 5 := hrow.1
     obtain ⟨o0, p0⟩ : ∃ u, wr.cell? ⟨gr, j * 5, none⟩ = some u := ⟨xs[j * 5]'(by omega), by rw [hrow.cellAt (j * 5) (by omega)]; simp [show j * 5 < xs.length from by omega]⟩
     have q0 := hrow.frozenAt (j * 5)
     obtain ⟨o1, p1⟩ : ∃ u, wr.cell? ⟨gr, j * 5 + 1, none⟩ = some u := ⟨xs[j * 5 + 1]'(by omega), by rw [hrow.cellAt (j * 5 + 1) (by omega)]; simp [show j * 5 + 1 < xs.length from by omega]⟩
     have q1 := hrow.frozenAt (j * 5 + 1)
     obtain ⟨o2, p2⟩ : ∃ u, wr.cell? ⟨gr, j * 5 + 2, none⟩ = some u := ⟨xs[j * 5 + 2]'(by omega), by rw [hrow.cellAt (j * 5 + 2) (by omega)]; simp [show j * 5 + 2 < xs.length from by omega]⟩
     have q2 := hrow.frozenAt (j * 5 + 2)
     obtain ⟨o3, p3⟩ : ∃ u, wr.cell? ⟨gr, j * 5 + 3, none⟩ = some u := ⟨xs[j * 5 + 3]'(by omega), by rw [hrow.cellAt (j * 5 + 3) (by omega)]; simp [show j * 5 + 3 < xs.length from by omega]⟩
     have q3 := hrow.frozenAt (j * 5 + 3)
     obtain ⟨o4, p4⟩ : ∃ u, wr.cell? ⟨gr, j * 5 + 4, none⟩ = some u := ⟨xs[j * 5 + 4]'(by omega), by rw [hrow.cellAt (j * 5 + 4) (by omega)]; simp [show j * 5 + 4 < xs.length from by omega]⟩
     have q4 := hrow.frozenAt (j * 5 + 4)
     have hrow' := (((((hrow.stored (j * 5) (.int .i64 y0)).1.stored (j * 5 + 1) (.string y1)).1.stored (j * 5 + 2) (.int .i64 y2)).1.stored (j * 5 + 3) (.int .u64 y3)).1.stored (j * 5 + 4) (.slice ya yl yc)).1
     have ht : Touch [gr] wr (((((wr.setCell ⟨gr, j * 5, none⟩ (.int .i64 y0)).setCell ⟨gr, j * 5 + 1, none⟩ (.string y1)).setCell ⟨gr, j * 5 + 2, none⟩ (.int .i64 y2)).setCell ⟨gr, j * 5 + 3, none⟩ (.int .u64 y3)).setCell ⟨gr, j * 5 + 4, none⟩ (.slice ya yl yc)) := ((((((Touch.refl [gr] wr).setCell (x := ⟨gr, j * 5, none⟩) (.inl (by simp)) (.int .i64 y0)).setCell (x := ⟨gr, j * 5 + 1, none⟩) (.inl (by simp)) (.string y1)).setCell (x := ⟨gr, j * 5 + 2, none⟩) (.inl (by simp)) (.int .i64 y2)).setCell (x := ⟨gr, j * 5 + 3, none⟩) (.inl (by simp)) (.int .u64 y3)).setCell (x := ⟨gr, j * 5 + 4, none⟩) (.inl (by simp)) (.slice ya yl yc))
     have hnum' := AQ hnum ht (fun k hk => by have := HNB.out k hk; simp; omega)
     have hmap' := Ar hmap ht (by simp; omega)
     have hbl' : Below w.heap.size w (((((wr.setCell ⟨gr, j * 5, none⟩ (.int .i64 y0)).setCell ⟨gr, j * 5 + 1, none⟩ (.string y1)).setCell ⟨gr, j * 5 + 2, none⟩ (.int .i64 y2)).setCell ⟨gr, j * 5 + 3, none⟩ (.int .u64 y3)).setCell ⟨gr, j * 5 + 4, none⟩ (.slice ya yl yc)) := hbl.trans (ht.below hbl.size (by simpa using hgw))
     have HX' : Hid ((((((xs.set (j * 5) (.int .i64 y0)).set (j * 5 + 1) (.string y1)).set (j * 5 + 2) (.int .i64 y2)).set (j * 5 + 3) (.int .u64 y3)).set (j * 5 + 4) (.slice ya yl yc)).take ((j + 1) * 5) = CD D (ks.take (j + 1))) := Aa (by
      rw [show (j + 1) * 5 = j * 5 + 5 from by omega, Pb xs (j * 5) _ _ _ _ _ (by omega), HX.out, IB D ks j hjk, hkv]
      rfl)
     have g1 : (0 : Int) ≤ (j : Int) := by omega
     have g2 : (j : Int) < (m : Int) := by omega
     have H1 := Aa hrow'
     have H2 := Aa hnum'
     have H3 := Aa hmap'
     have H4 := Aa hbl'
     obtain ⟨kk, hkk⟩ : ∃ x, x = ks[j] := ⟨_, rfl⟩
     rw [← hkk] at hlk hcell
     clear hrow hnum hmap hbl hrow' ht hnum' hmap' hbl' HX hkv hkk hkN hrd hxl hjk
     go_wp2_with fail
     exact ⟨⟨j + 1, _, by omega, by go_num, H1.out, HX', H2.out, H3.out, H4.out⟩, by simp [intOf]; omega⟩
    ·obtain rfl : m = j := by omega
     have hx := HX.out
     rw [List.take_of_length_le (by rw [hrow.1]; exact Nat.le_refl _), HKL.out, List.take_length] at hx
     have HFIN : Hid (wr.ownsRow w.heap.size 143 5 (.slice (some ⟨gr, 0, none⟩) m m) m (CD D ks)) := Aa (by rw [← hx]; exact hrow)
     have HBL := Aa hbl
     clear hx hrow hnum hmap hbl HX
     go_wp2_with fail
     go_ret
     exact ⟨_, rfl, by rw [← HKS.out, ← HKL.out]; exact HFIN.out, HBL.out⟩
  ·intro x v w3 cnt3 hwf hlx hat hrg3 hlt hg3 hs3 hen
   have hhas : Maps.has D (.int .i64 x) = true := Maps.has_true_of_atKey hat
   obtain ⟨i, hiN, hxi⟩ := HKM.out.keys _ hhas
   have hx : x = (i : Int) := by
    unfold Bo at hxi
    simp only [Lit.int.injEq, true_and] at hxi
    exact hxi
   subst hx
   have hcl3 := HCL.out.step (i := i) hlx hhas
   have ho3 := HO.out.kept hg3 (.inr HNE.out)
   have hb3 : Below w.heap.size w w3 := HB.out.grown hg3 (by have := HB.out.size; omega) (fun j hj => by cases hj; omega)
   have hs3' : w.heap.size ≤ w3.heap.size := hb3.size
   have C3 := Aa hcl3
   have O3 := Aa ho3
   have B3 := Aa hb3
   have R3 := Aa hrg3
   clear hcl3 ho3 hb3 hrg3 hat hwf hlx hg3 hs3 hxi HRG HO HCL HB hhas
   go_wp2_with (at_builtin; refine wpList_append_own_at _ rfl (.tmp 17) (.tmp 19) 31 rfl w.heap.size 3 i0 (.int .i64 0) 1 8 Tryz.underlying31 hi hz0 hz1 hz2 rfl (by decide) _ _ _ rfl (O3.out.alloc _) ⟨w3.heap.size, 0, none⟩ 1 1 [.int .i64 (i : Int)] rfl rfl (cell_one_new _ _ _) ?c2 ?c3 ?c4 ?c5 ?_)
   case c2 =>
    intro u hu
    simp at hu
    subst hu
    rfl
   case c3 => unfold maxLen; omega
   case c4 => omega
   case c5 => simp; omega
   intro v6 w6 hown6 hg6 _ hloc
   have hvb : ∀ j, u3.ownBlock = some j → w.heap.size ≤ j := fun j hj => (O3.out.lt j hj).1
   have hr3 := R3.out.lt
   have hrg6 := (R3.out.alloc (Obj.cells #[.int .i64 (i : Int)] 3)).kept hg6 (fun e => by have := hvb F e.symm; omega) (fun e => HNE.out e.symm)
   have hne6 : v6.ownBlock ≠ some r := fun e => by
    rcases hloc with h | h
    ·exact HNE.out (h ▸ e)
    ·rw [e] at h
     simp at h
     omega
   have hb6 := Az (B3.out) (by omega) O3.out hg6
   have hlq6 := hrg6.left_eq
   have R6 := Aa hrg6
   have O6 := Aa hown6
   have B6 := Aa hb6
   clear hrg6 hown6 hb6 hg6 hloc hvb R3 O3 B3
   go_wp2_with fail
   refine ⟨⟨_, cnt3, ss ++ [i], R6.out, ?_, hne6, C3.out, by simp; omega, B6.out⟩, by rw [hlq6, hlq]; exact hlt⟩
   have e : Dz (ss ++ [i]) = Dz ss ++ [.int .i64 (i : Int)] := by simp [Dz]
   rw [List.length_append, e]
   exact O6.out
end Go.Proofs.YtonjphollmdicaaGreatDoor
namespace Go.Proofs.YtonjphollmdicaaGreatDoor
open Go.ChangeShapes Go.WideShapes Go.ChangeAt Go.RowKit
open Go.Maps
theorem Tryz.infoEI : (Tryz.prog.info? 192).map (fun i => (i.zero, i.size, i.bytes)) = some (some (.agg #[.int .i64 0, .string ByteArray.empty]), 2, 24) := by kernel_rfl
theorem OX (xs : List Value) (k : Nat) (y0 y1 : Value) (h : k + 2 ≤ xs.length) : ((xs.set k y0).set (k + 1) y1).take (k + 2) = xs.take k ++ [y0, y1] := by
 apply List.ext_getElem?
 intro i
 by_cases hi : i < k + 2
 ·rw [List.getElem?_take_of_lt hi]
  by_cases h1 : i < k
  ·rw [List.getElem?_append_left (by rw [List.length_take]; omega), List.getElem?_take_of_lt h1]
   simp only [List.getElem?_set]
   repeat rw [if_neg (by omega)]
  ·rw [List.getElem?_append_right (by rw [List.length_take]; omega), List.length_take, Nat.min_eq_left (by omega)]
   have h2 : i = k ∨ i = k + 1 := by omega
   rcases h2 with rfl | rfl
   ·simp [List.getElem?_set]; omega
   ·simp [List.getElem?_set]; omega
 ·rw [List.getElem?_take_eq_none (by omega), List.getElem?_eq_none (by simp; omega)]
theorem JY (F c N : Nat) (D : DataW Value) (g : FoundL → Option Nat) (l : List FoundL) (R : Value → FoundL → Prop) (hN : N ≤ 1000) (hRF : ∀ v f, R v f → Sr v) (w : World) (hm : w.ownsMap Tryz.prog 3 CK F c D) (hk : KMap D g l N R) :
  Calls Tryz.prog 113 #[.map (some F)] w fun e w' => ∃ v, e = .returned v ∧ w'.ownsRow w.heap.size 192 2 v (Ba g l N).length (CD D (Ba g l N)) ∧ Below w.heap.size w w' := by
 obtain ⟨i0, hi, hz0, hz1, hz2⟩ := info_parts Tryz.infoI64
 obtain ⟨j0, hj, hy0, hy1, hy2⟩ := info_parts Tryz.infoEI
 have hlen := hm.len (ty := 3) Tryz.underlying130
 have HM := Aa hm
 have HKM := Aa hk
 have hFl := hm.lt
 have hha : ∀ i, i < N → Maps.has D (Bo i) = (atM D (Bo i)).isSome := fun i hi => (GO hm Tryz.lawInt Tryz.underlying130 (Tryz.zeroEI w) (Di i (by omega))).1
 have HHA := Aa hha
 have hsz : Maps.size D ≤ 1000 := by
  rw [hk.size]
  unfold Ba
  exact Nat.le_trans (List.length_filter_le _ _) (by simpa using hN)
 clear hm hk hha
 obtain ⟨n, hn⟩ : ∃ n, n = Maps.size D := ⟨_, rfl⟩
 have HNS := Aa hn
 rw [← hn] at hlen hsz
 clear hn
 go_enter Tryz.func113, Tryz.ntmps113
 go_wp2_with (at_make; refine wpList_make_own _ rfl _ _ 31 rfl w.heap.size 3 i0 (.int .i64 0) 1 Tryz.underlying31 hi hz0 hz1 .i64 .i64 _ n rfl rfl rfl (by rw [hz2]; omega) (by unfold maxLen; omega) (Nat.le_refl _) ?_)
 intro w1 hown1 hg1
 have hb1 : Below w.heap.size w w1 := (Below.refl _ w).grown hg1 (Nat.le_refl _) (by simp)
 have hm1 := HM.out.kept hg1 (by simp)
 have HO1 := Aa hown1
 have HB1 := Aa hb1
 have HM1 := Aa hm1
 clear hown1 hg1 hb1 hm1 hlen
 go_wp2_with (at_range; refine wpList_range_own _ rfl _ 130 rfl 3 192 Tryz.lawInt Tryz.underlying130 _ F c D rfl HM1.out ?_)
 intro w2 hrg hg2 hs2
 have hb2 : Below w.heap.size w w2 := HB1.out.grown hg2 HB1.out.size (by simp)
 have ho2 := HO1.out.kept hg2 (.inr (by simp [Value.ownBlock]))
 obtain ⟨r, hr⟩ : ∃ r, r = w1.heap.size := ⟨_, rfl⟩
 have hrw : w.heap.size ≤ r := by have := HB1.out.size; omega
 have hor : w.heap.size ≠ r := by
  have := (HO1.out.lt w.heap.size rfl).2
  omega
 rw [← hr] at hrg ⊢
 clear hg2 hs2 hr
 rw [← HNS.out] at hrg
 have HRG := Aa hrg
 have HB2 := Aa hb2
 have HO2 := Aa ho2
 clear hrg hb2 ho2 HB1 HO1 HM1
 go_wp2_with fail
 go_loopw [3] (fun nv W => ∃ left cnt ss, W.ranges Tryz.prog 3 CK F r c D left cnt ∧ W.ownsRow w.heap.size 3 1 nv ss.length (Dz ss) ∧ nv.ownBlock ≠ some r ∧ Coll D left ss ∧ ss.length + cnt ≤ n ∧ Below w.heap.size w W)
  (fun _ W => W.rangeLeft F r)
 case atStart => exact ⟨_, _, [], HRG.out, HO2.out, by simpa [Value.ownBlock] using hor, Coll.start D, by simp, HB2.out⟩
 case round =>
  obtain ⟨left, cnt, ss, hrg, hown, hne, hcl, hct, hbl⟩ := hrel
  have hlq := hrg.left_eq
  have hszr := hbl.size
  have HRG := Aa hrg
  have HO := Aa hown
  have HNE := Aa hne
  have HCL := Aa hcl
  have HB := Aa hbl
  clear hrg hown hne hcl hbl HO2 HB2
  go_wp2_with (at_next; refine Gd _ rfl _ rfl 3 .i64 Tryz.lawInt Tryz.underlying3 F r c D left cnt rfl HRG.out ?_ ?_)
  ·intro hc0 hl0
   have hperm := HCL.out.perm hl0 HKM.out HHA.out
   have HP := Aa hperm
   clear hperm hlq
   obtain ⟨ks, hks⟩ : ∃ ks, ks = Ba g l N := ⟨_, rfl⟩
   rw [← hks] at HP
   have hpair : ks.Pairwise (· < ·) := by rw [hks]; exact Ii g l N
   have hkl : ss.length = ks.length := HP.out.length_eq
   have hkn : ∀ k ∈ ks, k < N ∧ ∃ v, atM D (Bo k) = some v ∧ Sr v := by
    intro k hk
    rw [hks] at hk
    unfold Ba at hk
    rw [List.mem_filter, List.mem_range] at hk
    refine ⟨hk.1, ?_⟩
    cases hf : AN g l k with
    | none => rw [hf] at hk; simp at hk
    | some f =>
     obtain ⟨v, h1, h2⟩ := HKM.out.there k f hf
     exact ⟨v, h1, hRF v f h2⟩
   have HKN := Aa hkn
   have hSW := Aa (KQ w.heap.size u3 ss ks wr (by omega) HP.out hpair HO.out)
   have hmr := HRG.out.owns
   have HMR := Aa hmr
   have hvb : ∀ j, u3.ownBlock = some j → w.heap.size ≤ j := fun j hj => (HO.out.lt j hj).1
   have HVB := Aa hvb
   obtain ⟨a3, c3, rfl, -⟩ := AE HO.out
   have HKL := Aa hkl
   have HKS := Aa hks
   have hsl : ss.length ≤ 1000 := by omega
   clear hkl hct
   clear hks hkn hmr hvb hpair HCL HRG HO HNE HKM HHA HNS HP hRF
   go_wp2_with fail
   refine hSW.out.mono ?_
   rintro e w4 ⟨rfl, ho4, ht4⟩
   have hb4 : Below w.heap.size w w4 := HB.out.trans (ht4.below hszr (fun x hx => HVB.out x (blkL_mem.1 hx)))
   have hm4 := Ar HMR.out ht4 (fun e => by have := HVB.out F (blkL_mem.1 e); omega)
   have B4 := Aa hb4
   have O4 := Aa ho4
   have M4 := Aa hm4
   clear ho4 ht4 hb4 hm4 HMR HB hSW HVB
   obtain ⟨m, hm⟩ : ∃ m, m = ss.length := ⟨_, rfl⟩
   rw [← hm] at O4 HKL hsl ⊢
   clear hm
   have hs4 : w.heap.size ≤ w4.heap.size := B4.out.size
   go_wp2_with (at_make; refine wpList_make_full _ rfl _ _ 90 rfl w.heap.size 192 j0 (.agg #[.int .i64 0, .string ByteArray.empty]) 2 Tryz.underlying90 hj hy0 hy1 .i64 .i64 _ _ m rfl rfl rfl rfl (by rw [hy2]; omega) (by unfold maxLen; omega) hs4 ?_)
   intro w5 hown5 hg5
   have hb5 : Below w.heap.size w w5 := B4.out.grown hg5 hs4 (by simp)
   have ho5 := O4.out.kept hg5 (by cases h : (Value.slice a3 m c3).ownBlock <;> simp)
   have hm5 := M4.out.kept hg5 (by simp)
   obtain ⟨gr, hgr⟩ : ∃ x, x = w4.heap.size := ⟨_, rfl⟩
   rw [← hgr] at hown5 ⊢
   have hnb : ∀ k, (Value.slice a3 m c3).ownBlock = some k → k < gr := fun k hk => by rw [hgr]; exact (O4.out.lt k hk).2
   have HNB := Aa hnb
   have hgw : w.heap.size ≤ gr := by omega
   have B5 := Aa hb5
   have O5 := Aa ho5
   have M5 := Aa hm5
   have R5 := Aa hown5
   clear hgr hg5 hb5 ho5 hm5 hown5 B4 O4 M4 hnb hs4
   go_wp2_with fail
   go_loopw [28] (fun ix W => ∃ (j : Nat) (xs : List Value), j ≤ m ∧ ix = .int .i64 (j : Int) ∧ W.ownsRow w.heap.size 192 2 (.slice (some ⟨gr, 0, none⟩) m m) m xs ∧ Hid (xs.take (j * 2) = CD D (ks.take j)) ∧ W.ownsRow w.heap.size 3 1 (.slice a3 m c3) m (Dz ks) ∧ W.ownsMap Tryz.prog 3 CK F c D ∧ Below w.heap.size w W)
    (fun ix _ => m - (intOf ix).toNat)
   case atStart => exact ⟨0, _, by omega, rfl, R5.out, Aa (by simp [CD]), O5.out, M5.out, B5.out⟩
   case round =>
    clear R5 O5 M5 B5
    obtain ⟨j, xs, hjm, rfl, hrow, HX, hnum, hmap, hbl⟩ := hrel
    by_cases hlt : j < m
    ·have hjk : j < ks.length := by rw [← HKL.out]; exact hlt
     obtain ⟨hkN, v, hkv, hfi⟩ := HKN.out ks[j] (List.getElem_mem hjk)
     obtain ⟨y0, y1, rfl⟩ := hfi
     have hlk := FJ hmap Tryz.lawInt Tryz.underlying130 (Tryz.zeroEI wr) (Di ks[j] (by omega))
     rw [hkv] at hlk
     simp only [Option.getD_some] at hlk
     obtain ⟨a4, c4, e4, hrd⟩ := AE hnum
     cases e4
     obtain ⟨bb, off, rfl, hcell⟩ := hrd j (.int .i64 (ks[j] : Int)) (by simp [Dz, hjk])
     have hxl : xs.length = m * 2 := hrow.1
     obtain ⟨o0, p0⟩ : ∃ u, wr.cell? ⟨gr, j * 2, none⟩ = some u := ⟨xs[j * 2]'(by omega), by rw [hrow.cellAt (j * 2) (by omega)]; simp [show j * 2 < xs.length from by omega]⟩
     have q0 := hrow.frozenAt (j * 2)
     obtain ⟨o1, p1⟩ : ∃ u, wr.cell? ⟨gr, j * 2 + 1, none⟩ = some u := ⟨xs[j * 2 + 1]'(by omega), by rw [hrow.cellAt (j * 2 + 1) (by omega)]; simp [show j * 2 + 1 < xs.length from by omega]⟩
     have q1 := hrow.frozenAt (j * 2 + 1)
     have hrow' := ((hrow.stored (j * 2) (.int .i64 y0)).1.stored (j * 2 + 1) (.string y1)).1
     have ht : Touch [gr] wr ((wr.setCell ⟨gr, j * 2, none⟩ (.int .i64 y0)).setCell ⟨gr, j * 2 + 1, none⟩ (.string y1)) := (((Touch.refl [gr] wr).setCell (x := ⟨gr, j * 2, none⟩) (.inl (by simp)) (.int .i64 y0)).setCell (x := ⟨gr, j * 2 + 1, none⟩) (.inl (by simp)) (.string y1))
     have hnum' := AQ hnum ht (fun k hk => by have := HNB.out k hk; simp; omega)
     have hmap' := Ar hmap ht (by simp; omega)
     have hbl' : Below w.heap.size w ((wr.setCell ⟨gr, j * 2, none⟩ (.int .i64 y0)).setCell ⟨gr, j * 2 + 1, none⟩ (.string y1)) := hbl.trans (ht.below hbl.size (by simpa using hgw))
     have HX' : Hid (((xs.set (j * 2) (.int .i64 y0)).set (j * 2 + 1) (.string y1)).take ((j + 1) * 2) = CD D (ks.take (j + 1))) := Aa (by
      rw [show (j + 1) * 2 = j * 2 + 2 from by omega, OX xs (j * 2) _ _ (by omega), HX.out, IB D ks j hjk, hkv]
      rfl)
     have g1 : (0 : Int) ≤ (j : Int) := by omega
     have g2 : (j : Int) < (m : Int) := by omega
     have H1 := Aa hrow'
     have H2 := Aa hnum'
     have H3 := Aa hmap'
     have H4 := Aa hbl'
     obtain ⟨kk, hkk⟩ : ∃ x, x = ks[j] := ⟨_, rfl⟩
     rw [← hkk] at hlk hcell
     clear hrow hnum hmap hbl hrow' ht hnum' hmap' hbl' HX hkv hkk hkN hrd hxl hjk
     go_wp2_with fail
     exact ⟨⟨j + 1, _, by omega, by go_num, H1.out, HX', H2.out, H3.out, H4.out⟩, by simp [intOf]; omega⟩
    ·obtain rfl : m = j := by omega
     have hx := HX.out
     rw [List.take_of_length_le (by rw [hrow.1]; exact Nat.le_refl _), HKL.out, List.take_length] at hx
     have HFIN : Hid (wr.ownsRow w.heap.size 192 2 (.slice (some ⟨gr, 0, none⟩) m m) m (CD D ks)) := Aa (by rw [← hx]; exact hrow)
     have HBL := Aa hbl
     clear hx hrow hnum hmap hbl HX
     go_wp2_with fail
     go_ret
     exact ⟨_, rfl, by rw [← HKS.out, ← HKL.out]; exact HFIN.out, HBL.out⟩
  ·intro x v w3 cnt3 hwf hlx hat hrg3 hlt hg3 hs3 hen
   have hhas : Maps.has D (.int .i64 x) = true := Maps.has_true_of_atKey hat
   obtain ⟨i, hiN, hxi⟩ := HKM.out.keys _ hhas
   have hx : x = (i : Int) := by
    unfold Bo at hxi
    simp only [Lit.int.injEq, true_and] at hxi
    exact hxi
   subst hx
   have hcl3 := HCL.out.step (i := i) hlx hhas
   have ho3 := HO.out.kept hg3 (.inr HNE.out)
   have hb3 : Below w.heap.size w w3 := HB.out.grown hg3 (by have := HB.out.size; omega) (fun j hj => by cases hj; omega)
   have hs3' : w.heap.size ≤ w3.heap.size := hb3.size
   have C3 := Aa hcl3
   have O3 := Aa ho3
   have B3 := Aa hb3
   have R3 := Aa hrg3
   clear hcl3 ho3 hb3 hrg3 hat hwf hlx hg3 hs3 hxi HRG HO HCL HB hhas
   go_wp2_with (at_builtin; refine wpList_append_own_at _ rfl (.tmp 17) (.tmp 19) 31 rfl w.heap.size 3 i0 (.int .i64 0) 1 8 Tryz.underlying31 hi hz0 hz1 hz2 rfl (by decide) _ _ _ rfl (O3.out.alloc _) ⟨w3.heap.size, 0, none⟩ 1 1 [.int .i64 (i : Int)] rfl rfl (cell_one_new _ _ _) ?c2 ?c3 ?c4 ?c5 ?_)
   case c2 =>
    intro u hu
    simp at hu
    subst hu
    rfl
   case c3 => unfold maxLen; omega
   case c4 => omega
   case c5 => simp; omega
   intro v6 w6 hown6 hg6 _ hloc
   have hvb : ∀ j, u3.ownBlock = some j → w.heap.size ≤ j := fun j hj => (O3.out.lt j hj).1
   have hr3 := R3.out.lt
   have hrg6 := (R3.out.alloc (Obj.cells #[.int .i64 (i : Int)] 3)).kept hg6 (fun e => by have := hvb F e.symm; omega) (fun e => HNE.out e.symm)
   have hne6 : v6.ownBlock ≠ some r := fun e => by
    rcases hloc with h | h
    ·exact HNE.out (h ▸ e)
    ·rw [e] at h
     simp at h
     omega
   have hb6 := Az (B3.out) (by omega) O3.out hg6
   have hlq6 := hrg6.left_eq
   have R6 := Aa hrg6
   have O6 := Aa hown6
   have B6 := Aa hb6
   clear hrg6 hown6 hb6 hg6 hloc hvb R3 O3 B3
   go_wp2_with fail
   refine ⟨⟨_, cnt3, ss ++ [i], R6.out, ?_, hne6, C3.out, by simp; omega, B6.out⟩, by rw [hlq6, hlq]; exact hlt⟩
   have e : Dz (ss ++ [i]) = Dz ss ++ [.int .i64 (i : Int)] := by simp [Dz]
   rw [List.length_append, e]
   exact O6.out
end Go.Proofs.YtonjphollmdicaaGreatDoor
namespace Go.Proofs.YtonjphollmdicaaGreatDoor
open Go.ChangeShapes Go.WideShapes Go.ChangeAt Go.RowKit
open Go.Maps
theorem PQ (B : Nat) (kn : Bool) (h sz : Nat) (fl : Value) (F E : Nat) (w : World) (hB : Blk w B (Bb kn h sz fl F E)) :
  Calls Tryz.prog 80 #[.pointer (some ⟨B, 0, none⟩)] w fun e w' => e = .returned (.int .i64 (sz : Int)) ∧ w' = w := by
 have b2 := (hB 2 _ rfl).1
 go_enter Tryz.func80, Tryz.ntmps80
 go_wp2_with fail
 go_ret
 exact ⟨rfl, rfl⟩
theorem MG (B : Nat) (kn : Bool) (h sz : Nat) (fl : Value) (F E c N : Nat) (D : DataW Value) (g : FoundL → Option Nat) (l : List FoundL) (R : Value → FoundL → Prop) (hN : N ≤ 1000) (hRF : ∀ v f, R v f → Sr v) (w : World) (hB : Blk w B (Bb kn h sz fl F E)) (hm : w.ownsMap Tryz.prog 3 CK E c D) (hk : KMap D g l N R) :
  Calls Tryz.prog 82 #[.pointer (some ⟨B, 0, none⟩)] w fun e w' => ∃ v, e = .returned v ∧ w'.ownsRow w.heap.size 192 2 v (Ba g l N).length (CD D (Ba g l N)) ∧ Below w.heap.size w w' := by
 have b5 := (hB 5 _ rfl).1
 have hI := Aa (JY E c N D g l R hN hRF w hm hk)
 clear hm hk
 go_enter Tryz.func82, Tryz.ntmps82
 go_wp2_with fail
 refine hI.out.mono ?_
 rintro e w1 ⟨v, rfl, h1, h2⟩
 have H1 := Aa h1
 have H2 := Aa h2
 clear h1 h2
 go_wp2_with fail
 go_ret
 exact ⟨_, rfl, H1.out, H2.out⟩
theorem NL (B : Nat) (kn : Bool) (h sz : Nat) (fa : Option Addr) (fn fc F E c N : Nat) (D : DataW Value) (g : FoundL → Option Nat) (l : List FoundL) (R : Value → FoundL → Prop) (hN : N ≤ 1000) (hRF : ∀ v f, R v f → R9 v) (w : World) (hB : Blk w B (Bb kn h sz (.slice fa fn fc) F E)) (hm : w.ownsMap Tryz.prog 3 CK F c D) (hk : KMap D g l N R) :
  Calls Tryz.prog 77 #[.pointer (some ⟨B, 0, none⟩)] w fun e w' => ∃ v, e = .returned (.tuple #[v, .bool (decide ((Ba g l N).length = fn))]) ∧ w'.ownsRow w.heap.size 143 5 v (Ba g l N).length (CD D (Ba g l N)) ∧ Below w.heap.size w w' := by
 have hBlt : B < w.heap.size := hB.lt (by simp [Bb])
 have hsz := hk.size
 have hI := Aa (fun W (hW : Touch [] w W) => Kg F c N D g l R hN hRF W (Ar hm hW (by simp)) hk)
 have HM := Aa hm
 have HB := Aa hB
 have HSZ := Aa hsz
 clear hm hk hB hsz
 go_enter Tryz.func77, Tryz.ntmps77
 go_wp2_with fail
 have hS : ∀ X : World, Touch [] w X → X.cell? ⟨B, 4, none⟩ = some (.map (some F)) ∧ X.cell? ⟨B, 3, none⟩ = some (.slice fa fn fc) ∧ X.ownsMap Tryz.prog 3 CK F c D := fun X hX =>
  ⟨(HB.out.touch hX (by simp) 4 _ rfl).1, (HB.out.touch hX (by simp) 3 _ rfl).1, Ar HM.out hX (by simp)⟩
 have HS := Aa hS
 clear hS
 refine wp_region_held_drew (S := fun X => X.cell? ⟨B, 4, none⟩ = some (.map (some F)) ∧ X.cell? ⟨B, 3, none⟩ = some (.slice fa fn fc) ∧ X.ownsMap Tryz.prog 3 CK F c D) (by kernel_rfl) (HS.out _ (Touch.refl _ _).drew) (fun hHeld => ?_)
 refine tY 0 4 ?_
 refine tY 1 5 ?_
 refine tY 2 6 ?_
 refine tY 3 7 ?_
 refine tY 5 9 ?_
 refine tY 6 10 ?_
 refine tY 7 11 ?_
 refine tY 8 12 ?_
 refine tY 10 14 ?_
 refine tY 11 15 ?_
 refine tY 12 16 ?_
 refine tY 13 17 ?_
 refine tY 14 18 ?_
 refine tY 15 19 ?_
 refine Ah (i := 4) (by kernel_rfl) (fun K o ho hK => ?_)
 simp only [gA, gB, gC, gE] at ho
 subst ho
 go_simp
 refine (hI.out _ (Touch.refl _ _).drew).mono ?_
 rintro e w1 ⟨v, rfl, ho, hb⟩
 have ht : Touch [] w w1 := (Touch.refl [] w).drew.trans (Touch.of_below hb [])
 refine hK.out _ _ ?_ (fun hHeld => ?_)
 focus exact HS.out _ ht
 clear hK K
 try simp only [Act.put, sA, sB, sC]
 refine Nt (i := 9) (d := some 13) (v := .int .i64 (Maps.size D : Int)) rfl (by kernel_rfl) (by kernel_rfl) (by kernel_rfl) (by rfl) (fun _ _ _ h => h) ?_ (by assumption) ?_
 focus
  intro X hSX
  have hl := fun ty => hSX.2.2.len Tryz.underlying129 ty
  simp only [List.getElem?_toArray, List.getElem?_cons_succ, List.getElem?_cons_zero, Option.map_some, Option.some.injEq]
  simp [execOp, resolve, invoke, builtin, hl, Result.andThen, Act.eval]
 try simp only [Act.put, List.setIfInBounds_toArray, List.set_cons_zero, List.set_cons_succ]
 have hbool : ((Maps.size D : Int) == (fn : Int)) = decide ((Ba g l N).length = fn) := by
  rw [← HSZ.out, Bool.eq_iff_iff]
  simp
  omega
 have HO := Aa ho
 have HBL := Aa hb
 have HBO := Aa hbool
 clear ho hb hbool ht
 refine tY 16 20 ?_
 refine tY 17 2 ?_
 refine tY 18 3 ?_
 refine wpAnyH_done (by kernel_rfl) ?_ _
 go_wp2_with fail
 go_ret2
 refine ⟨_, ?_, HO.out, ?_⟩
 ·rw [← HBO.out]
  rfl
 ·exact ⟨HBL.out.os, HBL.out.tape, HBL.out.output, HBL.out.size, HBL.out.block⟩
end Go.Proofs.YtonjphollmdicaaGreatDoor
