import Derived.Test.YtonjphollmdicaaGreatDoorB04
import Derived.Test.YtonjphollmdicaaGreatDoorB26
namespace Go.Proofs.YtonjphollmdicaaGreatDoor
open Go.ChangeShapes Go.WideShapes Go.ChangeAt Go.RowKit
open Go.Maps

theorem Tryz.infoEI : (Tryz.prog.info? 192).map (fun i => (i.zero, i.size, i.bytes)) = some (some (.agg #[.int .i64 0, .string ByteArray.empty]), 2, 24) := by kernel_rfl
theorem take_set2 (xs : List Value) (k : Nat) (y0 y1 : Value) (h : k + 2 ≤ xs.length) : ((xs.set k y0).set (k + 1) y1).take (k + 2) = xs.take k ++ [y0, y1] := by
  apply List.ext_getElem?
  intro i
  by_cases hi : i < k + 2
  · rw [List.getElem?_take_of_lt hi]
    by_cases h1 : i < k
    · rw [List.getElem?_append_left (by rw [List.length_take]; omega), List.getElem?_take_of_lt h1]
      simp only [List.getElem?_set]
      repeat rw [if_neg (by omega)]
    · rw [List.getElem?_append_right (by rw [List.length_take]; omega), List.length_take, Nat.min_eq_left (by omega)]
      have h2 : i = k ∨ i = k + 1 := by omega
      rcases h2 with rfl | rfl
      · simp [List.getElem?_set]; omega
      · simp [List.getElem?_set]; omega
  · rw [List.getElem?_take_eq_none (by omega), List.getElem?_eq_none (by simp; omega)]

set_option linter.unusedSimpArgs false in
set_option maxRecDepth 100000 in
set_option maxHeartbeats 4000000 in
theorem inOrderE_walk (F c N : Nat) (D : DataW Value) (g : FoundL → Option Nat) (l : List FoundL) (R : Value → FoundL → Prop) (hN : N ≤ 1000) (hRF : ∀ v f, R v f → IsEI v) (w : World) (hm : w.ownsMap Tryz.prog 3 rawE F c D) (hk : KMap D g l N R) :
    Calls Tryz.prog 113 #[.map (some F)] w fun e w' => ∃ v, e = .returned v ∧ w'.ownsRow w.heap.size 192 2 v (keysOf g l N).length (valsAt D (keysOf g l N)) ∧ Below w.heap.size w w' := by
  obtain ⟨i0, hi, hz0, hz1, hz2⟩ := info_parts Tryz.infoI64
  obtain ⟨j0, hj, hy0, hy1, hy2⟩ := info_parts Tryz.infoEI
  have hlen := hm.len (ty := 3) Tryz.underlying130
  have HM := hid_of hm
  have HKM := hid_of hk
  have hFl := hm.lt
  have hha : ∀ i, i < N → Maps.has D (numK i) = (atM D (numK i)).isSome := fun i hi => (atM_has hm Tryz.lawInt Tryz.underlying130 (Tryz.zeroEI w) (numK_key i (by omega))).1
  have HHA := hid_of hha
  have hsz : Maps.size D ≤ 1000 := by
    rw [hk.size]
    unfold keysOf
    exact Nat.le_trans (List.length_filter_le _ _) (by simpa using hN)
  clear hm hk hha
  obtain ⟨n, hn⟩ : ∃ n, n = Maps.size D := ⟨_, rfl⟩
  have HNS := hid_of hn
  rw [← hn] at hlen hsz
  clear hn
  go_enter Tryz.func113, Tryz.ntmps113
  go_wp2_with (at_make; refine wpList_make_own _ rfl _ _ 31 rfl w.heap.size 3 i0 (.int .i64 0) 1 Tryz.underlying31 hi hz0 hz1 .i64 .i64 _ n rfl rfl rfl (by rw [hz2]; omega) (by unfold maxLen; omega) (Nat.le_refl _) ?_)
  intro w1 hown1 hg1
  have hb1 : Below w.heap.size w w1 := (Below.refl _ w).grown hg1 (Nat.le_refl _) (by simp)
  have hm1 := HM.out.kept hg1 (by simp)
  have HO1 := hid_of hown1
  have HB1 := hid_of hb1
  have HM1 := hid_of hm1
  clear hown1 hg1 hb1 hm1 hlen
  go_wp2_with (at_range; refine wpList_range_own _ rfl _ 130 rfl 3 192 Tryz.lawInt Tryz.underlying130 _ F c D rfl HM1.out ?_)
  intro w2 hrg hg2 hs2
  have hb2 : Below w.heap.size w w2 := HB1.out.grown hg2 HB1.out.size (by simp)
  have ho2 := HO1.out.kept hg2 (.inr (by simp [Value.ownBlock]))
  obtain ⟨r, hr⟩ : ∃ r, r = w1.heap.size := ⟨_, rfl⟩
  have hrw : w.heap.size ≤ r := by have := HB1.out.size; omega
  have hor : w.heap.size ≠ r := by
    have := (HO1.out.lt w.heap.size rfl).2
    omega
  rw [← hr] at hrg ⊢
  clear hg2 hs2 hr
  rw [← HNS.out] at hrg
  have HRG := hid_of hrg
  have HB2 := hid_of hb2
  have HO2 := hid_of ho2
  clear hrg hb2 ho2 HB1 HO1 HM1
  go_wp2_with fail
  go_loopw [3] (fun nv W => ∃ left cnt ss, W.ranges Tryz.prog 3 rawE F r c D left cnt ∧ W.ownsRow w.heap.size 3 1 nv ss.length (natsV ss) ∧ nv.ownBlock ≠ some r ∧ Coll D left ss ∧ ss.length + cnt ≤ n ∧ Below w.heap.size w W)
    (fun _ W => W.rangeLeft F r)
  case atStart => exact ⟨_, _, [], HRG.out, HO2.out, by simpa [Value.ownBlock] using hor, Coll.start D, by simp, HB2.out⟩
  case round =>
    obtain ⟨left, cnt, ss, hrg, hown, hne, hcl, hct, hbl⟩ := hrel
    have hlq := hrg.left_eq
    have hszr := hbl.size
    have HRG := hid_of hrg
    have HO := hid_of hown
    have HNE := hid_of hne
    have HCL := hid_of hcl
    have HB := hid_of hbl
    clear hrg hown hne hcl hbl HO2 HB2
    go_wp2_with (at_next; refine wpList_step _ rfl _ rfl 3 .i64 Tryz.lawInt Tryz.underlying3 F r c D left cnt rfl HRG.out ?_ ?_)
    · intro hc0 hl0
      have hperm := HCL.out.perm hl0 HKM.out HHA.out
      have HP := hid_of hperm
      clear hperm hlq
      obtain ⟨ks, hks⟩ : ∃ ks, ks = keysOf g l N := ⟨_, rfl⟩
      rw [← hks] at HP
      have hpair : ks.Pairwise (· < ·) := by rw [hks]; exact keys_pair g l N
      have hkl : ss.length = ks.length := HP.out.length_eq
      have hkn : ∀ k ∈ ks, k < N ∧ ∃ v, atM D (numK k) = some v ∧ IsEI v := by
        intro k hk
        rw [hks] at hk
        unfold keysOf at hk
        rw [List.mem_filter, List.mem_range] at hk
        refine ⟨hk.1, ?_⟩
        cases hf : firstOf g l k with
        | none => rw [hf] at hk; simp at hk
        | some f =>
          obtain ⟨v, h1, h2⟩ := HKM.out.there k f hf
          exact ⟨v, h1, hRF v f h2⟩
      have HKN := hid_of hkn
      have hSW := hid_of (sort_walk w.heap.size u3 ss ks wr (by omega) HP.out hpair HO.out)
      have hmr := HRG.out.owns
      have HMR := hid_of hmr
      have hvb : ∀ j, u3.ownBlock = some j → w.heap.size ≤ j := fun j hj => (HO.out.lt j hj).1
      have HVB := hid_of hvb
      obtain ⟨a3, c3, rfl, -⟩ := row_rd HO.out
      have HKL := hid_of hkl
      have HKS := hid_of hks
      have hsl : ss.length ≤ 1000 := by omega
      clear hkl hct
      clear hks hkn hmr hvb hpair HCL HRG HO HNE HKM HHA HNS HP hRF
      go_wp2_with fail
      refine hSW.out.mono ?_
      rintro e w4 ⟨rfl, ho4, ht4⟩
      have hb4 : Below w.heap.size w w4 := HB.out.trans (ht4.below hszr (fun x hx => HVB.out x (blkL_mem.1 hx)))
      have hm4 := ownsMap_touch HMR.out ht4 (fun e => by have := HVB.out F (blkL_mem.1 e); omega)
      have B4 := hid_of hb4
      have O4 := hid_of ho4
      have M4 := hid_of hm4
      clear ho4 ht4 hb4 hm4 HMR HB hSW HVB
      obtain ⟨m, hm⟩ : ∃ m, m = ss.length := ⟨_, rfl⟩
      rw [← hm] at O4 HKL hsl ⊢
      clear hm
      have hs4 : w.heap.size ≤ w4.heap.size := B4.out.size
      go_wp2_with (at_make; refine wpList_make_full _ rfl _ _ 90 rfl w.heap.size 192 j0 (.agg #[.int .i64 0, .string ByteArray.empty]) 2 Tryz.underlying90 hj hy0 hy1 .i64 .i64 _ _ m rfl rfl rfl rfl (by rw [hy2]; omega) (by unfold maxLen; omega) hs4 ?_)
      intro w5 hown5 hg5
      have hb5 : Below w.heap.size w w5 := B4.out.grown hg5 hs4 (by simp)
      have ho5 := O4.out.kept hg5 (by cases h : (Value.slice a3 m c3).ownBlock <;> simp)
      have hm5 := M4.out.kept hg5 (by simp)
      obtain ⟨gr, hgr⟩ : ∃ x, x = w4.heap.size := ⟨_, rfl⟩
      rw [← hgr] at hown5 ⊢
      have hnb : ∀ k, (Value.slice a3 m c3).ownBlock = some k → k < gr := fun k hk => by rw [hgr]; exact (O4.out.lt k hk).2
      have HNB := hid_of hnb
      have hgw : w.heap.size ≤ gr := by omega
      have B5 := hid_of hb5
      have O5 := hid_of ho5
      have M5 := hid_of hm5
      have R5 := hid_of hown5
      clear hgr hg5 hb5 ho5 hm5 hown5 B4 O4 M4 hnb hs4
      go_wp2_with fail
      go_loopw [28] (fun ix W => ∃ (j : Nat) (xs : List Value), j ≤ m ∧ ix = .int .i64 (j : Int) ∧ W.ownsRow w.heap.size 192 2 (.slice (some ⟨gr, 0, none⟩) m m) m xs ∧ Hid (xs.take (j * 2) = valsAt D (ks.take j)) ∧ W.ownsRow w.heap.size 3 1 (.slice a3 m c3) m (natsV ks) ∧ W.ownsMap Tryz.prog 3 rawE F c D ∧ Below w.heap.size w W)
        (fun ix _ => m - (intOf ix).toNat)
      case atStart => exact ⟨0, _, by omega, rfl, R5.out, hid_of (by simp [valsAt]), O5.out, M5.out, B5.out⟩
      case round =>
        clear R5 O5 M5 B5
        obtain ⟨j, xs, hjm, rfl, hrow, HX, hnum, hmap, hbl⟩ := hrel
        by_cases hlt : j < m
        · have hjk : j < ks.length := by rw [← HKL.out]; exact hlt
          obtain ⟨hkN, v, hkv, hfi⟩ := HKN.out ks[j] (List.getElem_mem hjk)
          obtain ⟨y0, y1, rfl⟩ := hfi
          have hlk := own_look hmap Tryz.lawInt Tryz.underlying130 (Tryz.zeroEI wr) (numK_key ks[j] (by omega))
          rw [hkv] at hlk
          simp only [Option.getD_some] at hlk
          obtain ⟨a4, c4, e4, hrd⟩ := row_rd hnum
          cases e4
          obtain ⟨bb, off, rfl, hcell⟩ := hrd j (.int .i64 (ks[j] : Int)) (by simp [natsV, hjk])
          have hxl : xs.length = m * 2 := hrow.1
          obtain ⟨o0, p0⟩ : ∃ u, wr.cell? ⟨gr, j * 2, none⟩ = some u := ⟨xs[j * 2]'(by omega), by rw [hrow.cellAt (j * 2) (by omega)]; simp [show j * 2 < xs.length from by omega]⟩
          have q0 := hrow.frozenAt (j * 2)
          obtain ⟨o1, p1⟩ : ∃ u, wr.cell? ⟨gr, j * 2 + 1, none⟩ = some u := ⟨xs[j * 2 + 1]'(by omega), by rw [hrow.cellAt (j * 2 + 1) (by omega)]; simp [show j * 2 + 1 < xs.length from by omega]⟩
          have q1 := hrow.frozenAt (j * 2 + 1)
          have hrow' := ((hrow.stored (j * 2) (.int .i64 y0)).1.stored (j * 2 + 1) (.string y1)).1
          have ht : Touch [gr] wr ((wr.setCell ⟨gr, j * 2, none⟩ (.int .i64 y0)).setCell ⟨gr, j * 2 + 1, none⟩ (.string y1)) := (((Touch.refl [gr] wr).setCell (x := ⟨gr, j * 2, none⟩) (.inl (by simp)) (.int .i64 y0)).setCell (x := ⟨gr, j * 2 + 1, none⟩) (.inl (by simp)) (.string y1))
          have hnum' := owns_touch' hnum ht (fun k hk => by have := HNB.out k hk; simp; omega)
          have hmap' := ownsMap_touch hmap ht (by simp; omega)
          have hbl' : Below w.heap.size w ((wr.setCell ⟨gr, j * 2, none⟩ (.int .i64 y0)).setCell ⟨gr, j * 2 + 1, none⟩ (.string y1)) := hbl.trans (ht.below hbl.size (by simpa using hgw))
          have HX' : Hid (((xs.set (j * 2) (.int .i64 y0)).set (j * 2 + 1) (.string y1)).take ((j + 1) * 2) = valsAt D (ks.take (j + 1))) := hid_of (by
            rw [show (j + 1) * 2 = j * 2 + 2 from by omega, take_set2 xs (j * 2) _ _ (by omega), HX.out, valsAt_snoc D ks j hjk, hkv]
            rfl)
          have g1 : (0 : Int) ≤ (j : Int) := by omega
          have g2 : (j : Int) < (m : Int) := by omega
          have H1 := hid_of hrow'
          have H2 := hid_of hnum'
          have H3 := hid_of hmap'
          have H4 := hid_of hbl'
          obtain ⟨kk, hkk⟩ : ∃ x, x = ks[j] := ⟨_, rfl⟩
          rw [← hkk] at hlk hcell
          clear hrow hnum hmap hbl hrow' ht hnum' hmap' hbl' HX hkv hkk hkN hrd hxl hjk
          go_wp2_with fail
          exact ⟨⟨j + 1, _, by omega, by go_num, H1.out, HX', H2.out, H3.out, H4.out⟩, by simp [intOf]; omega⟩
        · obtain rfl : m = j := by omega
          have hx := HX.out
          rw [List.take_of_length_le (by rw [hrow.1]; exact Nat.le_refl _), HKL.out, List.take_length] at hx
          have HFIN : Hid (wr.ownsRow w.heap.size 192 2 (.slice (some ⟨gr, 0, none⟩) m m) m (valsAt D ks)) := hid_of (by rw [← hx]; exact hrow)
          have HBL := hid_of hbl
          clear hx hrow hnum hmap hbl HX
          go_wp2_with fail
          go_ret
          exact ⟨_, rfl, by rw [← HKS.out, ← HKL.out]; exact HFIN.out, HBL.out⟩
    · intro x v w3 cnt3 hwf hlx hat hrg3 hlt hg3 hs3 hen
      have hhas : Maps.has D (.int .i64 x) = true := Maps.has_true_of_atKey hat
      obtain ⟨i, hiN, hxi⟩ := HKM.out.keys _ hhas
      have hx : x = (i : Int) := by
        unfold numK at hxi
        simp only [Lit.int.injEq, true_and] at hxi
        exact hxi
      subst hx
      have hcl3 := HCL.out.step (i := i) hlx hhas
      have ho3 := HO.out.kept hg3 (.inr HNE.out)
      have hb3 : Below w.heap.size w w3 := HB.out.grown hg3 (by have := HB.out.size; omega) (fun j hj => by cases hj; omega)
      have hs3' : w.heap.size ≤ w3.heap.size := hb3.size
      have C3 := hid_of hcl3
      have O3 := hid_of ho3
      have B3 := hid_of hb3
      have R3 := hid_of hrg3
      clear hcl3 ho3 hb3 hrg3 hat hwf hlx hg3 hs3 hxi HRG HO HCL HB hhas
      go_wp2_with (at_builtin; refine wpList_append_own_at _ rfl (.tmp 17) (.tmp 19) 31 rfl w.heap.size 3 i0 (.int .i64 0) 1 8 Tryz.underlying31 hi hz0 hz1 hz2 rfl (by decide) _ _ _ rfl (O3.out.alloc _) ⟨w3.heap.size, 0, none⟩ 1 1 [.int .i64 (i : Int)] rfl rfl (cell_one_new _ _ _) ?c2 ?c3 ?c4 ?c5 ?_)
      case c2 =>
        intro u hu
        simp at hu
        subst hu
        rfl
      case c3 => unfold maxLen; omega
      case c4 => omega
      case c5 => simp; omega
      intro v6 w6 hown6 hg6 _ hloc
      have hvb : ∀ j, u3.ownBlock = some j → w.heap.size ≤ j := fun j hj => (O3.out.lt j hj).1
      have hr3 := R3.out.lt
      have hrg6 := (R3.out.alloc (Obj.cells #[.int .i64 (i : Int)] 3)).kept hg6 (fun e => by have := hvb F e.symm; omega) (fun e => HNE.out e.symm)
      have hne6 : v6.ownBlock ≠ some r := fun e => by
        rcases hloc with h | h
        · exact HNE.out (h ▸ e)
        · rw [e] at h
          simp at h
          omega
      have hb6 := below_step (B3.out) (by omega) O3.out hg6
      have hlq6 := hrg6.left_eq
      have R6 := hid_of hrg6
      have O6 := hid_of hown6
      have B6 := hid_of hb6
      clear hrg6 hown6 hb6 hg6 hloc hvb R3 O3 B3
      go_wp2_with fail
      refine ⟨⟨_, cnt3, ss ++ [i], R6.out, ?_, hne6, C3.out, by simp; omega, B6.out⟩, by rw [hlq6, hlq]; exact hlt⟩
      have e : natsV (ss ++ [i]) = natsV ss ++ [.int .i64 (i : Int)] := by simp [natsV]
      rw [List.length_append, e]
      exact O6.out
end Go.Proofs.YtonjphollmdicaaGreatDoor
namespace Go.Proofs.YtonjphollmdicaaGreatDoor
open Go.ChangeShapes Go.WideShapes Go.ChangeAt Go.RowKit
open Go.Maps

set_option linter.unusedSimpArgs false in
set_option maxRecDepth 100000 in
theorem Size_walk (B : Nat) (kn : Bool) (h sz : Nat) (fl : Value) (F E : Nat) (w : World) (hB : Blk w B (setCellsV kn h sz fl F E)) :
    Calls Tryz.prog 80 #[.pointer (some ⟨B, 0, none⟩)] w fun e w' => e = .returned (.int .i64 (sz : Int)) ∧ w' = w := by
  have b2 := (hB 2 _ rfl).1
  go_enter Tryz.func80, Tryz.ntmps80
  go_wp2_with fail
  go_ret
  exact ⟨rfl, rfl⟩

set_option linter.unusedSimpArgs false in
set_option maxRecDepth 100000 in
set_option maxHeartbeats 2000000 in
theorem Extras_walk (B : Nat) (kn : Bool) (h sz : Nat) (fl : Value) (F E c N : Nat) (D : DataW Value) (g : FoundL → Option Nat) (l : List FoundL) (R : Value → FoundL → Prop) (hN : N ≤ 1000) (hRF : ∀ v f, R v f → IsEI v) (w : World) (hB : Blk w B (setCellsV kn h sz fl F E)) (hm : w.ownsMap Tryz.prog 3 rawE E c D) (hk : KMap D g l N R) :
    Calls Tryz.prog 82 #[.pointer (some ⟨B, 0, none⟩)] w fun e w' => ∃ v, e = .returned v ∧ w'.ownsRow w.heap.size 192 2 v (keysOf g l N).length (valsAt D (keysOf g l N)) ∧ Below w.heap.size w w' := by
  have b5 := (hB 5 _ rfl).1
  have hI := hid_of (inOrderE_walk E c N D g l R hN hRF w hm hk)
  clear hm hk
  go_enter Tryz.func82, Tryz.ntmps82
  go_wp2_with fail
  refine hI.out.mono ?_
  rintro e w1 ⟨v, rfl, h1, h2⟩
  have H1 := hid_of h1
  have H2 := hid_of h2
  clear h1 h2
  go_wp2_with fail
  go_ret
  exact ⟨_, rfl, H1.out, H2.out⟩

set_option linter.unusedSimpArgs false in
set_option maxRecDepth 100000 in
set_option maxHeartbeats 2000000 in
theorem Files_walk (B : Nat) (kn : Bool) (h sz : Nat) (fa : Option Addr) (fn fc F E c N : Nat) (D : DataW Value) (g : FoundL → Option Nat) (l : List FoundL) (R : Value → FoundL → Prop) (hN : N ≤ 1000) (hRF : ∀ v f, R v f → IsFI v) (w : World) (hB : Blk w B (setCellsV kn h sz (.slice fa fn fc) F E)) (hm : w.ownsMap Tryz.prog 3 rawE F c D) (hk : KMap D g l N R) :
    Calls Tryz.prog 77 #[.pointer (some ⟨B, 0, none⟩)] w fun e w' => ∃ v, e = .returned (.tuple #[v, .bool (decide ((keysOf g l N).length = fn))]) ∧ w'.ownsRow w.heap.size 143 5 v (keysOf g l N).length (valsAt D (keysOf g l N)) ∧ Below w.heap.size w w' := by
  have hBlt : B < w.heap.size := hB.lt (by simp [setCellsV])
  have hsz := hk.size
  have hI := hid_of (fun W (hW : Touch [] w W) => inOrderF_walk F c N D g l R hN hRF W (ownsMap_touch hm hW (by simp)) hk)
  have HM := hid_of hm
  have HB := hid_of hB
  have HSZ := hid_of hsz
  clear hm hk hB hsz
  go_enter Tryz.func77, Tryz.ntmps77
  go_wp2_with fail
  have hS : ∀ X : World, Touch [] w X → X.cell? ⟨B, 4, none⟩ = some (.map (some F)) ∧ X.cell? ⟨B, 3, none⟩ = some (.slice fa fn fc) ∧ X.ownsMap Tryz.prog 3 rawE F c D := fun X hX =>
    ⟨(HB.out.touch hX (by simp) 4 _ rfl).1, (HB.out.touch hX (by simp) 3 _ rfl).1, ownsMap_touch HM.out hX (by simp)⟩
  have HS := hid_of hS
  clear hS
  refine wp_region_held_drew (S := fun X => X.cell? ⟨B, 4, none⟩ = some (.map (some F)) ∧ X.cell? ⟨B, 3, none⟩ = some (.slice fa fn fc) ∧ X.ownsMap Tryz.prog 3 rawE F c D) (by kernel_rfl) (HS.out _ (Touch.refl _ _).drew) (fun hHeld => ?_)
  (refine tY 0 4 ?v1 ?a1 rfl (by kernel_rfl) (by rfl) (fun _ _ _ h => h) ?y1 (by assumption) rfl ?p1 ?_; (case y1 => (intro w hSw; (try dsimp only at hSw); simp only [gA, gB, gC, gD, gE]; go_simp; (try with_reducible rfl))); (case p1 => (simp only [Act.put, sA, sB, sC]; try rfl)))
  (refine tY 1 5 ?v2 ?a2 rfl (by kernel_rfl) (by rfl) (fun _ _ _ h => h) ?y2 (by assumption) rfl ?p2 ?_; (case y2 => (intro w hSw; (try dsimp only at hSw); simp only [gA, gB, gC, gD, gE]; go_simp; (try with_reducible rfl))); (case p2 => (simp only [Act.put, sA, sB, sC]; try rfl)))
  (refine tY 2 6 ?v3 ?a3 rfl (by kernel_rfl) (by rfl) (fun _ _ _ h => h) ?y3 (by assumption) rfl ?p3 ?_; (case y3 => (intro w hSw; (try dsimp only at hSw); simp only [gA, gB, gC, gD, gE]; go_simp; (try with_reducible rfl))); (case p3 => (simp only [Act.put, sA, sB, sC]; try rfl)))
  (refine tY 3 7 ?v4 ?a4 rfl (by kernel_rfl) (by rfl) (fun _ _ _ h => h) ?y4 (by assumption) rfl ?p4 ?_; (case y4 => (intro w hSw; (try dsimp only at hSw); simp only [gA, gB, gC, gD, gE]; go_simp; (try with_reducible rfl))); (case p4 => (simp only [Act.put, sA, sB, sC]; try rfl)))
  (refine tY 5 9 ?v5 ?a5 rfl (by kernel_rfl) (by rfl) (fun _ _ _ h => h) ?y5 (by assumption) rfl ?p5 ?_; (case y5 => (intro w hSw; (try dsimp only at hSw); simp only [gA, gB, gC, gD, gE]; go_simp; (try with_reducible rfl))); (case p5 => (simp only [Act.put, sA, sB, sC]; try rfl)))
  (refine tY 6 10 ?v6 ?a6 rfl (by kernel_rfl) (by rfl) (fun _ _ _ h => h) ?y6 (by assumption) rfl ?p6 ?_; (case y6 => (intro w hSw; (try dsimp only at hSw); simp only [gA, gB, gC, gD, gE]; go_simp; (try with_reducible rfl))); (case p6 => (simp only [Act.put, sA, sB, sC]; try rfl)))
  (refine tY 7 11 ?v7 ?a7 rfl (by kernel_rfl) (by rfl) (fun _ _ _ h => h) ?y7 (by assumption) rfl ?p7 ?_; (case y7 => (intro w hSw; (try dsimp only at hSw); simp only [gA, gB, gC, gD, gE]; go_simp; (try with_reducible rfl))); (case p7 => (simp only [Act.put, sA, sB, sC]; try rfl)))
  (refine tY 8 12 ?v8 ?a8 rfl (by kernel_rfl) (by rfl) (fun _ _ _ h => h) ?y8 (by assumption) rfl ?p8 ?_; (case y8 => (intro w hSw; (try dsimp only at hSw); simp only [gA, gB, gC, gD, gE]; go_simp; (try with_reducible rfl))); (case p8 => (simp only [Act.put, sA, sB, sC]; try rfl)))
  (refine tY 10 14 ?v9 ?a9 rfl (by kernel_rfl) (by rfl) (fun _ _ _ h => h) ?y9 (by assumption) rfl ?p9 ?_; (case y9 => (intro w hSw; (try dsimp only at hSw); simp only [gA, gB, gC, gD, gE]; go_simp; (try with_reducible rfl))); (case p9 => (simp only [Act.put, sA, sB, sC]; try rfl)))
  (refine tY 11 15 ?v10 ?a10 rfl (by kernel_rfl) (by rfl) (fun _ _ _ h => h) ?y10 (by assumption) rfl ?p10 ?_; (case y10 => (intro w hSw; (try dsimp only at hSw); simp only [gA, gB, gC, gD, gE]; go_simp; (try with_reducible rfl))); (case p10 => (simp only [Act.put, sA, sB, sC]; try rfl)))
  (refine tY 12 16 ?v11 ?a11 rfl (by kernel_rfl) (by rfl) (fun _ _ _ h => h) ?y11 (by assumption) rfl ?p11 ?_; (case y11 => (intro w hSw; (try dsimp only at hSw); simp only [gA, gB, gC, gD, gE]; go_simp; (try with_reducible rfl))); (case p11 => (simp only [Act.put, sA, sB, sC]; try rfl)))
  (refine tY 13 17 ?v12 ?a12 rfl (by kernel_rfl) (by rfl) (fun _ _ _ h => h) ?y12 (by assumption) rfl ?p12 ?_; (case y12 => (intro w hSw; (try dsimp only at hSw); simp only [gA, gB, gC, gD, gE]; go_simp; (try with_reducible rfl))); (case p12 => (simp only [Act.put, sA, sB, sC]; try rfl)))
  (refine tY 14 18 ?v13 ?a13 rfl (by kernel_rfl) (by rfl) (fun _ _ _ h => h) ?y13 (by assumption) rfl ?p13 ?_; (case y13 => (intro w hSw; (try dsimp only at hSw); simp only [gA, gB, gC, gD, gE]; go_simp; (try with_reducible rfl))); (case p13 => (simp only [Act.put, sA, sB, sC]; try rfl)))
  (refine tY 15 19 ?v14 ?a14 rfl (by kernel_rfl) (by rfl) (fun _ _ _ h => h) ?y14 (by assumption) rfl ?p14 ?_; (case y14 => (intro w hSw; (try dsimp only at hSw); simp only [gA, gB, gC, gD, gE]; go_simp; (try with_reducible rfl))); (case p14 => (simp only [Act.put, sA, sB, sC]; try rfl)))
  refine step_one (i := 4) (by kernel_rfl) (fun K o ho hK => ?_)
  simp only [List.getElem?_toArray, List.getElem?_cons_succ, List.getElem?_cons_zero, Option.some.injEq] at ho
  subst ho
  go_simp
  refine (hI.out _ (Touch.refl _ _).drew).mono ?_
  rintro e w1 ⟨v, rfl, ho, hb⟩
  have ht : Touch [] w w1 := (Touch.refl [] w).drew.trans (Touch.of_below hb [])
  refine hK.out _ _ ?_ (fun hHeld => ?_)
  focus exact HS.out _ ht
  clear hK K
  try simp only [Act.put, List.setIfInBounds_toArray, List.set_cons_zero, List.set_cons_succ]
  refine take_yes (i := 9) (d := some 13) (v := .int .i64 (Maps.size D : Int)) rfl (by kernel_rfl) (by kernel_rfl) (by kernel_rfl) (by rfl) (fun _ _ _ h => h) ?_ (by assumption) ?_
  focus
    intro X hSX
    have hl := fun ty => hSX.2.2.len Tryz.underlying129 ty
    simp only [List.getElem?_toArray, List.getElem?_cons_succ, List.getElem?_cons_zero, Option.map_some, Option.some.injEq]
    simp [execOp, resolve, invoke, builtin, hl, Result.andThen, Act.eval]
  try simp only [Act.put, List.setIfInBounds_toArray, List.set_cons_zero, List.set_cons_succ]
  have hbool : ((Maps.size D : Int) == (fn : Int)) = decide ((keysOf g l N).length = fn) := by
    rw [← HSZ.out, Bool.eq_iff_iff]
    simp
    omega
  have HO := hid_of ho
  have HBL := hid_of hb
  have HBO := hid_of hbool
  clear ho hb hbool ht
  (refine tY 16 20 ?v15 ?a15 rfl (by kernel_rfl) (by rfl) (fun _ _ _ h => h) ?y15 (by assumption) rfl ?p15 ?_; (case y15 => (intro w hSw; (try dsimp only at hSw); simp only [gA, gB, gC, gD, gE]; go_simp; (try with_reducible rfl))); (case p15 => (simp only [Act.put, sA, sB, sC]; try rfl)))
  (refine tY 17 2 ?v16 ?a16 rfl (by kernel_rfl) (by rfl) (fun _ _ _ h => h) ?y16 (by assumption) rfl ?p16 ?_; (case y16 => (intro w hSw; (try dsimp only at hSw); simp only [gA, gB, gC, gD, gE]; go_simp; (try with_reducible rfl))); (case p16 => (simp only [Act.put, sA, sB, sC]; try rfl)))
  (refine tY 18 3 ?v17 ?a17 rfl (by kernel_rfl) (by rfl) (fun _ _ _ h => h) ?y17 (by assumption) rfl ?p17 ?_; (case y17 => (intro w hSw; (try dsimp only at hSw); simp only [gA, gB, gC, gD, gE]; go_simp; (try with_reducible rfl))); (case p17 => (simp only [Act.put, sA, sB, sC]; try rfl)))
  refine wpAnyH_done (by kernel_rfl) ?_ _
  go_wp2_with fail
  go_ret2
  refine ⟨_, ?_, HO.out, ?_⟩
  · rw [← HBO.out]
    rfl
  · exact ⟨HBL.out.os, HBL.out.tape, HBL.out.output, HBL.out.size, HBL.out.block⟩
end Go.Proofs.YtonjphollmdicaaGreatDoor
namespace Go.Proofs.YtonjphollmdicaaGreatDoor
open Go.ChangeShapes Go.WideShapes Go.ChangeAt Go.RowKit
open Go.Maps

/-- a list of files that were described, as it lies -/
def FRow (w : World) (base : Nat) (a : Option Addr) (fl : List FoundL) : Prop := ∀ k (h : k < fl.length), ∃ bb off sa sc, a = some ⟨bb, off, none⟩ ∧
  w.cell? ⟨bb, off + k * 5, none⟩ = some (.int .i64 (fNumber fl[k].body : Int)) ∧ w.cell? ⟨bb, off + k * 5 + 1, none⟩ = some (.string (str (fName fl[k].body))) ∧ w.cell? ⟨bb, off + k * 5 + 2, none⟩ = some (.int .i64 (fLong fl[k].body : Int)) ∧
  w.cell? ⟨bb, off + k * 5 + 3, none⟩ = some (.int .u64 (fHash fl[k].body : Int)) ∧ w.cell? ⟨bb, off + k * 5 + 4, none⟩ = some (.slice sa (fSlices fl[k].body).length sc) ∧ w.ownsRow base 63 1 (.slice sa (fSlices fl[k].body).length sc) (fSlices fl[k].body).length (u64V (fSlices fl[k].body))
theorem FRow.later {w w' : World} {base : Nat} {a : Option Addr} {fl : List FoundL} (h : FRow w base a fl) (hb : Below w.heap.size w w') : FRow w' base a fl := fun k hk => by
  obtain ⟨bb, off, sa, sc, e, c0, c1, c2, c3, c4, c5⟩ := h k hk
  have hl := World.block_lt_of_cell? w _ c0
  refine ⟨bb, off, sa, sc, e, ?_, ?_, ?_, ?_, ?_, ownsRow_later c5 (Nat.le_refl _) hb⟩
  · rw [hb.cell hl]; exact c0
  · rw [hb.cell (show bb < w.heap.size from hl)]; exact c1
  · rw [hb.cell (show bb < w.heap.size from hl)]; exact c2
  · rw [hb.cell (show bb < w.heap.size from hl)]; exact c3
  · rw [hb.cell (show bb < w.heap.size from hl)]; exact c4

set_option linter.unusedSimpArgs false in
set_option maxRecDepth 100000 in
set_option maxHeartbeats 2000000 in
theorem sliceHashes_walk (fl : List FoundL) (base : Nat) (a : Option Addr) (cap : Nat) (hn : fl.length ≤ 1000) (hs : ∀ f ∈ fl, (fSlices f.body).length ≤ 1000) (w : World) (hf : FRow w base a fl) :
    Calls Tryz.prog 78 #[.slice a fl.length cap] w fun e w' => ∃ v, e = .returned v ∧ w'.ownsRow w.heap.size 63 1 v (fl.flatMap fun f => fSlices f.body).length (u64V (fl.flatMap fun f => fSlices f.body)) ∧ Below w.heap.size w w' := by
  obtain ⟨i0, hi, hz0, hz1, hz2⟩ := info_parts Tryz.infoU64
  have HF := hid_of hf
  have HSL := hid_of hs
  clear hf hs
  go_enter Tryz.func78, Tryz.ntmps78
  go_wp2_with fail
  go_loopw [3, 9] (fun hv i W => ∃ k : Nat, k ≤ fl.length ∧ i = .int .i64 (k : Int) ∧ W.ownsRow w.heap.size 63 1 hv ((fl.take k).flatMap fun f => fSlices f.body).length (u64V ((fl.take k).flatMap fun f => fSlices f.body)) ∧ ((fl.take k).flatMap fun f => fSlices f.body).length ≤ k * 1000 ∧ Below w.heap.size w W)
    (fun _ i _ => fl.length - (intOf i).toNat)
  case atStart => exact ⟨0, by omega, rfl, World.ownsRow_made (base := w.heap.size) (e := 63) (size := 1) w #[] 0 (Nat.le_refl _) (by unfold maxLen; omega) rfl, by simp, (Below.refl _ _).alloc (Nat.le_refl _) _⟩
  case round =>
    obtain ⟨k, hk, rfl, hown, hlen, hbl⟩ := hrel
    have hsz := hbl.size
    by_cases hlt : k < fl.length
    · have hfr := HF.out.later hbl
      obtain ⟨bb, off, sa, sc, rfl, c0, c1, c2, c3, c4, c5⟩ := hfr k hlt
      have hsl := HSL.out fl[k] (List.getElem_mem hlt)
      have hsn : (fl.take (k + 1)).flatMap (fun f => fSlices f.body) = (fl.take k).flatMap (fun f => fSlices f.body) ++ fSlices fl[k].body := by rw [take_snoc fl k hlt, List.flatMap_append]; simp
      obtain ⟨f, hf⟩ : ∃ f, f = fl[k] := ⟨_, rfl⟩
      rw [← hf] at c0 c1 c2 c3 c4 c5 hsl hsn
      obtain ⟨P, hP⟩ : ∃ P, P = (fl.take k).flatMap (fun f => fSlices f.body) := ⟨_, rfl⟩
      rw [← hP] at hown hlen hsn
      have HSN := hid_of hsn
      have HO := hid_of (hown.alloc (Obj.cells #[Value.int .i64 (fNumber f.body : Int), .string (str (fName f.body)), .int .i64 (fLong f.body : Int), .int .u64 (fHash f.body : Int), .slice sa (fSlices f.body).length sc] 143))
      have HB := hid_of (hbl.alloc hsz (Obj.cells #[Value.int .i64 (fNumber f.body : Int), .string (str (fName f.body)), .int .i64 (fLong f.body : Int), .int .u64 (fHash f.body : Int), .slice sa (fSlices f.body).length sc] 143))
      have C5 := hid_of (c5.alloc (Obj.cells #[Value.int .i64 (fNumber f.body : Int), .string (str (fName f.body)), .int .i64 (fLong f.body : Int), .int .u64 (fHash f.body : Int), .slice sa (fSlices f.body).length sc] 143))
      have hsz2 : w.heap.size ≤ (wr.alloc (Obj.cells #[Value.int .i64 (fNumber f.body : Int), .string (str (fName f.body)), .int .i64 (fLong f.body : Int), .int .u64 (fHash f.body : Int), .slice sa (fSlices f.body).length sc] 143)).heap.size := by simp; omega
      have eV : ∀ l1 l2 : List Nat, u64V (l1 ++ l2) = u64V l1 ++ u64V l2 := fun l1 l2 => by simp [u64V]
      have EV := hid_of eV
      clear hown hbl hf hfr hsn hP eV
      rcases c5.2 with ⟨hnil, hm0⟩ | ⟨g, cc, cur, hsome, _⟩
      · simp only [Value.slice.injEq] at hnil
        obtain ⟨rfl, -, rfl⟩ := hnil
        have hnil : fSlices f.body = [] := List.length_eq_zero_iff.1 hm0
        have HNIL := hid_of hnil
        rw [hm0] at c4 HO HB
        clear c5 hnil C5 hsz2
        go_wp2_with (at_builtin; refine wpList_append_own_none rfl (.tmp 13) (.tmp 15) 99 rfl w.heap.size 63 i0 1 Tryz.underlying99 hi _ _ _ rfl HO.out rfl ?_)
        go_wp2_with fail
        refine ⟨⟨k + 1, by omega, by go_num, ?_, by rw [HSN.out, List.length_append, hm0]; omega, HB.out⟩, by simp [intOf]; omega⟩
        rw [HSN.out, HNIL.out, List.append_nil]
        exact HO.out
      · cases hsome
        clear c5
        go_wp2_with (at_builtin; refine wpList_append_own _ rfl (.tmp 13) (.tmp 15) 99 rfl w.heap.size 63 i0 (.int .u64 0) 1 8 Tryz.underlying99 hi hz0 hz1 hz2 rfl (by decide) _ _ _ rfl HO.out ⟨g, 0, none⟩ (fSlices f.body).length sc (u64V (fSlices f.body)) rfl ?d1 ?d0 ?d2 ?d3 ?d4 ?d5 ?_)
        case d1 => exact C5.out.1
        case d0 => intro j u hj; exact C5.out.cells (g := g) rfl j u hj
        case d2 => intro u hu; simp only [u64V, List.mem_map] at hu; obtain ⟨x, _, rfl⟩ := hu; rfl
        case d3 => unfold maxLen; omega
        case d4 => omega
        case d5 => exact hsz2
        intro v2 w2 hown2 hg2 _
        have hbl2 := below_grown HB.out hsz2 HO.out hg2
        have O2 := hid_of hown2
        have B2 := hid_of hbl2
        clear hown2 hbl2 hg2
        go_wp2_with fail
        refine ⟨⟨k + 1, by omega, by go_num, ?_, by rw [HSN.out, List.length_append]; omega, B2.out⟩, by simp [intOf]; omega⟩
        rw [HSN.out, EV.out, List.length_append]
        exact O2.out
    · obtain rfl : k = fl.length := by omega
      rw [List.take_length] at hown
      have HO := hid_of hown
      have HB := hid_of hbl
      clear hown hbl hlen
      go_wp2_with fail
      go_ret
      exact ⟨_, rfl, HO.out, HB.out⟩
end Go.Proofs.YtonjphollmdicaaGreatDoor
