import Derived.Test.YtonjphollmdicaaGreatDoorB04
import Derived.Test.YtonjphollmdicaaGreatDoorB08
import Derived.Test.YtonjphollmdicaaGreatDoorB09
import Derived.Test.YtonjphollmdicaaGreatDoorB19
import Derived.Test.YtonjphollmdicaaGreatDoorB20
namespace Go.Proofs.YtonjphollmdicaaGreatDoor
open Go.ChangeShapes Go.WideShapes Go.ChangeAt Go.RowKit
theorem Tryz.infoRow : (Tryz.prog.info? 167).map (fun i => (i.zero, i.size, i.bytes)) = some (some (.slice none 0 0), 1, 24) := by kernel_rfl
def partR (n k : Nat) (f : Nat → List Nat) : List (List Nat) := (List.range n).map fun j => if j < k then f j else []
theorem partR_length (n k : Nat) (f : Nat → List Nat) : (partR n k f).length = n := by simp [partR]
theorem partR_up (n k : Nat) (f : Nat → List Nat) : (partR n k f).set k (f k) = partR n (k + 1) f := by
 apply List.ext_getElem
 ·simp [partR]
 ·intro j h1 h2
  simp only [partR, List.getElem_set, List.getElem_map, List.getElem_range]
  by_cases hj : k = j
  ·subst hj; simp
  ·rw [if_neg hj]
   by_cases hl : j < k
   ·rw [if_pos hl, if_pos (by omega)]
   ·rw [if_neg hl, if_neg (by omega)]
theorem partR_full (n : Nat) (f : Nat → List Nat) : partR n n f = (List.range n).map f := by
 apply List.map_congr_left
 intro j hj
 rw [if_pos (by simpa using hj)]
def OwnRows (W : World) (B : Nat) (v : Value) (rs : List (List Nat)) : Prop :=
 ∃ vs, W.ownsRow B 167 1 v rs.length vs ∧ ∀ (j : Nat) (r : List Nat), rs[j]? = some r → ∃ u, vs[j]? = some u ∧ W.ownsRow B 80 1 u r.length (u16V r)
theorem own_ne {W : World} {b b' : Nat} {e e' : TypeId} {s s' : Nat} {v v' : Value} {n n' : Nat} {xs xs' : List Value} (h : W.ownsRow b e s v n xs) (h' : W.ownsRow b' e' s' v' n' xs') (hne : e ≠ e') : v.ownBlock = none ∨ v.ownBlock ≠ v'.ownBlock := by
 rcases h.2 with ⟨rfl, _⟩ | ⟨g, cap, cur, rfl, _, hg, _⟩
 ·left; rfl
 ·right
  rcases h'.2 with ⟨rfl, _⟩ | ⟨g', cap', cur', rfl, _, hg', _⟩
  ·simp [Value.ownBlock]
  ·simp only [Value.ownBlock]
   intro e1
   cases e1
   rw [hg] at hg'
   cases hg'
   exact hne rfl
theorem OwnRows.later {W W' : World} {B : Nat} {v : Value} {rs : List (List Nat)} (h : OwnRows W B v rs) (hb : Below W.heap.size W W') : OwnRows W' B v rs := by
 obtain ⟨vs, h1, h2⟩ := h
 refine ⟨vs, ownsRow_later h1 (Nat.le_refl _) hb, fun j r hj => ?_⟩
 obtain ⟨u, k1, k2⟩ := h2 j r hj
 exact ⟨u, k1, ownsRow_later k2 (Nat.le_refl _) hb⟩
theorem OwnRows.kept {W W' : World} {B b' : Nat} {v v' : Value} {rs : List (List Nat)} {e : TypeId} {s n : Nat} {xs : List Value} (h : OwnRows W B v rs) (h' : W.ownsRow b' e s v' n xs) (h1 : 167 ≠ e) (h2 : 80 ≠ e) (hg : W.grownBy W' v'.ownBlock) : OwnRows W' B v rs := by
 obtain ⟨vs, k1, k2⟩ := h
 refine ⟨vs, k1.kept hg (own_ne k1 h' h1), fun j r hj => ?_⟩
 obtain ⟨u, m1, m2⟩ := k2 j r hj
 exact ⟨u, m1, m2.kept hg (own_ne m2 h' h2)⟩
theorem OwnRows.append {W W' : World} {B : Nat} {v v' u : Value} {rs : List (List Nat)} {r : List Nat} {vs : List Value} (hv : W.ownsRow B 167 1 v rs.length vs) (hold : ∀ (j : Nat) (r : List Nat), rs[j]? = some r → ∃ u, vs[j]? = some u ∧ W.ownsRow B 80 1 u r.length (u16V r))
  (hu : W.ownsRow B 80 1 u r.length (u16V r)) (hv' : W'.ownsRow B 167 1 v' (rs.length + 1) (vs ++ [u])) (hg : W.grownBy W' v.ownBlock) : OwnRows W' B v' (rs ++ [r]) := by
 have hl : vs.length = rs.length := by have := hv.1; simpa using this
 refine ⟨vs ++ [u], by rw [List.length_append]; exact hv', fun j r' hj => ?_⟩
 rcases Nat.lt_or_ge j rs.length with hlt | hge
 ·rw [List.getElem?_append_left hlt] at hj
  obtain ⟨u', m1, m2⟩ := hold j r' hj
  exact ⟨u', by rw [List.getElem?_append_left (by omega)]; exact m1, m2.kept hg (own_ne m2 hv (by decide))⟩
 ·rw [List.getElem?_append_right hge] at hj
  have hj0 : j - rs.length = 0 := by
   have := (List.getElem?_eq_some_iff.1 hj).1
   simp at this; omega
  rw [hj0] at hj
  simp at hj
  subst hj
  exact ⟨u, by rw [List.getElem?_append_right (by omega), show j - vs.length = 0 from by omega]; rfl, hu.kept hg (own_ne hu hv (by decide))⟩
theorem OwnRows.rdRows {W : World} {B : Nat} {v : Value} {rs : List (List Nat)} (h : OwnRows W B v rs) : ∃ a c, v = .slice a rs.length c ∧ RdRows W a rs := by
 obtain ⟨vs, h1, h2⟩ := h
 obtain ⟨a, c, hv, _, _, hr⟩ := ownsRow_rd h1
 refine ⟨a, c, hv, fun k r hk => ?_⟩
 obtain ⟨u, m1, m2⟩ := h2 k r hk
 obtain ⟨b, off, ha, hc⟩ := hr k u m1
 obtain ⟨a', c', hu, _, _, hr'⟩ := ownsRow_rd m2
 subst hu
 exact ⟨b, off, a', c', ha, hc, hr'⟩
theorem OwnRows.made (W : World) (B n : Nat) (f : Nat → List Nat) (hB : B ≤ W.heap.size) (hn : n ≤ 1000) : OwnRows (W.alloc (.cells (madeCells #[.slice none 0 0] n) 167)) B (.slice (some ⟨W.heap.size, 0, none⟩) n n) (partR n 0 f) := by
 have hs : (madeCells #[Value.slice none 0 0] n).toList = List.replicate n (Value.slice none 0 0) := toList_madeCells_one _ _
 have hsz : (madeCells #[Value.slice none 0 0] n).size = n * 1 := by
  have : (madeCells #[Value.slice none 0 0] n).toList.length = n := by rw [hs]; simp
  rw [Array.length_toList] at this
  omega
 refine ⟨List.replicate n (.slice none 0 0), ?_, ?_⟩
 ·have := World.ownsRow_lit (base := B) (e := 167) (size := 1) W (madeCells #[Value.slice none 0 0] n) n hB (by unfold maxLen; omega) hsz
  rw [hs] at this
  rw [partR_length]
  exact this
 ·intro j r hj
  have hl : j < n := by have := (List.getElem?_eq_some_iff.1 hj).1; rw [partR_length] at this; exact this
  have e : r = [] := by
   simp [partR, hl] at hj
   exact hj
  subst e
  exact ⟨.slice none 0 0, by simp [hl], World.ownsRow_nil _ _ _ _⟩
theorem OwnRows.store {W : World} {B g n cap : Nat} {rs : List (List Nat)} (h : OwnRows W B (.slice (some ⟨g, 0, none⟩) n cap) rs) (hn : rs.length = n) (k : Nat) (r : List Nat) (u : Value) (hu : W.ownsRow B 80 1 u r.length (u16V r)) : OwnRows (W.setCell ⟨g, k, none⟩ u) B (.slice (some ⟨g, 0, none⟩) n cap) (rs.set k r) := by
 obtain ⟨vs, h1, h2⟩ := h
 rw [hn] at h1
 obtain ⟨s1, s2⟩ := h1.stored k u
 have hl : vs.length = n := by have := h1.1; simpa using this
 have hgr : W.grownBy (W.setCell ⟨g, k, none⟩ u) (Value.slice (some ⟨g, 0, none⟩) n cap).ownBlock := s2
 refine ⟨vs.set k u, by rw [List.length_set, hn]; exact s1, ?_⟩
 intro j r' hj
 by_cases e : k = j
 ·subst e
  have hk : k < rs.length := by have := (List.getElem?_eq_some_iff.1 hj).1; rw [List.length_set] at this; exact this
  simp [hk] at hj
  subst hj
  exact ⟨u, by simp [hl, ← hn, hk], hu.kept hgr (own_ne hu h1 (by decide))⟩
 ·rw [List.getElem?_set_ne e] at hj
  obtain ⟨u', m1, m2⟩ := h2 j r' hj
  exact ⟨u', by rw [List.getElem?_set_ne e]; exact m1, m2.kept hgr (own_ne m2 h1 (by decide))⟩
theorem OwnRows.cell {W : World} {B g n cap : Nat} {rs : List (List Nat)} (h : OwnRows W B (.slice (some ⟨g, 0, none⟩) n cap) rs) (hn : rs.length = n) (k : Nat) (hk : k < n) : (∃ u, W.cell? ⟨g, k, none⟩ = some u) ∧ W.frozen? ⟨g, k, none⟩ = false := by
 obtain ⟨vs, h1, _⟩ := h
 rw [hn] at h1
 have hl : vs.length = n := by have := h1.1; simpa using this
 refine ⟨⟨vs[k]'(by omega), ?_⟩, h1.frozenAt k⟩
 rw [h1.cellAt k (by omega)]
 exact List.getElem?_eq_getElem _
def pointsL (n : Nat) : List Nat := List.range n
def extraL (rows : List (List Nat)) (width j : Nat) : List Nat := mixL rows (weightsL (pointsL rows.length) (scalesL (pointsL rows.length)) (rows.length + j)) width
def extrasL (rows : List (List Nat)) (width extra : Nat) : List (List Nat) := (List.range extra).map (extraL rows width)
theorem points_lt (n : Nat) (hn : n ≤ 1000) : ∀ x ∈ pointsL n, x < 65536 := by
 intro x hx
 have := List.mem_range.1 hx
 omega
theorem scales_lt (pts : List Nat) : ∀ x ∈ scalesL pts, x < 65536 := by
 intro x hx
 simp only [scalesL, List.mem_map] at hx
 obtain ⟨j, _, rfl⟩ := hx
 exact Math.inv_lt (diffL_lt pts j)
theorem weights_lt (pts ss : List Nat) (t : Nat) (hs : ∀ x ∈ ss, x < 65536) : ∀ x ∈ weightsL pts ss t, x < 65536 := by
 intro x hx
 simp only [weightsL, List.mem_map] at hx
 obtain ⟨j, _, rfl⟩ := hx
 exact Math.mul_lt (Math.mul_lt (getD_lt hs j) _) _
set_option maxRecDepth 100000 in
set_option maxHeartbeats 1000000 in
theorem extraRows_walk (rows : List (List Nat)) (width extra : Nat) (a : Option Addr) (cap : Nat) (hn : rows.length ≤ 100) (h0 : 0 < rows.length) (hwd : width ≤ 100) (hex : extra ≤ 100) (hr : ∀ r ∈ rows, r.length = width ∧ ∀ x ∈ r, x < 65536) (w : World) (hrd : RdRows w a rows) :
  Calls Tryz.prog 101 #[.slice a rows.length cap, .int .i64 (width : Int), .int .i64 (extra : Int)] w fun e w' => ∃ g, e = .returned (.slice (some ⟨g, 0, none⟩) extra extra) ∧ OwnRows w' w.heap.size (.slice (some ⟨g, 0, none⟩) extra extra) (extrasL rows width extra) ∧ Below w.heap.size w w' := by
 obtain ⟨i0, hi, hz0, hz1, hz2⟩ := info_parts Tryz.info16
 obtain ⟨i1, hj, hy0, hy1, hy2⟩ := info_parts Tryz.infoRow
 have hmk1 : ∀ W : World, (Instr.makeSlice 121 (.int .i64 (rows.length : Int)) (.int .i64 (rows.length : Int))).run Tryz.prog W = .ok (.slice (some ⟨W.heap.size, 0, none⟩) rows.length rows.length) (W.alloc (.cells (madeCells #[.int .u16 0] rows.length) 80)) :=
  fun W => run_make_row' 121 80 (.int .u16 0) 2 Tryz.underlying121 Tryz.info16 rfl .i64 .i64 rows.length (by omega) (by omega) W
 have hmk2 : ∀ W : World, (Instr.makeSlice 160 (.int .i64 (extra : Int)) (.int .i64 (extra : Int))).run Tryz.prog W = .ok (.slice (some ⟨W.heap.size, 0, none⟩) extra extra) (W.alloc (.cells (madeCells #[.slice none 0 0] extra) 167)) :=
  fun W => run_make_row' 160 167 (.slice none 0 0) 24 Tryz.underlying160 Tryz.infoRow rfl .i64 .i64 extra (by omega) (by omega) W
 have hfree0 := Free.made w rows.length
 have hbl0 : Below w.heap.size w (w.alloc (.cells (madeCells #[.int .u16 0] rows.length) 80)) := (Below.refl _ _).alloc (Nat.le_refl _) _
 have hz : List.replicate rows.length 0 = partL rows.length 0 (fun j => j) (fun _ => 0) := by
  rw [partL_zero]
  apply List.ext_getElem
  ·simp
  ·intro j h1 h2; simp
 rw [hz] at hfree0
 have H1 := hid_of hfree0
 have H2 := hid_of hbl0
 clear hfree0 hbl0 hz
 go_enter Tryz.func101, Tryz.ntmps101
 go_wp2_with fail
 go_loopw [8, 17] (fun _ i wr => ∃ k : Nat, k ≤ rows.length ∧ i = .int .i64 (k : Int) ∧ Free wr w.heap.size (partL rows.length k (fun j => j) (fun _ => 0)) ∧ Below w.heap.size w wr)
  (fun _ i _ => rows.length - (intOf i).toNat)
 case atStart => exact ⟨0, by omega, rfl, H1.out, H2.out⟩
 case round =>
  clear H1 H2
  obtain ⟨k, hk, rfl, hfree, hbl⟩ := hrel
  by_cases hlt : k < rows.length
  ·have hcs := (hfree k (by rw [partL_length]; exact hlt)).1
   have hcf := (hfree k (by rw [partL_length]; exact hlt)).2
   have hst := hfree.store k k (by rw [partL_length]; exact hlt)
   have hup := partL_up rows.length k (fun j => j) (fun _ => 0)
   rw [hup] at hst
   have hB := hbl.setCell (p := ⟨w.heap.size, k, none⟩) (Nat.le_refl _) (.int .u16 (k : Int))
   have H1 := hid_of hst
   have H2 := hid_of hB
   obtain ⟨zk, hzk⟩ : ∃ x, x = (partL rows.length k (fun j => j) (fun _ => 0)).getD k 0 := ⟨_, rfl⟩
   rw [← hzk] at hcs
   clear hst hB hfree hup hzk
   go_wp2_with fail
   go_roundw
   case rel => exact ⟨k + 1, by omega, by go_num, H1.out, H2.out⟩
   case measure => simp [intOf]; omega
  ·obtain rfl : k = rows.length := by omega
   have hpt : partL rows.length rows.length (fun j => j) (fun _ => 0) = pointsL rows.length := by rw [partL_full]; simp [pointsL]
   rw [hpt] at hfree
   have hrdp := hfree.rd
   have hpl : (pointsL rows.length).length = rows.length := by simp [pointsL]
   have HP := hid_of hrdp
   have HL := hid_of hpl
   clear hfree hrdp hpt hpl
   have hT := Through_walk (pointsL rows.length) (some ⟨w.heap.size, 0, none⟩) rows.length (by rw [HL.out]; omega) (by rw [HL.out]; exact h0) (points_lt _ (by omega)) wr HP.out
   rw [HL.out] at hT
   have HT := hid_of hT
   clear hT
   go_wp2_with fail
   refine HT.out.mono ?_
   rintro e w1 ⟨a1, c1, a2, c2, rfl, hp1, hp2, hb1⟩
   have hbw := Below.next hbl hb1
   have hf0 := OwnRows.made (w1.alloc (.cells #[.slice a1 rows.length c1, .slice a2 rows.length c2] 201)) w.heap.size extra (extraL rows width) (by have := hbw.size; simp; omega) (by omega)
   rw [World.size_alloc] at hf0
   have hq1 := hp1.alloc (.cells #[.slice a1 rows.length c1, .slice a2 rows.length c2] 201)
   have hq2 := hp2.alloc (.cells #[.slice a1 rows.length c1, .slice a2 rows.length c2] 201)
   have hq3 := Pair.new w1 (.slice a1 rows.length c1) (.slice a2 rows.length c2) 201
   have hq4 : Below w.heap.size w (w1.alloc (.cells #[.slice a1 rows.length c1, .slice a2 rows.length c2] 201)) := hbw.alloc hbw.size _
   obtain ⟨Wm, hWm⟩ : ∃ W, W = w1.alloc (.cells #[.slice a1 rows.length c1, .slice a2 rows.length c2] 201) := ⟨_, rfl⟩
   rw [← hWm] at hf0 hq1 hq2 hq3 hq4
   have hsm : Wm.heap.size = w1.heap.size + 1 := by rw [hWm]; simp
   have hb0 : Below (w1.heap.size + 1) Wm (Wm.alloc (.cells (madeCells #[.slice none 0 0] extra) 167)) := (Below.refl _ _).alloc (by omega) _
   have H0 := hid_of hf0
   have H1 := hid_of hq1
   have H2 := hid_of hq2
   have H3 := hid_of hq3
   have H4 := hid_of hq4
   have H5 := hid_of hWm
   have H6 := hid_of hsm
   have H7 := hid_of hb0
   have H8 := hid_of hrd
   have H9 := hid_of hr
   clear hf0 hq1 hq2 hq3 hq4 hWm hsm hb0 hrd hp1 hp2 hb1 hr HP HT hbl
   go_wp2_with fail
   rw [← H5.out]
   go_loopw [11, 32] (fun _ i wr => ∃ k : Nat, k ≤ extra ∧ i = .int .i64 (k : Int) ∧ OwnRows wr w.heap.size (.slice (some ⟨w1.heap.size + 1, 0, none⟩) extra extra) (partR extra k (extraL rows width)) ∧ Below (w1.heap.size + 1) Wm wr)
    (fun _ i _ => extra - (intOf i).toNat)
   case atStart => exact ⟨0, by omega, rfl, H0.out, H7.out⟩
   case round =>
    clear H0 H7
    obtain ⟨k, hk, rfl, hfree, hbl⟩ := hrel
    have hsz := hbl.size
    rw [H6.out] at hsz
    by_cases hlt : k < extra
    ·have hb3 := H3.out
     have hx0 : wr.cell? ⟨w1.heap.size, 0, none⟩ = some (.slice a1 rows.length c1) := by rw [hbl.cell (by simp)]; exact hb3.1
     have hx1 : wr.cell? ⟨w1.heap.size, 1, none⟩ = some (.slice a2 rows.length c2) := by rw [hbl.cell (by simp)]; exact hb3.2
     have hr1 : Rd wr a1 (u16V (pointsL rows.length)) := H1.out.later (by rw [H6.out]; exact Nat.le_refl _) hbl
     have hr2 : Rd wr a2 (u16V (scalesL (pointsL rows.length))) := H2.out.later (by rw [H6.out]; exact Nat.le_refl _) hbl
     have hww : Below w.heap.size w wr := H4.out.trans (hbl.mono (by have := hbw.size; omega))
     have hr3 : RdRows wr a rows := H8.out.later (Nat.le_refl _) hww
     have hW := Weights_walk (pointsL rows.length) (scalesL (pointsL rows.length)) (rows.length + k) a1 a2 c1 c2 (by rw [HL.out]; omega) (by rw [HL.out]; exact h0) (by simp [scalesL]) (points_lt _ (by omega)) (scales_lt _) (by omega) wr hr1 hr2
     rw [HL.out] at hW
     have HW := hid_of hW
     have HF := hid_of hfree
     have HB := hid_of hbl
     have HR3 := hid_of hr3
     have HWW := hid_of hww
     obtain ⟨⟨xu, hcell⟩, hfz⟩ := hfree.cell (partR_length _ _ _) k hlt
     clear hW hfree hr1 hr2 hr3 hww hb3
     go_wp2_with fail
     rw [show ((rows.length : Int) + (k : Int)) = ((rows.length + k : Nat) : Int) from by omega]
     refine HW.out.mono ?_
     rintro e w2 ⟨v2, rfl, hown2, hb2⟩
     obtain ⟨a4, c4, rfl, _, _, hr4⟩ := ownsRow_rd hown2
     have hr3 := HR3.out.later (Nat.le_refl _) hb2
     have hM := Mix_walk rows (weightsL (pointsL rows.length) (scalesL (pointsL rows.length)) (rows.length + k)) width a a4 cap c4 (by omega) (by simp [weightsL, HL.out]) (by omega) H9.out (weights_lt _ _ _ (scales_lt _)) w2 hr3 hr4
     have HM := hid_of hM
     have HB2 := hid_of hb2
     clear hM hown2 hr4 hr3 hb2
     go_wp2_with fail
     refine HM.out.mono ?_
     rintro e w3 ⟨v3, rfl, hown3, hb3⟩
     obtain ⟨a5, c5, rfl, _, _, hr5⟩ := ownsRow_rd hown3
     have hb23 := Below.next HB2.out hb3
     have hfree3 := HF.out.later hb23
     have hel : (extraL rows width k).length = width := by simp [extraL, mixL]
     have hown3' := ownsRow_base (base' := w.heap.size) (by have := hbw.size; have := HB2.out.size; omega) hown3
     have hown3'' : w3.ownsRow w.heap.size 80 1 (.slice a5 width c5) (extraL rows width k).length (u16V (extraL rows width k)) := by rw [hel]; exact hown3'
     have hst := hfree3.store (partR_length _ _ _) k (extraL rows width k) _ hown3''
     rw [partR_up] at hst
     have hb4 : Below (w1.heap.size + 1) Wm w3 := HB.out.trans (hb23.mono (by omega))
     have hb5 := hb4.setCell (p := ⟨w1.heap.size + 1, k, none⟩) (Nat.le_refl _) (.slice a5 width c5)
     have hgl : w1.heap.size + 1 < wr.heap.size := World.block_lt_of_cell? wr _ hcell
     have hcell3 : w3.cell? ⟨w1.heap.size + 1, k, none⟩ = some xu := by rw [hb23.cell hgl]; exact hcell
     have hfz3 : w3.frozen? ⟨w1.heap.size + 1, k, none⟩ = false := by rw [hb23.frozen hgl]; exact hfz
     have K1 := hid_of hst
     have K2 := hid_of hb5
     clear hst hb5 hb4 hfree3 hown3 hown3' hown3'' hr5 hb23 hb3 hel hcell hfz HF HB HM HB2 HW
     go_wp2_with fail
     go_roundw
     case rel => exact ⟨k + 1, by omega, by go_num, K1.out, K2.out⟩
     case measure => simp [intOf]; omega
    ·obtain rfl : k = extra := by omega
     rw [partR_full] at hfree
     have hres := hfree
     clear hfree
     have hww : Below w.heap.size w wr := H4.out.trans (hbl.mono (by have := hbw.size; omega))
     go_wp2_with fail
     go_ret
     exact ⟨_, rfl, hres, hww⟩
end Go.Proofs.YtonjphollmdicaaGreatDoor
namespace Go.Proofs.YtonjphollmdicaaGreatDoor
open Go.ChangeShapes Go.WideShapes Go.ChangeAt Go.RowKit
def noDesc : DescL := ⟨[], 0, 0, []⟩
def chiefSize (f : FoundL) : Nat := numL (f.body.take 2)
def chiefN (f : FoundL) : Nat := (f.body.getD 2 0).toNat
def chiefHash (f : FoundL) (i : Nat) : Nat := numL ((f.body.drop (3 + 8 * i)).take 8)
def descAt (l : List FoundL) (f : FoundL) (i : Nat) : Option DescL := describedL l f.set i (chiefHash f i) (chiefSize f)
def descsN (l : List FoundL) (f : FoundL) (n : Nat) : List DescL := (List.range n).map fun i => (descAt l f i).getD noDesc
def allDesc (l : List FoundL) (f : FoundL) (n : Nat) : Bool := (List.range n).all fun i => (descAt l f i).isSome
def namesL (ds : List DescL) : List FileL := ds.map fun d => (d.name, [])
def hashSum (ds : List DescL) : Nat := (ds.flatMap DescL.slices).length
def exAt (l : List FoundL) (f : FoundL) (j : Nat) : List UInt8 := (exL l f.set (chiefSize f) j).getD []
def exsL (l : List FoundL) (f : FoundL) : List (List UInt8) := (List.range 20).map (exAt l f)
structure SetL where
 size : Nat
 files : List DescL
 extra : List (List UInt8)
def isList (l : List FoundL) (f : FoundL) : Bool := allDesc l f (chiefN f) && !twiceL (namesL (descsN l f (chiefN f))) && decide (1 ≤ hashSum (descsN l f (chiefN f))) && decide (hashSum (descsN l f (chiefN f)) ≤ 60)
def readL (l : List FoundL) : SetL ⊕ Nat := match chiefL l with
 | none => .inr 3
 | some f => if isList l f then .inl ⟨chiefSize f, descsN l f (chiefN f), exsL l f⟩ else .inr 4
theorem descsN_succ (l : List FoundL) (f : FoundL) (n : Nat) : descsN l f (n + 1) = descsN l f n ++ [(descAt l f n).getD noDesc] := by
 unfold descsN
 rw [List.range_succ, List.map_append]
 rfl
theorem descsN_len (l : List FoundL) (f : FoundL) (n : Nat) : (descsN l f n).length = n := by simp [descsN]
theorem namesL_snoc (ds : List DescL) (d : DescL) : namesL (ds ++ [d]) = namesL ds ++ [(d.name, [])] := by simp [namesL]
theorem hashSum_snoc (ds : List DescL) (d : DescL) : hashSum (ds ++ [d]) = hashSum ds + d.slices.length := by simp [hashSum]
theorem allDesc_no {l : List FoundL} {f : FoundL} {i n : Nat} (hi : i < n) (h : descAt l f i = none) : allDesc l f n = false := by
 unfold allDesc
 rw [List.all_eq_false]
 exact ⟨i, List.mem_range.2 hi, by rw [h]; simp⟩
theorem allDesc_succ {l : List FoundL} {f : FoundL} {n : Nat} : allDesc l f (n + 1) = (allDesc l f n && (descAt l f n).isSome) := by
 unfold allDesc
 rw [List.range_succ, List.all_append]
 simp
theorem exL_snoc (l : List FoundL) (g : FoundL) (set b j : Nat) : exL (l ++ [g]) set b j = (exL l set b j).or (if isExtra set b j g then some (g.body.drop 2) else none) := by
 unfold exL
 rw [List.find?_append, List.find?_cons, List.find?_nil]
 cases l.find? (isExtra set b j) with
 | none => cases isExtra set b j g <;> rfl
 | some x => rfl
theorem exL_len {l : List FoundL} {set b j : Nat} {e : List UInt8} (h : exL l set b j = some e) : e.length = b := by
 unfold exL at h
 cases hf : l.find? (isExtra set b j) with
 | none => rw [hf] at h; cases h
 | some f =>
  rw [hf] at h
  cases h
  have := List.find?_some hf
  unfold isExtra at this
  simp only [Bool.and_eq_true, decide_eq_true_eq] at this
  rw [List.length_drop, this.1.2]
  omega
theorem exsL_len (l : List FoundL) (f : FoundL) : (exsL l f).length = 20 := by simp [exsL]
theorem exsL_pass {l : List FoundL} {f g : FoundL} (h : ¬ (g.kind = 82 ∧ g.set = f.set ∧ g.body.length = 2 + chiefSize f)) : exsL (l ++ [g]) f = exsL l f := by
 unfold exsL
 refine List.map_congr_left (fun j _ => ?_)
 unfold exAt
 rw [exL_snoc]
 have : isExtra f.set (chiefSize f) j g = false := by
  cases hc : isExtra f.set (chiefSize f) j g with
  | false => rfl
  | true =>
   unfold isExtra at hc
   simp only [Bool.and_eq_true, decide_eq_true_eq, beq_iff_eq] at hc
   exact absurd ⟨hc.1.1.1, hc.1.1.2, hc.1.2⟩ h
 rw [this]
 simp
theorem exsL_had {l : List FoundL} {f g : FoundL} (h : 20 ≤ numL (g.body.take 2) ∨ exAt l f (numL (g.body.take 2)) ≠ []) : exsL (l ++ [g]) f = exsL l f := by
 unfold exsL
 refine List.map_congr_left (fun j hj => ?_)
 have hj := List.mem_range.1 hj
 unfold exAt
 rw [exL_snoc]
 by_cases hc : isExtra f.set (chiefSize f) j g = true
 ·have hn : numL (g.body.take 2) = j := by
   unfold isExtra at hc
   simp only [Bool.and_eq_true, decide_eq_true_eq, beq_iff_eq] at hc
   exact hc.2
  rcases h with h | h
  ·omega
  ·rw [hn] at h
   unfold exAt at h
   cases he : exL l f.set (chiefSize f) j with
   | none => rw [he] at h; exact absurd rfl h
   | some x => rfl
 ·rw [if_neg hc, Option.or_none]
theorem exsL_new {l : List FoundL} {f g : FoundL} (hb : 0 < chiefSize f) (h1 : g.kind = 82 ∧ g.set = f.set ∧ g.body.length = 2 + chiefSize f) (h2 : exAt l f (numL (g.body.take 2)) = []) : exsL (l ++ [g]) f = (exsL l f).set (numL (g.body.take 2)) (g.body.drop 2) := by
 refine List.ext_getElem? (fun j => ?_)
 rw [List.getElem?_set, exsL_len]
 unfold exsL
 rw [List.getElem?_map, List.getElem?_map]
 by_cases hj : j < 20
 ·rw [List.getElem?_range hj]
  simp only [Option.map_some]
  by_cases c : numL (g.body.take 2) = j
  ·rw [if_pos c, c, if_pos hj]
   rw [c] at h2
   unfold exAt at h2 ⊢
   rw [exL_snoc]
   have hex : isExtra f.set (chiefSize f) j g = true := by unfold isExtra; simp [h1.1, h1.2.1, h1.2.2, c]
   rw [hex]
   cases he : exL l f.set (chiefSize f) j with
   | none => simp
   | some x =>
    rw [he] at h2
    have := exL_len he
    simp only [Option.getD_some] at h2
    rw [h2] at this
    simp at this
    omega
  ·rw [if_neg c]
   unfold exAt
   rw [exL_snoc]
   have hex : isExtra f.set (chiefSize f) j g = false := by unfold isExtra; simp [c]
   rw [hex]
   simp
 ·rw [List.getElem?_eq_none (by simp; omega)]
  simp
  omega
def descCells (ds : List DescL) (svs : List Value) : List Value := (ds.zip svs).flatMap fun p => [.string (str p.1.name), .int .i64 (p.1.long : Int), .int .u64 (p.1.hash : Int), p.2]
theorem descCells_snoc (ds : List DescL) (svs : List Value) (h : svs.length = ds.length) (d : DescL) (v : Value) : descCells (ds ++ [d]) (svs ++ [v]) = descCells ds svs ++ [.string (str d.name), .int .i64 (d.long : Int), .int .u64 (d.hash : Int), v] := by
 unfold descCells
 rw [List.zip_append h.symm, List.flatMap_append]
 rfl
def DescRows (w : World) (base : Nat) (ds : List DescL) (svs : List Value) : Prop := svs.length = ds.length ∧ ∀ (k : Nat) (d : DescL) (v : Value), ds[k]? = some d → svs[k]? = some v → w.ownsRow base 63 1 v d.slices.length (u64V d.slices)
theorem DescRows.nil (w : World) (base : Nat) : DescRows w base [] [] := ⟨rfl, fun k d v h => by simp at h⟩
theorem DescRows.map {w w' : World} {base : Nat} {ds : List DescL} {svs : List Value} (h : DescRows w base ds svs) (hm : ∀ v n xs, w.ownsRow base 63 1 v n xs → w'.ownsRow base 63 1 v n xs) : DescRows w' base ds svs := ⟨h.1, fun k d v h1 h2 => hm _ _ _ (h.2 k d v h1 h2)⟩
theorem DescRows.touch {w w' : World} {base : Nat} {ds : List DescL} {svs : List Value} (h : DescRows w base ds svs) {L : List Nat} (ht : Touch L w w') (hL : ∀ x ∈ L, x < base) : DescRows w' base ds svs := h.map (fun _ _ _ ho => owns_touch ho ht hL)
theorem DescRows.grown {w w' : World} {base b' : Nat} {ds : List DescL} {svs : List Value} (h : DescRows w base ds svs) {e : TypeId} {s n : Nat} {v : Value} {xs : List Value} (hr : w.ownsRow b' e s v n xs) (hg : w.grownBy w' v.ownBlock) (he : 63 ≠ e) : DescRows w' base ds svs := h.map (fun _ _ _ ho => ho.kept hg (own_ne ho hr he))
theorem DescRows.snoc {w : World} {base : Nat} {ds : List DescL} {svs : List Value} (h : DescRows w base ds svs) {d : DescL} {v : Value} (hv : w.ownsRow base 63 1 v d.slices.length (u64V d.slices)) : DescRows w base (ds ++ [d]) (svs ++ [v]) := by
 refine ⟨by simp [h.1], fun k d' v' h1 h2 => ?_⟩
 by_cases c : k < ds.length
 ·rw [List.getElem?_append_left c] at h1
  rw [List.getElem?_append_left (by rw [h.1]; exact c)] at h2
  exact h.2 k d' v' h1 h2
 ·rw [List.getElem?_append_right (by omega)] at h1
  rw [List.getElem?_append_right (by rw [h.1]; omega), h.1] at h2
  have : k - ds.length = 0 := by
   cases hk : k - ds.length with
   | zero => rfl
   | succ n => rw [hk] at h1; simp at h1
  rw [this] at h1 h2
  simp only [List.getElem?_cons_zero, Option.some.injEq] at h1 h2
  subst h1 h2
  exact hv
end Go.Proofs.YtonjphollmdicaaGreatDoor
namespace Go.Proofs.YtonjphollmdicaaGreatDoor
open Go.ChangeShapes Go.WideShapes Go.ChangeAt Go.RowKit
structure LeftL where
 set : SetL
 slices : List (List UInt8)
 states : List Nat
 flags : List Bool
 lost : Nat
 extra : Nat
def descState (fs : List FileL) (d : DescL) : Nat := stateL d.name d.long d.hash fs
def dHashes (ds : List DescL) : List Nat := ds.flatMap DescL.slices
def lostN (fs : List FileL) (b : Nat) (hs : List Nat) : Nat := (hs.filter fun h => (firstPiece fs b h).isNone).length
def exN (es : List (List UInt8)) : Nat := (es.filter fun e => decide (e ≠ [])).length
def piecesOf (fs : List FileL) (b : Nat) (hs : List Nat) : List (List UInt8) := hs.map fun h => (firstPiece fs b h).getD []
def flagsOf (fs : List FileL) (b : Nat) (hs : List Nat) : List Bool := hs.map fun h => (firstPiece fs b h).isSome
def leftOf (fs : List FileL) (s : SetL) : LeftL := ⟨s, piecesOf fs s.size (dHashes s.files), s.files.map (descState fs), flagsOf fs s.size (dHashes s.files), lostN fs s.size (dHashes s.files), exN s.extra⟩
def handedL (fs : List FileL) (vs : List (List UInt8)) : Bool := decide (fs.length ≤ 12) && decide (vs.length ≤ 40) && fs.all (fun f => decide (f.2.length ≤ 400)) && vs.all (fun v => decide (v.length ≤ 4000))
def lookedL (fs : List FileL) (vs : List (List UInt8)) : LeftL ⊕ Nat := if handedL fs vs then (match readL (findL vs) with
 | .inr n => .inr n
 | .inl s => .inl (leftOf fs s)) else .inr 1
theorem lostN_snoc (fs : List FileL) (b : Nat) (hs : List Nat) (h : Nat) : lostN fs b (hs ++ [h]) = lostN fs b hs + if (firstPiece fs b h).isNone then 1 else 0 := by
 unfold lostN
 rw [List.filter_append, List.length_append]
 cases hf : firstPiece fs b h <;> simp [hf]
theorem exN_snoc (es : List (List UInt8)) (e : List UInt8) : exN (es ++ [e]) = exN es + if e = [] then 0 else 1 := by
 unfold exN
 rw [List.filter_append, List.length_append]
 by_cases h : e = [] <;> simp [h]
theorem lostN_le (fs : List FileL) (b : Nat) (hs : List Nat) : lostN fs b hs ≤ hs.length := List.length_filter_le _ _
theorem exN_le (es : List (List UInt8)) : exN es ≤ es.length := List.length_filter_le _ _
end Go.Proofs.YtonjphollmdicaaGreatDoor
