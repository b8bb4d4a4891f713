import Derived.Test.YtonjphollmdicaaDoorB01
import Derived.Test.YtonjphollmdicaaDoorB02
import Derived.Test.YtonjphollmdicaaDoorB03
import Derived.Deep.RegionWith
import Derived.BigRegion
import Derived.Shelf.Strings.Repeat
import Derived.Test.YtonjphollmdicaaDoorProg
namespace Go.Proofs.YtonjphollmdicaaDoor
open Go.ChangeShapes Go.WideShapes Go.ChangeAt Go.RowKit

theorem Tryd.infoRow : (Tryd.prog.info? 91).map (fun i => (i.zero, i.size, i.bytes)) = some (some (.slice none 0 0), 1, 24) := by kernel_rfl

def partR (n k : Nat) (f : Nat → List Nat) : List (List Nat) := (List.range n).map fun j => if j < k then f j else []
theorem partR_length (n k : Nat) (f : Nat → List Nat) : (partR n k f).length = n := by simp [partR]
theorem partR_up (n k : Nat) (f : Nat → List Nat) : (partR n k f).set k (f k) = partR n (k + 1) f := by
  apply List.ext_getElem
  · simp [partR]
  · intro j h1 h2
    simp only [partR, List.getElem_set, List.getElem_map, List.getElem_range]
    by_cases hj : k = j
    · subst hj; simp
    · rw [if_neg hj]
      by_cases hl : j < k
      · rw [if_pos hl, if_pos (by omega)]
      · rw [if_neg hl, if_neg (by omega)]
theorem partR_full (n : Nat) (f : Nat → List Nat) : partR n n f = (List.range n).map f := by
  apply List.map_congr_left
  intro j hj
  rw [if_pos (by simpa using hj)]

/-- rows that the call owns, in a row that it owns -/
def OwnRows (W : World) (B : Nat) (v : Value) (rs : List (List Nat)) : Prop :=
  ∃ vs, W.ownsRow B 91 1 v rs.length vs ∧ ∀ (j : Nat) (r : List Nat), rs[j]? = some r → ∃ u, vs[j]? = some u ∧ W.ownsRow B 119 1 u r.length (u16V r)

theorem own_ne {W : World} {b b' : Nat} {e e' : TypeId} {s s' : Nat} {v v' : Value} {n n' : Nat} {xs xs' : List Value} (h : W.ownsRow b e s v n xs) (h' : W.ownsRow b' e' s' v' n' xs') (hne : e ≠ e') : v.ownBlock = none ∨ v.ownBlock ≠ v'.ownBlock := by
  rcases h.2 with ⟨rfl, _⟩ | ⟨g, cap, cur, rfl, _, hg, _⟩
  · left; rfl
  · right
    rcases h'.2 with ⟨rfl, _⟩ | ⟨g', cap', cur', rfl, _, hg', _⟩
    · simp [Value.ownBlock]
    · simp only [Value.ownBlock]
      intro e1
      cases e1
      rw [hg] at hg'
      cases hg'
      exact hne rfl

theorem OwnRows.later {W W' : World} {B : Nat} {v : Value} {rs : List (List Nat)} (h : OwnRows W B v rs) (hb : Below W.heap.size W W') : OwnRows W' B v rs := by
  obtain ⟨vs, h1, h2⟩ := h
  refine ⟨vs, ownsRow_later h1 (Nat.le_refl _) hb, fun j r hj => ?_⟩
  obtain ⟨u, k1, k2⟩ := h2 j r hj
  exact ⟨u, k1, ownsRow_later k2 (Nat.le_refl _) hb⟩
/-- behind a step that wrote only to a row of another kind -/
theorem OwnRows.kept {W W' : World} {B b' : Nat} {v v' : Value} {rs : List (List Nat)} {e : TypeId} {s n : Nat} {xs : List Value} (h : OwnRows W B v rs) (h' : W.ownsRow b' e s v' n xs) (h1 : 91 ≠ e) (h2 : 119 ≠ e) (hg : W.grownBy W' v'.ownBlock) : OwnRows W' B v rs := by
  obtain ⟨vs, k1, k2⟩ := h
  refine ⟨vs, k1.kept hg (own_ne k1 h' h1), fun j r hj => ?_⟩
  obtain ⟨u, m1, m2⟩ := k2 j r hj
  exact ⟨u, m1, m2.kept hg (own_ne m2 h' h2)⟩
theorem OwnRows.append {W W' : World} {B : Nat} {v v' u : Value} {rs : List (List Nat)} {r : List Nat} {vs : List Value} (hv : W.ownsRow B 91 1 v rs.length vs) (hold : ∀ (j : Nat) (r : List Nat), rs[j]? = some r → ∃ u, vs[j]? = some u ∧ W.ownsRow B 119 1 u r.length (u16V r))
    (hu : W.ownsRow B 119 1 u r.length (u16V r)) (hv' : W'.ownsRow B 91 1 v' (rs.length + 1) (vs ++ [u])) (hg : W.grownBy W' v.ownBlock) : OwnRows W' B v' (rs ++ [r]) := by
  have hl : vs.length = rs.length := by have := hv.1; simpa using this
  refine ⟨vs ++ [u], by rw [List.length_append]; exact hv', fun j r' hj => ?_⟩
  rcases Nat.lt_or_ge j rs.length with hlt | hge
  · rw [List.getElem?_append_left hlt] at hj
    obtain ⟨u', m1, m2⟩ := hold j r' hj
    exact ⟨u', by rw [List.getElem?_append_left (by omega)]; exact m1, m2.kept hg (own_ne m2 hv (by decide))⟩
  · rw [List.getElem?_append_right hge] at hj
    have hj0 : j - rs.length = 0 := by
      have := (List.getElem?_eq_some_iff.1 hj).1
      simp at this; omega
    rw [hj0] at hj
    simp at hj
    subst hj
    exact ⟨u, by rw [List.getElem?_append_right (by omega), show j - vs.length = 0 from by omega]; rfl, hu.kept hg (own_ne hu hv (by decide))⟩
theorem OwnRows.rdRows {W : World} {B : Nat} {v : Value} {rs : List (List Nat)} (h : OwnRows W B v rs) : ∃ a c, v = .slice a rs.length c ∧ RdRows W a rs := by
  obtain ⟨vs, h1, h2⟩ := h
  obtain ⟨a, c, hv, _, _, hr⟩ := ownsRow_rd h1
  refine ⟨a, c, hv, fun k r hk => ?_⟩
  obtain ⟨u, m1, m2⟩ := h2 k r hk
  obtain ⟨b, off, ha, hc⟩ := hr k u m1
  obtain ⟨a', c', hu, _, _, hr'⟩ := ownsRow_rd m2
  subst hu
  exact ⟨b, off, a', c', ha, hc, hr'⟩

theorem OwnRows.made (W : World) (B n : Nat) (f : Nat → List Nat) (hB : B ≤ W.heap.size) (hn : n ≤ 1000) : OwnRows (W.alloc (.cells (madeCells #[.slice none 0 0] n) 91)) B (.slice (some ⟨W.heap.size, 0, none⟩) n n) (partR n 0 f) := by
  have hs : (madeCells #[Value.slice none 0 0] n).toList = List.replicate n (Value.slice none 0 0) := toList_madeCells_one _ _
  have hsz : (madeCells #[Value.slice none 0 0] n).size = n * 1 := by
    have : (madeCells #[Value.slice none 0 0] n).toList.length = n := by rw [hs]; simp
    rw [Array.length_toList] at this
    omega
  refine ⟨List.replicate n (.slice none 0 0), ?_, ?_⟩
  · have := World.ownsRow_lit (base := B) (e := 91) (size := 1) W (madeCells #[Value.slice none 0 0] n) n hB (by unfold maxLen; omega) hsz
    rw [hs] at this
    rw [partR_length]
    exact this
  · intro j r hj
    have hl : j < n := by have := (List.getElem?_eq_some_iff.1 hj).1; rw [partR_length] at this; exact this
    have e : r = [] := by
      simp [partR, hl] at hj
      exact hj
    subst e
    exact ⟨.slice none 0 0, by simp [hl], World.ownsRow_nil _ _ _ _⟩
theorem OwnRows.store {W : World} {B g n cap : Nat} {rs : List (List Nat)} (h : OwnRows W B (.slice (some ⟨g, 0, none⟩) n cap) rs) (hn : rs.length = n) (k : Nat) (r : List Nat) (u : Value) (hu : W.ownsRow B 119 1 u r.length (u16V r)) : OwnRows (W.setCell ⟨g, k, none⟩ u) B (.slice (some ⟨g, 0, none⟩) n cap) (rs.set k r) := by
  obtain ⟨vs, h1, h2⟩ := h
  rw [hn] at h1
  obtain ⟨s1, s2⟩ := h1.stored k u
  have hl : vs.length = n := by have := h1.1; simpa using this
  have hgr : W.grownBy (W.setCell ⟨g, k, none⟩ u) (Value.slice (some ⟨g, 0, none⟩) n cap).ownBlock := s2
  refine ⟨vs.set k u, by rw [List.length_set, hn]; exact s1, ?_⟩
  intro j r' hj
  by_cases e : k = j
  · subst e
    have hk : k < rs.length := by have := (List.getElem?_eq_some_iff.1 hj).1; rw [List.length_set] at this; exact this
    simp [hk] at hj
    subst hj
    exact ⟨u, by simp [hl, ← hn, hk], hu.kept hgr (own_ne hu h1 (by decide))⟩
  · rw [List.getElem?_set_ne e] at hj
    obtain ⟨u', m1, m2⟩ := h2 j r' hj
    exact ⟨u', by rw [List.getElem?_set_ne e]; exact m1, m2.kept hgr (own_ne m2 h1 (by decide))⟩
theorem OwnRows.cell {W : World} {B g n cap : Nat} {rs : List (List Nat)} (h : OwnRows W B (.slice (some ⟨g, 0, none⟩) n cap) rs) (hn : rs.length = n) (k : Nat) (hk : k < n) : (∃ u, W.cell? ⟨g, k, none⟩ = some u) ∧ W.frozen? ⟨g, k, none⟩ = false := by
  obtain ⟨vs, h1, _⟩ := h
  rw [hn] at h1
  have hl : vs.length = n := by have := h1.1; simpa using this
  refine ⟨⟨vs[k]'(by omega), ?_⟩, h1.frozenAt k⟩
  rw [h1.cellAt k (by omega)]
  exact List.getElem?_eq_getElem _

def pointsL (n : Nat) : List Nat := List.range n
def extraL (rows : List (List Nat)) (width j : Nat) : List Nat := mixL rows (weightsL (pointsL rows.length) (scalesL (pointsL rows.length)) (rows.length + j)) width
def extrasL (rows : List (List Nat)) (width extra : Nat) : List (List Nat) := (List.range extra).map (extraL rows width)

theorem points_lt (n : Nat) (hn : n ≤ 1000) : ∀ x ∈ pointsL n, x < 65536 := by
  intro x hx
  have := List.mem_range.1 hx
  omega
theorem scales_lt (pts : List Nat) : ∀ x ∈ scalesL pts, x < 65536 := by
  intro x hx
  simp only [scalesL, List.mem_map] at hx
  obtain ⟨j, _, rfl⟩ := hx
  exact Math.inv_lt (diffL_lt pts j)
theorem weights_lt (pts ss : List Nat) (t : Nat) (hs : ∀ x ∈ ss, x < 65536) : ∀ x ∈ weightsL pts ss t, x < 65536 := by
  intro x hx
  simp only [weightsL, List.mem_map] at hx
  obtain ⟨j, _, rfl⟩ := hx
  exact Math.mul_lt (Math.mul_lt (getD_lt hs j) _) _

set_option maxRecDepth 100000 in
set_option maxHeartbeats 1000000 in
theorem extraRows_walk (rows : List (List Nat)) (width extra : Nat) (a : Option Addr) (cap : Nat) (hn : rows.length ≤ 100) (h0 : 0 < rows.length) (hwd : width ≤ 100) (hex : extra ≤ 100) (hr : ∀ r ∈ rows, r.length = width ∧ ∀ x ∈ r, x < 65536) (w : World) (hrd : RdRows w a rows) :
    Calls Tryd.prog 38 #[.slice a rows.length cap, .int .i64 (width : Int), .int .i64 (extra : Int)] w fun e w' => ∃ g, e = .returned (.slice (some ⟨g, 0, none⟩) extra extra) ∧ OwnRows w' w.heap.size (.slice (some ⟨g, 0, none⟩) extra extra) (extrasL rows width extra) ∧ Below w.heap.size w w' := by
  obtain ⟨i0, hi, hz0, hz1, hz2⟩ := info_parts Tryd.info16
  obtain ⟨i1, hj, hy0, hy1, hy2⟩ := info_parts Tryd.infoRow
  have hmk1 : ∀ W : World, (Instr.makeSlice 90 (.int .i64 (rows.length : Int)) (.int .i64 (rows.length : Int))).run Tryd.prog W = .ok (.slice (some ⟨W.heap.size, 0, none⟩) rows.length rows.length) (W.alloc (.cells (madeCells #[.int .u16 0] rows.length) 119)) :=
    fun W => run_make_row' 90 119 (.int .u16 0) 2 Tryd.underlying90 Tryd.info16 rfl .i64 .i64 rows.length (by omega) (by omega) W
  have hmk2 : ∀ W : World, (Instr.makeSlice 82 (.int .i64 (extra : Int)) (.int .i64 (extra : Int))).run Tryd.prog W = .ok (.slice (some ⟨W.heap.size, 0, none⟩) extra extra) (W.alloc (.cells (madeCells #[.slice none 0 0] extra) 91)) :=
    fun W => run_make_row' 82 91 (.slice none 0 0) 24 Tryd.underlying82 Tryd.infoRow rfl .i64 .i64 extra (by omega) (by omega) W
  have hfree0 := Free.made w rows.length
  have hbl0 : Below w.heap.size w (w.alloc (.cells (madeCells #[.int .u16 0] rows.length) 119)) := (Below.refl _ _).alloc (Nat.le_refl _) _
  have hz : List.replicate rows.length 0 = partL rows.length 0 (fun j => j) (fun _ => 0) := by
    rw [partL_zero]
    apply List.ext_getElem
    · simp
    · intro j h1 h2; simp
  rw [hz] at hfree0
  have H1 := hid_of hfree0
  have H2 := hid_of hbl0
  clear hfree0 hbl0 hz
  go_enter Tryd.func38, Tryd.ntmps38
  go_wp2_with fail
  go_loopw [8, 17] (fun _ i wr => ∃ k : Nat, k ≤ rows.length ∧ i = .int .i64 (k : Int) ∧ Free wr w.heap.size (partL rows.length k (fun j => j) (fun _ => 0)) ∧ Below w.heap.size w wr)
    (fun _ i _ => rows.length - (intOf i).toNat)
  case atStart => exact ⟨0, by omega, rfl, H1.out, H2.out⟩
  case round =>
    clear H1 H2
    obtain ⟨k, hk, rfl, hfree, hbl⟩ := hrel
    by_cases hlt : k < rows.length
    · have hcs := (hfree k (by rw [partL_length]; exact hlt)).1
      have hcf := (hfree k (by rw [partL_length]; exact hlt)).2
      have hst := hfree.store k k (by rw [partL_length]; exact hlt)
      have hup := partL_up rows.length k (fun j => j) (fun _ => 0)
      rw [hup] at hst
      have hB := hbl.setCell (p := ⟨w.heap.size, k, none⟩) (Nat.le_refl _) (.int .u16 (k : Int))
      have H1 := hid_of hst
      have H2 := hid_of hB
      obtain ⟨zk, hzk⟩ : ∃ x, x = (partL rows.length k (fun j => j) (fun _ => 0)).getD k 0 := ⟨_, rfl⟩
      rw [← hzk] at hcs
      clear hst hB hfree hup hzk
      go_wp2_with fail
      go_roundw
      case rel => exact ⟨k + 1, by omega, by go_num, H1.out, H2.out⟩
      case measure => simp [intOf]; omega
    · obtain rfl : k = rows.length := by omega
      have hpt : partL rows.length rows.length (fun j => j) (fun _ => 0) = pointsL rows.length := by rw [partL_full]; simp [pointsL]
      rw [hpt] at hfree
      have hrdp := hfree.rd
      have hpl : (pointsL rows.length).length = rows.length := by simp [pointsL]
      have HP := hid_of hrdp
      have HL := hid_of hpl
      clear hfree hrdp hpt hpl
      have hT := Through_walk (pointsL rows.length) (some ⟨w.heap.size, 0, none⟩) rows.length (by rw [HL.out]; omega) (by rw [HL.out]; exact h0) (points_lt _ (by omega)) wr HP.out
      rw [HL.out] at hT
      have HT := hid_of hT
      clear hT
      go_wp2_with fail
      refine HT.out.mono ?_
      rintro e w1 ⟨a1, c1, a2, c2, rfl, hp1, hp2, hb1⟩
      have hbw := Below.next hbl hb1
      have hf0 := OwnRows.made (w1.alloc (.cells #[.slice a1 rows.length c1, .slice a2 rows.length c2] 121)) w.heap.size extra (extraL rows width) (by have := hbw.size; simp; omega) (by omega)
      rw [World.size_alloc] at hf0
      have hq1 := hp1.alloc (.cells #[.slice a1 rows.length c1, .slice a2 rows.length c2] 121)
      have hq2 := hp2.alloc (.cells #[.slice a1 rows.length c1, .slice a2 rows.length c2] 121)
      have hq3 := Pair.new w1 (.slice a1 rows.length c1) (.slice a2 rows.length c2) 121
      have hq4 : Below w.heap.size w (w1.alloc (.cells #[.slice a1 rows.length c1, .slice a2 rows.length c2] 121)) := hbw.alloc hbw.size _
      obtain ⟨Wm, hWm⟩ : ∃ W, W = w1.alloc (.cells #[.slice a1 rows.length c1, .slice a2 rows.length c2] 121) := ⟨_, rfl⟩
      rw [← hWm] at hf0 hq1 hq2 hq3 hq4
      have hsm : Wm.heap.size = w1.heap.size + 1 := by rw [hWm]; simp
      have hb0 : Below (w1.heap.size + 1) Wm (Wm.alloc (.cells (madeCells #[.slice none 0 0] extra) 91)) := (Below.refl _ _).alloc (by omega) _
      have H0 := hid_of hf0
      have H1 := hid_of hq1
      have H2 := hid_of hq2
      have H3 := hid_of hq3
      have H4 := hid_of hq4
      have H5 := hid_of hWm
      have H6 := hid_of hsm
      have H7 := hid_of hb0
      have H8 := hid_of hrd
      have H9 := hid_of hr
      clear hf0 hq1 hq2 hq3 hq4 hWm hsm hb0 hrd hp1 hp2 hb1 hr HP HT hbl
      go_wp2_with fail
      rw [← H5.out]
      go_loopw [11, 32] (fun _ i wr => ∃ k : Nat, k ≤ extra ∧ i = .int .i64 (k : Int) ∧ OwnRows wr w.heap.size (.slice (some ⟨w1.heap.size + 1, 0, none⟩) extra extra) (partR extra k (extraL rows width)) ∧ Below (w1.heap.size + 1) Wm wr)
        (fun _ i _ => extra - (intOf i).toNat)
      case atStart => exact ⟨0, by omega, rfl, H0.out, H7.out⟩
      case round =>
        clear H0 H7
        obtain ⟨k, hk, rfl, hfree, hbl⟩ := hrel
        have hsz := hbl.size
        rw [H6.out] at hsz
        by_cases hlt : k < extra
        · have hb3 := H3.out
          have hx0 : wr.cell? ⟨w1.heap.size, 0, none⟩ = some (.slice a1 rows.length c1) := by rw [hbl.cell (by simp)]; exact hb3.1
          have hx1 : wr.cell? ⟨w1.heap.size, 1, none⟩ = some (.slice a2 rows.length c2) := by rw [hbl.cell (by simp)]; exact hb3.2
          have hr1 : Rd wr a1 (u16V (pointsL rows.length)) := H1.out.later (by rw [H6.out]; exact Nat.le_refl _) hbl
          have hr2 : Rd wr a2 (u16V (scalesL (pointsL rows.length))) := H2.out.later (by rw [H6.out]; exact Nat.le_refl _) hbl
          have hww : Below w.heap.size w wr := H4.out.trans (hbl.mono (by have := hbw.size; omega))
          have hr3 : RdRows wr a rows := H8.out.later (Nat.le_refl _) hww
          have hW := Weights_walk (pointsL rows.length) (scalesL (pointsL rows.length)) (rows.length + k) a1 a2 c1 c2 (by rw [HL.out]; omega) (by rw [HL.out]; exact h0) (by simp [scalesL]) (points_lt _ (by omega)) (scales_lt _) (by omega) wr hr1 hr2
          rw [HL.out] at hW
          have HW := hid_of hW
          have HF := hid_of hfree
          have HB := hid_of hbl
          have HR3 := hid_of hr3
          have HWW := hid_of hww
          obtain ⟨⟨xu, hcell⟩, hfz⟩ := hfree.cell (partR_length _ _ _) k hlt
          clear hW hfree hr1 hr2 hr3 hww hb3
          go_wp2_with fail
          rw [show ((rows.length : Int) + (k : Int)) = ((rows.length + k : Nat) : Int) from by omega]
          refine HW.out.mono ?_
          rintro e w2 ⟨v2, rfl, hown2, hb2⟩
          obtain ⟨a4, c4, rfl, _, _, hr4⟩ := ownsRow_rd hown2
          have hr3 := HR3.out.later (Nat.le_refl _) hb2
          have hM := Mix_walk rows (weightsL (pointsL rows.length) (scalesL (pointsL rows.length)) (rows.length + k)) width a a4 cap c4 (by omega) (by simp [weightsL, HL.out]) (by omega) H9.out (weights_lt _ _ _ (scales_lt _)) w2 hr3 hr4
          have HM := hid_of hM
          have HB2 := hid_of hb2
          clear hM hown2 hr4 hr3 hb2
          go_wp2_with fail
          refine HM.out.mono ?_
          rintro e w3 ⟨v3, rfl, hown3, hb3⟩
          obtain ⟨a5, c5, rfl, _, _, hr5⟩ := ownsRow_rd hown3
          have hb23 := Below.next HB2.out hb3
          have hfree3 := HF.out.later hb23
          have hel : (extraL rows width k).length = width := by simp [extraL, mixL]
          have hown3' := ownsRow_base (base' := w.heap.size) (by have := hbw.size; have := HB2.out.size; omega) hown3
          have hown3'' : w3.ownsRow w.heap.size 119 1 (.slice a5 width c5) (extraL rows width k).length (u16V (extraL rows width k)) := by rw [hel]; exact hown3'
          have hst := hfree3.store (partR_length _ _ _) k (extraL rows width k) _ hown3''
          rw [partR_up] at hst
          have hb4 : Below (w1.heap.size + 1) Wm w3 := HB.out.trans (hb23.mono (by omega))
          have hb5 := hb4.setCell (p := ⟨w1.heap.size + 1, k, none⟩) (Nat.le_refl _) (.slice a5 width c5)
          have hgl : w1.heap.size + 1 < wr.heap.size := World.block_lt_of_cell? wr _ hcell
          have hcell3 : w3.cell? ⟨w1.heap.size + 1, k, none⟩ = some xu := by rw [hb23.cell hgl]; exact hcell
          have hfz3 : w3.frozen? ⟨w1.heap.size + 1, k, none⟩ = false := by rw [hb23.frozen hgl]; exact hfz
          have K1 := hid_of hst
          have K2 := hid_of hb5
          clear hst hb5 hb4 hfree3 hown3 hown3' hown3'' hr5 hb23 hb3 hel hcell hfz HF HB HM HB2 HW
          go_wp2_with fail
          go_roundw
          case rel => exact ⟨k + 1, by omega, by go_num, K1.out, K2.out⟩
          case measure => simp [intOf]; omega
        · obtain rfl : k = extra := by omega
          rw [partR_full] at hfree
          have hres := hfree
          clear hfree
          have hww : Below w.heap.size w wr := H4.out.trans (hbl.mono (by have := hbw.size; omega))
          go_wp2_with fail
          go_ret
          exact ⟨_, rfl, hres, hww⟩
end Go.Proofs.YtonjphollmdicaaDoor
namespace Go.Proofs.YtonjphollmdicaaDoor
open Go.ChangeShapes Go.WideShapes Go.ChangeAt Go.RowKit

def sliceSize (n : Int) : Bool := decide (2 ≤ n ∧ n ≤ 32 ∧ n % 2 = 0)

theorem IsSliceSize_walk (n : Int) (w : World) :
    Calls Tryd.prog 16 #[.int .i64 n] w fun e w' => e = .returned (.bool (sliceSize n)) ∧ w' = w := by
  by_cases h1 : 2 ≤ n
  · by_cases h2 : n ≤ 32
    · have e : n.tmod 2 = n % 2 := Int.tmod_eq_emod_of_nonneg (by omega)
      go_enter Tryd.func16, Tryd.ntmps16
      go_wp2
      go_ret
      refine ⟨?_, rfl⟩
      show Ending.returned (.bool (n % 2 == 0)) = _
      have e2 : (n % 2 == 0) = sliceSize n := by
        unfold sliceSize
        by_cases h3 : n % 2 = 0
        · simp [h1, h2, h3]
        · simp [h3]
      rw [e2]
    · go_enter Tryd.func16, Tryd.ntmps16
      go_wp2
      go_ret
      refine ⟨?_, rfl⟩
      have e2 : sliceSize n = false := by unfold sliceSize; exact decide_eq_false (by omega)
      rw [e2]
      rfl
  · go_enter Tryd.func16, Tryd.ntmps16
    go_wp2
    go_ret
    refine ⟨?_, rfl⟩
    have e2 : sliceSize n = false := by unfold sliceSize; exact decide_eq_false (by omega)
    rw [e2]
    rfl

def slicesOfN (len size : Nat) : Nat := (len + size - 1) / size

theorem slicesOf_walk (len size : Nat) (h1 : len ≤ 1000000) (h2 : 0 < size) (h3 : size ≤ 1000) (w : World) :
    Calls Tryd.prog 32 #[.int .i64 (len : Int), .int .i64 (size : Int)] w fun e w' => e = .returned (.int .i64 ((slicesOfN len size : Nat) : Int)) ∧ w' = w := by
  go_enter Tryd.func32, Tryd.ntmps32
  go_wp2
  go_ret
  refine ⟨?_, rfl⟩
  have e : ((len : Int) + (size : Int) - 1) / (size : Int) = ((slicesOfN len size : Nat) : Int) := by
    unfold slicesOfN
    rw [Int.natCast_ediv]
    congr 1
    omega
  show Ending.returned (.int .i64 (((len : Int) + (size : Int) - 1) / (size : Int))) = _
  rw [e]

abbrev FileL := List UInt8 × List UInt8
def filesV (fs : List FileL) : List Value := fs.flatMap fun f => [Value.string (str f.1), Value.string (str f.2)]
def fitsL (f : FileL) : Bool := decide (1 ≤ f.1.length ∧ f.1.length ≤ 20 ∧ f.2.length ≤ 400)

theorem filesV_length (fs : List FileL) : (filesV fs).length = 2 * fs.length := by
  induction fs with
  | nil => rfl
  | cons f fs ih => simp [filesV] at ih ⊢; omega
theorem filesV_get (fs : List FileL) (k : Nat) (h : k < fs.length) : (filesV fs)[2 * k]? = some (.string (str fs[k].1)) ∧ (filesV fs)[2 * k + 1]? = some (.string (str fs[k].2)) := by
  induction fs generalizing k with
  | nil => simp at h
  | cons f fs ih =>
    cases k with
    | zero => simp [filesV]
    | succ k =>
      have := ih k (by simpa using h)
      have e : 2 * (k + 1) = 2 * k + 1 + 1 := by omega
      simp only [filesV, List.flatMap_cons, List.cons_append, List.nil_append, e, List.getElem?_cons_succ, List.getElem_cons_succ] at this ⊢
      exact this

set_option maxRecDepth 100000 in
theorem fits_walk (f : FileL) (h1 : f.1.length < 140737488355328) (h2 : f.2.length < 140737488355328) (w : World) :
    Calls Tryd.prog 30 #[.agg #[.string (str f.1), .string (str f.2)]] w fun e w' => e = .returned (.bool (fitsL f)) ∧ Below w.heap.size w w' := by
  have s1 := str_size f.1
  have s2 := str_size f.2
  go_enter Tryd.func30, Tryd.ntmps30
  go_wp2
  · go_ret
    refine ⟨?_, (Below.refl _ _).alloc (Nat.le_refl _) _⟩
    have e : fitsL f = decide ((f.2.length : Int) ≤ 400) := by
      unfold fitsL
      apply decide_eq_decide.2
      omega
    rw [e]
    rfl
  · go_ret
    refine ⟨?_, (Below.refl _ _).alloc (Nat.le_refl _) _⟩
    have e : fitsL f = false := by unfold fitsL; exact decide_eq_false (by omega)
    rw [e]
    rfl
  · go_ret
    refine ⟨?_, (Below.refl _ _).alloc (Nat.le_refl _) _⟩
    have e : fitsL f = false := by unfold fitsL; exact decide_eq_false (by omega)
    rw [e]
    rfl

theorem str_toList (l : List UInt8) : (str l).toList = l := by rw [ByteArray.toList_eq, str_data]

def hasNameL (fs : List FileL) (name : List UInt8) : Bool := fs.any fun f => f.1 == name

theorem fileCells {w wr : World} {a : Option Addr} {fs : List FileL} (h : Rd w a (filesV fs)) {B : Nat} (hB : w.heap.size ≤ B) (hb : Below B w wr) (k : Nat) (hk : k < fs.length) :
    ∃ b off, a = some ⟨b, off, none⟩ ∧ wr.cell? ⟨b, off + k * 2, none⟩ = some (.string (str fs[k].1)) ∧ wr.cell? ⟨b, off + k * 2 + 1, none⟩ = some (.string (str fs[k].2)) := by
  have h' := h.later hB hb
  obtain ⟨g1, g2⟩ := filesV_get fs k hk
  obtain ⟨b, off, rfl, hc⟩ := h' _ _ g1
  obtain ⟨b', off', e, hc'⟩ := h' _ _ g2
  cases e
  refine ⟨b, off, rfl, ?_, ?_⟩
  · rw [Nat.mul_comm k 2]; exact hc
  · rw [Nat.mul_comm k 2]; exact hc'

set_option maxRecDepth 100000 in
theorem hasName_walk (fs : List FileL) (name : List UInt8) (a : Option Addr) (cap : Nat) (hn : fs.length ≤ 1000) (w : World) (hrd : Rd w a (filesV fs)) :
    Calls Tryd.prog 31 #[.slice a fs.length cap, .string (str name)] w fun e w' => e = .returned (.bool (hasNameL fs name)) ∧ Below w.heap.size w w' := by
  go_enter Tryd.func31, Tryd.ntmps31
  go_wp2
  go_loopw [6, 9] (fun _ i wr => ∃ k : Nat, k ≤ fs.length ∧ i = .int .i64 (k : Int) ∧ Below w.heap.size w wr ∧ Hid (hasNameL (fs.drop k) name = hasNameL fs name))
    (fun _ i _ => fs.length - (intOf i).toNat)
  case atStart => exact ⟨0, by omega, rfl, Below.refl _ _, hid_of rfl⟩
  case round =>
    obtain ⟨k, hk, rfl, hbl, hd⟩ := hrel
    have hsz := hbl.size
    by_cases hlt : k < fs.length
    · obtain ⟨b, off, rfl, hc1, hc2⟩ := fileCells hrd (Nat.le_refl _) hbl k hlt
      have hdk : hasNameL (fs.drop k) name = (fs[k].1 == name || hasNameL (fs.drop (k + 1)) name) := by
        rw [List.drop_eq_getElem_cons hlt]; rfl
      have HD := hid_of hdk
      clear hdk
      go_wp2
      · go_ret
        have he : ((str fs[k].1).toList == (str name).toList) = true := by assumption
        rw [str_toList, str_toList] at he
        have := hd.out
        rw [HD.out, he] at this
        refine ⟨?_, hbl.alloc hsz _⟩
        rw [← this]
        rfl
      · have he : ((str fs[k].1).toList == (str name).toList) = false := by assumption
        rw [str_toList, str_toList] at he
        have := hd.out
        rw [HD.out, he] at this
        exact ⟨⟨k + 1, by omega, by go_num, hbl.alloc hsz _, hid_of (by simpa using this)⟩, by simp [intOf]; omega⟩
    · obtain rfl : k = fs.length := by omega
      go_wp2
      go_ret
      have := hd.out
      rw [List.drop_length] at this
      exact ⟨by rw [← this]; rfl, hbl⟩

def countL (fs : List FileL) (size : Nat) : Nat := (fs.map fun f => slicesOfN f.2.length size).sum

theorem slicesOfN_le (len size : Nat) (h : 0 < size) : slicesOfN len size ≤ len := by
  unfold slicesOfN
  rcases Nat.eq_zero_or_pos len with h0 | h0
  · subst h0
    rw [Nat.div_eq_of_lt (by omega)]
    exact Nat.le_refl _
  · calc (len + size - 1) / size ≤ (len * size) / size := Nat.div_le_div_right (by
          have h1 : len * size = (len - 1) * size + size := by rw [← Nat.succ_mul]; congr 1; omega
          have h2 : (len - 1) * 1 ≤ (len - 1) * size := Nat.mul_le_mul_left _ h
          omega)
      _ = len := Nat.mul_div_cancel _ h

set_option maxRecDepth 100000 in
theorem CountSlices_walk (fs : List FileL) (size : Nat) (a : Option Addr) (cap : Nat) (hs : 0 < size) (hs2 : size ≤ 32) (hn : fs.length ≤ 6) (hl : ∀ f ∈ fs, f.2.length ≤ 400) (w : World) (hrd : Rd w a (filesV fs)) :
    Calls Tryd.prog 18 #[.slice a fs.length cap, .int .i64 (size : Int)] w fun e w' => e = .returned (.int .i64 ((countL fs size : Nat) : Int)) ∧ Below w.heap.size w w' := by
  go_enter Tryd.func18, Tryd.ntmps18
  go_wp2
  go_loopw [5, 7, 10] (fun c _ i wr => ∃ k c' : Nat, k ≤ fs.length ∧ c' ≤ 400 * k ∧ c = .int .i64 (c' : Int) ∧ i = .int .i64 (k : Int) ∧ Below w.heap.size w wr ∧ Hid (c' + countL (fs.drop k) size = countL fs size))
    (fun _ _ i _ => fs.length - (intOf i).toNat)
  case atStart => exact ⟨0, 0, by omega, by omega, rfl, rfl, Below.refl _ _, hid_of (by simp)⟩
  case round =>
    obtain ⟨k, c', hk, hc', rfl, rfl, hbl, hd⟩ := hrel
    have hsz := hbl.size
    by_cases hlt : k < fs.length
    · obtain ⟨b, off, rfl, hc1, hc2⟩ := fileCells hrd (Nat.le_refl _) hbl k hlt
      have hdk : countL (fs.drop k) size = slicesOfN fs[k].2.length size + countL (fs.drop (k + 1)) size := by
        rw [List.drop_eq_getElem_cons hlt]; unfold countL; rw [List.map_cons, List.sum_cons]
      have hlk := hl fs[k] (List.getElem_mem hlt)
      have hle := slicesOfN_le fs[k].2.length size hs
      have hsz2 : (str fs[k].2).size = fs[k].2.length := str_size _
      have HD := hid_of hdk
      clear hdk
      go_wp2_with fail
      refine (slicesOf_walk fs[k].2.length size (by omega) hs (by omega) _).mono ?_
      rintro e w1 ⟨rfl, rfl⟩
      go_wp2_with fail
      have := hd.out
      rw [HD.out] at this
      exact ⟨⟨k + 1, c' + slicesOfN fs[k].2.length size, by omega, by omega, by go_num, by go_num, hbl.alloc hsz _, hid_of (by omega)⟩, by simp [intOf]; omega⟩
    · obtain rfl : k = fs.length := by omega
      go_wp2
      go_ret
      have := hd.out
      rw [List.drop_length] at this
      simp only [countL, List.map_nil, List.sum_nil, Nat.add_zero] at this
      exact ⟨by rw [this]; rfl, hbl⟩

def okAt (fs : List FileL) (i : Nat) : Bool := match fs[i]? with
  | some f => fitsL f && !hasNameL (fs.take i) f.1
  | none => true
def isSetL (fs : List FileL) : Bool := decide (1 ≤ fs.length ∧ fs.length ≤ 6) && (List.range fs.length).all (okAt fs)

theorem filesV_take (fs : List FileL) (k : Nat) : filesV (fs.take k) = (filesV fs).take (2 * k) := by
  induction fs generalizing k with
  | nil => simp [filesV]
  | cons f fs ih =>
    cases k with
    | zero => simp [filesV]
    | succ k =>
      have := ih k
      have e : 2 * (k + 1) = 2 * k + 1 + 1 := by omega
      simp only [filesV, List.take_succ_cons, List.flatMap_cons, List.cons_append, List.nil_append, e] at this ⊢
      rw [this]

theorem Rd.take {w : World} {a : Option Addr} {xs : List Value} (h : Rd w a xs) (k : Nat) : Rd w a (xs.take k) := by
  intro j u hj
  apply h j u
  rw [List.getElem?_take] at hj
  split at hj
  · exact hj
  · cases hj

set_option maxRecDepth 100000 in
set_option maxHeartbeats 4000000 in
theorem IsSet_walk (fs : List FileL) (a : Option Addr) (cap : Nat) (hcap : fs.length ≤ cap) (hl : ∀ f ∈ fs, f.1.length < 140737488355328 ∧ f.2.length < 140737488355328) (w : World) (hrd : Rd w a (filesV fs)) :
    Calls Tryd.prog 17 #[.slice a fs.length cap] w fun e w' => e = .returned (.bool (isSetL fs)) ∧ Below w.heap.size w w' := by
  by_cases h1 : fs.length < 1
  · have e : isSetL fs = false := by unfold isSetL; rw [decide_eq_false (by omega)]; rfl
    go_enter Tryd.func17, Tryd.ntmps17
    go_wp2
    go_ret
    exact ⟨by first | rfl | (rw [e]; rfl), Below.refl _ _⟩
  · by_cases h2 : 6 < fs.length
    · have e : isSetL fs = false := by unfold isSetL; rw [decide_eq_false (by omega)]; rfl
      go_enter Tryd.func17, Tryd.ntmps17
      go_wp2
      go_ret
      exact ⟨by first | rfl | (rw [e]; rfl), Below.refl _ _⟩
    · go_enter Tryd.func17, Tryd.ntmps17
      go_wp2
      go_loopw [3, 4, 15] (fun _ _ i wr => ∃ k : Nat, k ≤ fs.length ∧ i = .int .i64 (k : Int) ∧ Below w.heap.size w wr ∧ Hid (∀ j, j < k → okAt fs j = true))
        (fun _ _ i _ => fs.length - (intOf i).toNat)
      case atStart => exact ⟨0, by omega, rfl, Below.refl _ _, hid_of (by intro j hj; omega)⟩
      case round =>
        obtain ⟨k, hk, rfl, hbl, hd⟩ := hrel
        have hsz := hbl.size
        by_cases hlt : k < fs.length
        · obtain ⟨b, off, rfl, hc1, hc2⟩ := fileCells hrd (Nat.le_refl _) hbl k hlt
          have hf := hl fs[k] (List.getElem_mem hlt)
          have hok : okAt fs k = (fitsL fs[k] && !hasNameL (fs.take k) fs[k].1) := by unfold okAt; rw [List.getElem?_eq_getElem hlt]
          have HOK := hid_of hok
          clear hok
          have hN : ∀ W, Rd W (some ⟨b, off, none⟩) (filesV (fs.take k)) → Calls Tryd.prog 31 #[.slice (some ⟨b, off, none⟩) k cap, .string (str fs[k].1)] W fun e w' => e = .returned (.bool (hasNameL (fs.take k) fs[k].1)) ∧ Below W.heap.size W w' := by
            intro W hW
            have := hasName_walk (fs.take k) fs[k].1 (some ⟨b, off, none⟩) cap (by rw [List.length_take]; omega) W hW
            rw [List.length_take, Nat.min_eq_left (by omega)] at this
            exact this
          have HN := hid_of hN
          have hR : ∀ W, Below w.heap.size w W → Rd W (some ⟨b, off, none⟩) (filesV (fs.take k)) := by
            intro W hW
            rw [filesV_take]
            exact (hrd.later (Nat.le_refl _) hW).take _
          have HR := hid_of hR
          have HRD := hid_of hrd
          have HOKB := hid_of hd
          clear hN hR hrd
          have hbad : okAt fs k = false → isSetL fs = false := by
            intro h
            unfold isSetL
            rw [Bool.and_eq_false_iff]
            right
            rw [List.all_eq_false]
            exact ⟨k, by simpa using hlt, by simp [h]⟩
          have HBAD := hid_of hbad
          have hnext : okAt fs k = true → ∀ j, j < k + 1 → okAt fs j = true := by
            intro h j hj
            rcases Nat.lt_or_ge j k with h' | h'
            · exact hd.out j h'
            · have : j = k := by omega
              subst this
              exact h
          have HNEXT := hid_of hnext
          clear hbad hnext
          by_cases hfit : fitsL fs[k] = true
          · by_cases hh : hasNameL (fs.take k) fs[k].1 = true
            · go_wp2_with fail
              go_region_with (first
                | (go_at_call 30; refine (fits_walk fs[k] hf.1 hf.2 _).mono ?_; rintro e w1 ⟨rfl, hb1⟩; have hc3 : w1.cell? ⟨wr.heap.size, 0, none⟩ = some (.string (str fs[k].1)) := by (rw [hb1.cell (by simp)]; simp))
                | (go_at_call 31; refine (HN.out _ ?_).mono ?_; exact HR.out _ (Below.next (hbl.alloc hsz _).drew hb1); rintro e w2 ⟨rfl, hb2⟩))
              all_goals
                go_wp2_with fail
                go_ret
                refine ⟨?_, Below.next (Below.next (hbl.alloc hsz _).drew hb1) hb2⟩
                have e1 := HBAD.out (by rw [HOK.out, hfit, hh]; rfl)
                rw [e1]
                rfl
            · have hh' : hasNameL (fs.take k) fs[k].1 = false := by simpa using hh
              clear hh
              go_wp2_with fail
              go_region_with (first
                | (go_at_call 30; refine (fits_walk fs[k] hf.1 hf.2 _).mono ?_; rintro e w1 ⟨rfl, hb1⟩; have hc3 : w1.cell? ⟨wr.heap.size, 0, none⟩ = some (.string (str fs[k].1)) := by (rw [hb1.cell (by simp)]; simp))
                | (go_at_call 31; refine (HN.out _ ?_).mono ?_; exact HR.out _ (Below.next (hbl.alloc hsz _).drew hb1); rintro e w2 ⟨rfl, hb2⟩))
              all_goals
                go_wp2_with fail
                go_roundw
                case rel => exact ⟨k + 1, by omega, by go_num, Below.next (Below.next (hbl.alloc hsz _).drew hb1) hb2, hid_of (HNEXT.out (by rw [HOK.out, hfit, hh']; rfl))⟩
                case measure => simp [intOf]; omega
          · have hfit' : fitsL fs[k] = false := by simpa using hfit
            clear hfit
            go_wp2_with fail
            first
              | (go_region_with (go_at_call 30; refine (fits_walk fs[k] hf.1 hf.2 _).mono ?_; rintro e w1 ⟨rfl, hb1⟩))
              | fail
            all_goals
              go_wp2_with fail
              go_ret
              refine ⟨?_, Below.next (hbl.alloc hsz _).drew hb1⟩
              have e1 := HBAD.out (by rw [HOK.out, hfit']; rfl)
              rw [e1]
              rfl
        · obtain rfl : k = fs.length := by omega
          have e : isSetL fs = true := by
            unfold isSetL
            rw [decide_eq_true (by omega), Bool.true_and, List.all_eq_true]
            intro j hj
            exact hd.out j (by simpa using hj)
          go_wp2
          go_ret
          exact ⟨by rw [e]; rfl, hbl⟩
end Go.Proofs.YtonjphollmdicaaDoor
namespace Go.Proofs
open Go.Shelf
def Tryd.lays105_ren : Go.Shelf.Ren := ⟨fun | 105 => 45 | 212 => 57 | 99 => 58 | 165 => 59 | 166 => 60 | 170 => 61 | 169 => 62 | 263 => 70 | 264 => 71 | 206 => 72 | 240 => 73 | 241 => 74 | 276 => 87 | 277 => 88 | n => n, fun | 9 => 9 | 3 => 3 | 4 => 4 | 20 => 20 | 0 => 0 | 46 => 125 | 109 => 130 | 5 => 5 | 72 => 135 | 76 => 139 | 51 => 150 | 146 => 151 | 53 => 60 | 148 => 153 | 70 => 133 | 37 => 39 | 75 => 138 | 127 => 155 | 164 => 168 | 80 => 93 | n => n, fun | n => n⟩
theorem Tryd.lays105 : Go.Proofs.Lays.n105 Tryd.prog Tryd.lays105_ren := {
  mixed := by kernel_rfl
  f99 := Tryd.func58.trans (congrArg some (by kernel_rfl))
  f105 := Tryd.func45.trans (congrArg some (by kernel_rfl))
  f165 := Tryd.func59.trans (congrArg some (by kernel_rfl))
  f166 := Tryd.func60.trans (congrArg some (by kernel_rfl))
  f169 := Tryd.func62.trans (congrArg some (by kernel_rfl))
  f170 := Tryd.func61.trans (congrArg some (by kernel_rfl))
  f206 := Tryd.func72.trans (congrArg some (by kernel_rfl))
  f212 := Tryd.func57.trans (congrArg some (by kernel_rfl))
  f240 := Tryd.func73.trans (congrArg some (by kernel_rfl))
  f241 := Tryd.func74.trans (congrArg some (by kernel_rfl))
  f263 := Tryd.func70.trans (congrArg some (by kernel_rfl))
  f264 := Tryd.func71.trans (congrArg some (by kernel_rfl))
  f276 := Tryd.func87.trans (congrArg some (by kernel_rfl))
  f277 := Tryd.func88.trans (congrArg some (by kernel_rfl))
  t0 := Tryd.underlying0
  a0 := Tryd.isAgg0
  z0 := Tryd.sizeOf0
  v0 := Tryd.zeroValue0
  t3 := Tryd.underlying3
  a3 := Tryd.isAgg3
  z3 := Tryd.sizeOf3
  v3 := Tryd.zeroValue3
  t4 := Tryd.underlying4
  a4 := Tryd.isAgg4
  z4 := Tryd.sizeOf4
  v4 := Tryd.zeroValue4
  t5 := Tryd.underlying5
  a5 := Tryd.isAgg5
  z5 := Tryd.sizeOf5
  v5 := Tryd.zeroValue5
  t9 := Tryd.underlying9
  a9 := Tryd.isAgg9
  z9 := Tryd.sizeOf9
  v9 := Tryd.zeroValue9
  t20 := Tryd.underlying20
  a20 := Tryd.isAgg20
  z20 := Tryd.sizeOf20
  v20 := Tryd.zeroValue20
  t37 := Tryd.underlying39
  a37 := Tryd.isAgg39
  z37 := Tryd.sizeOf39
  v37 := Tryd.zeroValue39
  t46 := Tryd.underlying125
  a46 := Tryd.isAgg125
  z46 := Tryd.sizeOf125
  v46 := Tryd.zeroValue125
  t51 := Tryd.underlying150
  a51 := Tryd.isAgg150
  z51 := Tryd.sizeOf150
  v51 := Tryd.zeroValue150
  t53 := Tryd.underlying60
  a53 := Tryd.isAgg60
  z53 := Tryd.sizeOf60
  v53 := Tryd.zeroValue60
  t70 := Tryd.underlying133
  a70 := Tryd.isAgg133
  z70 := Tryd.sizeOf133
  v70 := Tryd.zeroValue133
  t72 := Tryd.underlying135
  a72 := Tryd.isAgg135
  z72 := Tryd.sizeOf135
  v72 := Tryd.zeroValue135
  t75 := Tryd.underlying138
  a75 := Tryd.isAgg138
  z75 := Tryd.sizeOf138
  v75 := Tryd.zeroValue138
  t76 := Tryd.underlying139
  a76 := Tryd.isAgg139
  z76 := Tryd.sizeOf139
  v76 := Tryd.zeroValue139
  t109 := Tryd.underlying130
  a109 := Tryd.isAgg130
  z109 := Tryd.sizeOf130
  v109 := Tryd.zeroValue130
  t127 := Tryd.underlying155
  a127 := Tryd.isAgg155
  z127 := Tryd.sizeOf155
  v127 := Tryd.zeroValue155
  t146 := Tryd.underlying151
  a146 := Tryd.isAgg151
  z146 := Tryd.sizeOf151
  v146 := Tryd.zeroValue151
  t148 := Tryd.underlying153
  a148 := Tryd.isAgg153
  z148 := Tryd.sizeOf153
  v148 := Tryd.zeroValue153
  t164 := Tryd.underlying168
  a164 := Tryd.isAgg168
  z164 := Tryd.sizeOf168
  v164 := Tryd.zeroValue168 }
theorem Tryd.Builder_Extra_105 : Builder.Extra Tryd.prog Tryd.lays105_ren := {
  sizeBuilder := by kernel_rfl
  liesBuilder := by kernel_rfl
  t5 := Tryd.underlying5
  a5 := Tryd.isAgg5
  z5 := Tryd.sizeOf5
  v5 := Tryd.zeroValue5
  infoByte := by kernel_rfl
  cellsByte := by kernel_rfl
  sizeByte := by kernel_rfl
  neB5 := by decide }
open Go.RowKit Go.Lib in
/-- **strings.Repeat: count ≥ 0, the result within one allocation: count copies of s.** (LAID: no walk: one application.) -/
theorem Tryd.strings_Repeat (s : ByteArray) (c : Nat) (w : World) (hc : c ≤ 9223372036854775807) (hlen : s.size * c ≤ 140737488355328) :
    Calls Tryd.prog 45 #[.string s, .int .i64 c] w fun e w' => e = .returned (.string ⟨(Lib.repeatL s.data.toList c).toArray⟩) ∧ Below w.heap.size w w' := Any.strings_Repeat Tryd.lays105 Tryd.Builder_Extra_105 s c w hc hlen
end Go.Proofs
