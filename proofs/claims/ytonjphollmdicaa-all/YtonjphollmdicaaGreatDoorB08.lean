import Derived.Test.YtonjphollmdicaaGreatDoorB03
import Derived.Test.YtonjphollmdicaaGreatDoorB06
import Derived.Test.YtonjphollmdicaaGreatDoorB07
set_option maxRecDepth 100000
set_option maxHeartbeats 4000000
set_option linter.unusedSimpArgs false
namespace Go.Proofs.YtonjphollmdicaaGreatDoor
open Go.ChangeShapes Go.WideShapes Go.ChangeAt Go.RowKit
theorem Tryz.infoRow : (Tryz.prog.info? 167).map (fun i => (i.zero, i.size, i.bytes)) = some (some (.slice none 0 0), 1, 24) := by kernel_rfl
def I1 (n k : Nat) (f : Nat → List Nat) : List (List Nat) := (List.range n).map fun j => if j < k then f j else []
theorem Ea (n k : Nat) (f : Nat → List Nat) : (I1 n k f).length = n := by simp [I1]
theorem Rx (n k : Nat) (f : Nat → List Nat) : (I1 n k f).set k (f k) = I1 n (k + 1) f := by
 apply List.ext_getElem
 ·simp [I1]
 ·intro j h1 h2
  simp only [I1, List.getElem_set, List.getElem_map, List.getElem_range]
  by_cases hj : k = j
  ·subst hj; simp
  ·rw [if_neg hj]
   by_cases hl : j < k
   ·rw [if_pos hl, if_pos (by omega)]
   ·rw [if_neg hl, if_neg (by omega)]
theorem OL (n : Nat) (f : Nat → List Nat) : I1 n n f = (List.range n).map f := by
 apply List.map_congr_left
 intro j hj
 rw [if_pos (by simpa using hj)]
def OwnRows (W : World) (B : Nat) (v : Value) (rs : List (List Nat)) : Prop :=
 ∃ vs, W.ownsRow B 167 1 v rs.length vs ∧ ∀ (j : Nat) (r : List Nat), rs[j]? = some r → ∃ u, vs[j]? = some u ∧ W.ownsRow B 80 1 u r.length (A9 r)
theorem Bn {W : World} {b b' : Nat} {e e' : TypeId} {s s' : Nat} {v v' : Value} {n n' : Nat} {xs xs' : List Value} (h : W.ownsRow b e s v n xs) (h' : W.ownsRow b' e' s' v' n' xs') (hne : e ≠ e') : v.ownBlock = none ∨ v.ownBlock ≠ v'.ownBlock := by
 rcases h.2 with ⟨rfl, _⟩ | ⟨g, cap, cur, rfl, _, hg, _⟩
 ·left; rfl
 ·right
  rcases h'.2 with ⟨rfl, _⟩ | ⟨g', cap', cur', rfl, _, hg', _⟩
  ·simp [Value.ownBlock]
  ·simp only [Value.ownBlock]
   intro e1
   cases e1
   rw [hg] at hg'
   cases hg'
   exact hne rfl
theorem OwnRows.later {W W' : World} {B : Nat} {v : Value} {rs : List (List Nat)} (h : OwnRows W B v rs) (hb : Below W.heap.size W W') : OwnRows W' B v rs := by
 obtain ⟨vs, h1, h2⟩ := h
 refine ⟨vs, Ab h1 (Nat.le_refl _) hb, fun j r hj => ?_⟩
 obtain ⟨u, k1, k2⟩ := h2 j r hj
 exact ⟨u, k1, Ab k2 (Nat.le_refl _) hb⟩
theorem OwnRows.kept {W W' : World} {B b' : Nat} {v v' : Value} {rs : List (List Nat)} {e : TypeId} {s n : Nat} {xs : List Value} (h : OwnRows W B v rs) (h' : W.ownsRow b' e s v' n xs) (h1 : 167 ≠ e) (h2 : 80 ≠ e) (hg : W.grownBy W' v'.ownBlock) : OwnRows W' B v rs := by
 obtain ⟨vs, k1, k2⟩ := h
 refine ⟨vs, k1.kept hg (Bn k1 h' h1), fun j r hj => ?_⟩
 obtain ⟨u, m1, m2⟩ := k2 j r hj
 exact ⟨u, m1, m2.kept hg (Bn m2 h' h2)⟩
theorem OwnRows.append {W W' : World} {B : Nat} {v v' u : Value} {rs : List (List Nat)} {r : List Nat} {vs : List Value} (hv : W.ownsRow B 167 1 v rs.length vs) (hold : ∀ (j : Nat) (r : List Nat), rs[j]? = some r → ∃ u, vs[j]? = some u ∧ W.ownsRow B 80 1 u r.length (A9 r))
  (hu : W.ownsRow B 80 1 u r.length (A9 r)) (hv' : W'.ownsRow B 167 1 v' (rs.length + 1) (vs ++ [u])) (hg : W.grownBy W' v.ownBlock) : OwnRows W' B v' (rs ++ [r]) := by
 have hl : vs.length = rs.length := by have := hv.1; simpa using this
 refine ⟨vs ++ [u], by rw [List.length_append]; exact hv', fun j r' hj => ?_⟩
 rcases Nat.lt_or_ge j rs.length with hlt | hge
 ·rw [List.getElem?_append_left hlt] at hj
  obtain ⟨u', m1, m2⟩ := hold j r' hj
  exact ⟨u', by rw [List.getElem?_append_left (by omega)]; exact m1, m2.kept hg (Bn m2 hv (by decide))⟩
 ·rw [List.getElem?_append_right hge] at hj
  have hj0 : j - rs.length = 0 := by
   have := (List.getElem?_eq_some_iff.1 hj).1
   simp at this; omega
  rw [hj0] at hj
  simp at hj
  subst hj
  exact ⟨u, by rw [List.getElem?_append_right (by omega), show j - vs.length = 0 from by omega]; rfl, hu.kept hg (Bn hu hv (by decide))⟩
theorem OwnRows.rdRows {W : World} {B : Nat} {v : Value} {rs : List (List Nat)} (h : OwnRows W B v rs) : ∃ a c, v = .slice a rs.length c ∧ RdRows W a rs := by
 obtain ⟨vs, h1, h2⟩ := h
 obtain ⟨a, c, hv, _, _, hr⟩ := Aw h1
 refine ⟨a, c, hv, fun k r hk => ?_⟩
 obtain ⟨u, m1, m2⟩ := h2 k r hk
 obtain ⟨b, off, ha, hc⟩ := hr k u m1
 obtain ⟨a', c', hu, _, _, hr'⟩ := Aw m2
 subst hu
 exact ⟨b, off, a', c', ha, hc, hr'⟩
theorem OwnRows.made (W : World) (B n : Nat) (f : Nat → List Nat) (hB : B ≤ W.heap.size) (hn : n ≤ 1000) : OwnRows (W.alloc (.cells (madeCells #[.slice none 0 0] n) 167)) B (.slice (some ⟨W.heap.size, 0, none⟩) n n) (I1 n 0 f) := by
 have hs : (madeCells #[Value.slice none 0 0] n).toList = List.replicate n (Value.slice none 0 0) := toList_madeCells_one _ _
 have hsz : (madeCells #[Value.slice none 0 0] n).size = n * 1 := by
  have : (madeCells #[Value.slice none 0 0] n).toList.length = n := by rw [hs]; simp
  rw [Array.length_toList] at this
  omega
 refine ⟨List.replicate n (.slice none 0 0), ?_, ?_⟩
 ·have := World.ownsRow_lit (base := B) (e := 167) (size := 1) W (madeCells #[Value.slice none 0 0] n) n hB (by unfold maxLen; omega) hsz
  rw [hs] at this
  rw [Ea]
  exact this
 ·intro j r hj
  have hl : j < n := by have := (List.getElem?_eq_some_iff.1 hj).1; rw [Ea] at this; exact this
  have e : r = [] := by
   simp [I1, hl] at hj
   exact hj
  subst e
  exact ⟨.slice none 0 0, by simp [hl], World.ownsRow_nil _ _ _ _⟩
theorem OwnRows.store {W : World} {B g n cap : Nat} {rs : List (List Nat)} (h : OwnRows W B (.slice (some ⟨g, 0, none⟩) n cap) rs) (hn : rs.length = n) (k : Nat) (r : List Nat) (u : Value) (hu : W.ownsRow B 80 1 u r.length (A9 r)) : OwnRows (W.setCell ⟨g, k, none⟩ u) B (.slice (some ⟨g, 0, none⟩) n cap) (rs.set k r) := by
 obtain ⟨vs, h1, h2⟩ := h
 rw [hn] at h1
 obtain ⟨s1, s2⟩ := h1.stored k u
 have hl : vs.length = n := by have := h1.1; simpa using this
 have hgr : W.grownBy (W.setCell ⟨g, k, none⟩ u) (Value.slice (some ⟨g, 0, none⟩) n cap).ownBlock := s2
 refine ⟨vs.set k u, by rw [List.length_set, hn]; exact s1, ?_⟩
 intro j r' hj
 by_cases e : k = j
 ·subst e
  have hk : k < rs.length := by have := (List.getElem?_eq_some_iff.1 hj).1; rw [List.length_set] at this; exact this
  simp [hk] at hj
  subst hj
  exact ⟨u, by simp [hl, ← hn, hk], hu.kept hgr (Bn hu h1 (by decide))⟩
 ·rw [List.getElem?_set_ne e] at hj
  obtain ⟨u', m1, m2⟩ := h2 j r' hj
  exact ⟨u', by rw [List.getElem?_set_ne e]; exact m1, m2.kept hgr (Bn m2 h1 (by decide))⟩
theorem OwnRows.cell {W : World} {B g n cap : Nat} {rs : List (List Nat)} (h : OwnRows W B (.slice (some ⟨g, 0, none⟩) n cap) rs) (hn : rs.length = n) (k : Nat) (hk : k < n) : (∃ u, W.cell? ⟨g, k, none⟩ = some u) ∧ W.frozen? ⟨g, k, none⟩ = false := by
 obtain ⟨vs, h1, _⟩ := h
 rw [hn] at h1
 have hl : vs.length = n := by have := h1.1; simpa using this
 refine ⟨⟨vs[k]'(by omega), ?_⟩, h1.frozenAt k⟩
 rw [h1.cellAt k (by omega)]
 exact List.getElem?_eq_getElem _
def Ch (n : Nat) : List Nat := List.range n
def BZ (rows : List (List Nat)) (width j : Nat) : List Nat := Jr rows (Bc (Ch rows.length) (AX (Ch rows.length)) (rows.length + j)) width
def Ku (rows : List (List Nat)) (width extra : Nat) : List (List Nat) := (List.range extra).map (BZ rows width)
theorem IC (n : Nat) (hn : n ≤ 1000) : ∀ x ∈ Ch n, x < 65536 := by
 intro x hx
 have := List.mem_range.1 hx
 omega
theorem Dx (pts : List Nat) : ∀ x ∈ AX pts, x < 65536 := by
 intro x hx
 simp only [AX, List.mem_map] at hx
 obtain ⟨j, _, rfl⟩ := hx
 exact Math.inv_lt (Nm pts j)
theorem DM (pts ss : List Nat) (t : Nat) (hs : ∀ x ∈ ss, x < 65536) : ∀ x ∈ Bc pts ss t, x < 65536 := by
 intro x hx
 simp only [Bc, List.mem_map] at hx
 obtain ⟨j, _, rfl⟩ := hx
 exact Math.mul_lt (Math.mul_lt (AP hs j) _) _
theorem Jd (rows : List (List Nat)) (width extra : Nat) (a : Option Addr) (cap : Nat) (hn : rows.length ≤ 100) (h0 : 0 < rows.length) (hwd : width ≤ 100) (hex : extra ≤ 100) (hr : ∀ r ∈ rows, r.length = width ∧ ∀ x ∈ r, x < 65536) (w : World) (hrd : RdRows w a rows) :
  Calls Tryz.prog 101 #[.slice a rows.length cap, .int .i64 (width : Int), .int .i64 (extra : Int)] w fun e w' => ∃ g, e = .returned (.slice (some ⟨g, 0, none⟩) extra extra) ∧ OwnRows w' w.heap.size (.slice (some ⟨g, 0, none⟩) extra extra) (Ku rows width extra) ∧ Below w.heap.size w w' := by
 obtain ⟨i0, hi, hz0, hz1, hz2⟩ := info_parts Tryz.info16
 obtain ⟨i1, hj, hy0, hy1, hy2⟩ := info_parts Tryz.infoRow
 have hmk1 : ∀ W : World, (Instr.makeSlice 121 (.int .i64 (rows.length : Int)) (.int .i64 (rows.length : Int))).run Tryz.prog W = .ok (.slice (some ⟨W.heap.size, 0, none⟩) rows.length rows.length) (W.alloc (.cells (madeCells #[.int .u16 0] rows.length) 80)) :=
  fun W => run_make_row' 121 80 (.int .u16 0) 2 Tryz.underlying121 Tryz.info16 rfl .i64 .i64 rows.length (by omega) (by omega) W
 have hmk2 : ∀ W : World, (Instr.makeSlice 160 (.int .i64 (extra : Int)) (.int .i64 (extra : Int))).run Tryz.prog W = .ok (.slice (some ⟨W.heap.size, 0, none⟩) extra extra) (W.alloc (.cells (madeCells #[.slice none 0 0] extra) 167)) :=
  fun W => run_make_row' 160 167 (.slice none 0 0) 24 Tryz.underlying160 Tryz.infoRow rfl .i64 .i64 extra (by omega) (by omega) W
 have hfree0 := Free.made w rows.length
 have hbl0 : Below w.heap.size w (w.alloc (.cells (madeCells #[.int .u16 0] rows.length) 80)) := (Below.refl _ _).alloc (Nat.le_refl _) _
 have hz : List.replicate rows.length 0 = By rows.length 0 (fun j => j) (fun _ => 0) := by
  rw [Dq]
  apply List.ext_getElem
  ·simp
  ·intro j h1 h2; simp
 rw [hz] at hfree0
 have H1 := Aa hfree0
 have H2 := Aa hbl0
 clear hfree0 hbl0 hz
 go_enter Tryz.func101, Tryz.ntmps101
 go_wp2_with fail
 go_loopw [8, 17] (fun _ i wr => ∃ k : Nat, k ≤ rows.length ∧ i = .int .i64 (k : Int) ∧ Free wr w.heap.size (By rows.length k (fun j => j) (fun _ => 0)) ∧ Below w.heap.size w wr)
  (fun _ i _ => rows.length - (intOf i).toNat)
 case atStart => exact ⟨0, by omega, rfl, H1.out, H2.out⟩
 case round =>
  clear H1 H2
  obtain ⟨k, hk, rfl, hfree, hbl⟩ := hrel
  by_cases hlt : k < rows.length
  ·have hcs := (hfree k (by rw [Bt]; exact hlt)).1
   have hcf := (hfree k (by rw [Bt]; exact hlt)).2
   have hst := hfree.store k k (by rw [Bt]; exact hlt)
   have hup := FF rows.length k (fun j => j) (fun _ => 0)
   rw [hup] at hst
   have hB := hbl.setCell (p := ⟨w.heap.size, k, none⟩) (Nat.le_refl _) (.int .u16 (k : Int))
   have H1 := Aa hst
   have H2 := Aa hB
   obtain ⟨zk, hzk⟩ : ∃ x, x = (By rows.length k (fun j => j) (fun _ => 0)).getD k 0 := ⟨_, rfl⟩
   rw [← hzk] at hcs
   clear hst hB hfree hup hzk
   go_wp2_with fail
   go_roundw
   case rel => exact ⟨k + 1, by omega, by go_num, H1.out, H2.out⟩
   case measure => simp [intOf]; omega
  ·obtain rfl : k = rows.length := by omega
   have hpt : By rows.length rows.length (fun j => j) (fun _ => 0) = Ch rows.length := by rw [Dt]; simp [Ch]
   rw [hpt] at hfree
   have hrdp := hfree.rd
   have hpl : (Ch rows.length).length = rows.length := by simp [Ch]
   have HP := Aa hrdp
   have HL := Aa hpl
   clear hfree hrdp hpt hpl
   have hT := Hc (Ch rows.length) (some ⟨w.heap.size, 0, none⟩) rows.length (by rw [HL.out]; omega) (by rw [HL.out]; exact h0) (IC _ (by omega)) wr HP.out
   rw [HL.out] at hT
   have HT := Aa hT
   clear hT
   go_wp2_with fail
   refine HT.out.mono ?_
   rintro e w1 ⟨a1, c1, a2, c2, rfl, hp1, hp2, hb1⟩
   have hbw := Below.next hbl hb1
   have hf0 := OwnRows.made (w1.alloc (.cells #[.slice a1 rows.length c1, .slice a2 rows.length c2] 201)) w.heap.size extra (BZ rows width) (by have := hbw.size; simp; omega) (by omega)
   rw [World.size_alloc] at hf0
   have hq1 := hp1.alloc (.cells #[.slice a1 rows.length c1, .slice a2 rows.length c2] 201)
   have hq2 := hp2.alloc (.cells #[.slice a1 rows.length c1, .slice a2 rows.length c2] 201)
   have hq3 := Pair.new w1 (.slice a1 rows.length c1) (.slice a2 rows.length c2) 201
   have hq4 : Below w.heap.size w (w1.alloc (.cells #[.slice a1 rows.length c1, .slice a2 rows.length c2] 201)) := hbw.alloc hbw.size _
   obtain ⟨Wm, hWm⟩ : ∃ W, W = w1.alloc (.cells #[.slice a1 rows.length c1, .slice a2 rows.length c2] 201) := ⟨_, rfl⟩
   rw [← hWm] at hf0 hq1 hq2 hq3 hq4
   have hsm : Wm.heap.size = w1.heap.size + 1 := by rw [hWm]; simp
   have hb0 : Below (w1.heap.size + 1) Wm (Wm.alloc (.cells (madeCells #[.slice none 0 0] extra) 167)) := (Below.refl _ _).alloc (by omega) _
   have H0 := Aa hf0
   have H1 := Aa hq1
   have H2 := Aa hq2
   have H3 := Aa hq3
   have H4 := Aa hq4
   have H5 := Aa hWm
   have H6 := Aa hsm
   have H7 := Aa hb0
   have H8 := Aa hrd
   have H9 := Aa hr
   clear hf0 hq1 hq2 hq3 hq4 hWm hsm hb0 hrd hp1 hp2 hb1 hr HP HT hbl
   go_wp2_with fail
   rw [← H5.out]
   go_loopw [11, 32] (fun _ i wr => ∃ k : Nat, k ≤ extra ∧ i = .int .i64 (k : Int) ∧ OwnRows wr w.heap.size (.slice (some ⟨w1.heap.size + 1, 0, none⟩) extra extra) (I1 extra k (BZ rows width)) ∧ Below (w1.heap.size + 1) Wm wr)
    (fun _ i _ => extra - (intOf i).toNat)
   case atStart => exact ⟨0, by omega, rfl, H0.out, H7.out⟩
   case round =>
    clear H0 H7
    obtain ⟨k, hk, rfl, hfree, hbl⟩ := hrel
    have hsz := hbl.size
    rw [H6.out] at hsz
    by_cases hlt : k < extra
    ·have hb3 := H3.out
     have hx0 : wr.cell? ⟨w1.heap.size, 0, none⟩ = some (.slice a1 rows.length c1) := by rw [hbl.cell (by simp)]; exact hb3.1
     have hx1 : wr.cell? ⟨w1.heap.size, 1, none⟩ = some (.slice a2 rows.length c2) := by rw [hbl.cell (by simp)]; exact hb3.2
     have hr1 : Rd wr a1 (A9 (Ch rows.length)) := H1.out.later (by rw [H6.out]; exact Nat.le_refl _) hbl
     have hr2 : Rd wr a2 (A9 (AX (Ch rows.length))) := H2.out.later (by rw [H6.out]; exact Nat.le_refl _) hbl
     have hww : Below w.heap.size w wr := H4.out.trans (hbl.mono (by have := hbw.size; omega))
     have hr3 : RdRows wr a rows := H8.out.later (Nat.le_refl _) hww
     have hW := Hb (Ch rows.length) (AX (Ch rows.length)) (rows.length + k) a1 a2 c1 c2 (by rw [HL.out]; omega) (by rw [HL.out]; exact h0) (by simp [AX]) (IC _ (by omega)) (Dx _) (by omega) wr hr1 hr2
     rw [HL.out] at hW
     have HW := Aa hW
     have HF := Aa hfree
     have HB := Aa hbl
     have HR3 := Aa hr3
     have HWW := Aa hww
     obtain ⟨⟨xu, hcell⟩, hfz⟩ := hfree.cell (Ea _ _ _) k hlt
     clear hW hfree hr1 hr2 hr3 hww hb3
     go_wp2_with fail
     rw [show ((rows.length : Int) + (k : Int)) = ((rows.length + k : Nat) : Int) from by omega]
     refine HW.out.mono ?_
     rintro e w2 ⟨v2, rfl, hown2, hb2⟩
     obtain ⟨a4, c4, rfl, _, _, hr4⟩ := Aw hown2
     have hr3 := HR3.out.later (Nat.le_refl _) hb2
     have hM := Ns rows (Bc (Ch rows.length) (AX (Ch rows.length)) (rows.length + k)) width a a4 cap c4 (by omega) (by simp [Bc, HL.out]) (by omega) H9.out (DM _ _ _ (Dx _)) w2 hr3 hr4
     have HM := Aa hM
     have HB2 := Aa hb2
     clear hM hown2 hr4 hr3 hb2
     go_wp2_with fail
     refine HM.out.mono ?_
     rintro e w3 ⟨v3, rfl, hown3, hb3⟩
     obtain ⟨a5, c5, rfl, _, _, hr5⟩ := Aw hown3
     have hb23 := Below.next HB2.out hb3
     have hfree3 := HF.out.later hb23
     have hel : (BZ rows width k).length = width := by simp [BZ, Jr]
     have hown3' := Ad (base' := w.heap.size) (by have := hbw.size; have := HB2.out.size; omega) hown3
     have hown3'' : w3.ownsRow w.heap.size 80 1 (.slice a5 width c5) (BZ rows width k).length (A9 (BZ rows width k)) := by rw [hel]; exact hown3'
     have hst := hfree3.store (Ea _ _ _) k (BZ rows width k) _ hown3''
     rw [Rx] at hst
     have hb4 : Below (w1.heap.size + 1) Wm w3 := HB.out.trans (hb23.mono (by omega))
     have hb5 := hb4.setCell (p := ⟨w1.heap.size + 1, k, none⟩) (Nat.le_refl _) (.slice a5 width c5)
     have hgl : w1.heap.size + 1 < wr.heap.size := World.block_lt_of_cell? wr _ hcell
     have hcell3 : w3.cell? ⟨w1.heap.size + 1, k, none⟩ = some xu := by rw [hb23.cell hgl]; exact hcell
     have hfz3 : w3.frozen? ⟨w1.heap.size + 1, k, none⟩ = false := by rw [hb23.frozen hgl]; exact hfz
     have K1 := Aa hst
     have K2 := Aa hb5
     clear hst hb5 hb4 hfree3 hown3 hown3' hown3'' hr5 hb23 hb3 hel hcell hfz HF HB HM HB2 HW
     go_wp2_with fail
     go_roundw
     case rel => exact ⟨k + 1, by omega, by go_num, K1.out, K2.out⟩
     case measure => simp [intOf]; omega
    ·obtain rfl : k = extra := by omega
     rw [OL] at hfree
     have hres := hfree
     clear hfree
     have hww : Below w.heap.size w wr := H4.out.trans (hbl.mono (by have := hbw.size; omega))
     go_wp2_with fail
     go_ret
     exact ⟨_, rfl, hres, hww⟩
def Kp (size : Nat) (fs : List Ak) (i : Nat) : List UInt8 := Co i (fs.getD i ([], [])).1 (fs.getD i ([], [])).2 (C8 (fs.getD i ([], [])).2 size)
def AA (size : Nat) (fs : List Ak) : List (List UInt8) := (List.range fs.length).map (Kp size fs)
def Ca (size : Nat) (fs : List Ak) : List (List UInt8) := fs.flatMap fun f => C8 f.2 size
def BB (size : Nat) (fs : List Ak) : List (List Nat) := (Ca size fs).map C7
theorem CJ (data : List UInt8) (size : Nat) (h0 : 0 < size) : (C8 data size).length = Aj data.length size ∧ ∀ t ∈ C8 data size, t.length = size := by
 refine ⟨by simp [C8], ?_⟩
 intro t ht
 simp only [C8, List.mem_map, List.mem_range] at ht
 obtain ⟨i, hi, rfl⟩ := ht
 have hp := P7 data size _ h0 rfl
 have m1 : (i + 1) * size ≤ Aj data.length size * size := Nat.mul_le_mul_right _ hi
 have m2 : (i + 1) * size = i * size + size := Nat.succ_mul i size
 unfold Ek
 rw [List.length_take, List.length_drop, hp]
 omega
theorem LI (size : Nat) (fs : List Ak) (h0 : 0 < size) (hf : ∀ f ∈ fs, f.2.length ≤ 400) : (BB size fs).length ≤ 400 * fs.length := by
 induction fs with
 | nil => simp [BB, Ca]
 | cons f fs ih =>
  have h1 := ih (fun g hg => hf g (by simp [hg]))
  have h2 := Bu f.2.length size h0
  have h3 := hf f (by simp)
  have h4 := (CJ f.2 size h0).1
  simp only [BB, Ca, List.flatMap_cons, List.map_append, List.length_append, List.length_map, List.length_cons] at h1 ⊢
  omega
theorem Ki (fs : List Ak) (size : Nat) (a : Option Addr) (cap : Nat) (hn : fs.length ≤ 6) (h0 : 0 < size) (h1 : size ≤ 32) (hf : ∀ f ∈ fs, f.1.length ≤ 20 ∧ f.2.length ≤ 400) (w : World) (hrd : Rd w a (As fs)) :
  Calls Tryz.prog 97 #[.slice a fs.length cap, .int .i64 (size : Int)] w fun e w' => ∃ vb vr, e = .returned (.tuple #[vb, vr]) ∧ w'.ownsRow w.heap.size 9 1 vb fs.length (AM (AA size fs)) ∧ OwnRows w' w.heap.size vr (BB size fs) ∧ Below w.heap.size w w' := by
 obtain ⟨i0, hi, hz0, hz1, hz2⟩ := info_parts Tryz.infoS
 obtain ⟨i1, hj, hy0, hy1, hy2⟩ := info_parts Tryz.infoRow
 go_enter Tryz.func97, Tryz.ntmps97
 go_wp2_with (at_make; refine wpList_make_own _ rfl _ _ 23 rfl w.heap.size 9 i0 (.string ByteArray.empty) 1 Tryz.underlying23 hi hz0 hz1 .i64 .i64 _ fs.length rfl rfl rfl ?c1 ?c2 (Nat.le_refl _) ?_)
 case c1 => rw [hz2]; omega
 case c2 => unfold maxLen; omega
 intro w1 hown1 hg1
 have hb1 : Below w.heap.size w w1 := (Below.refl _ w).grown hg1 (Nat.le_refl _) (by simp)
 have hsz1 := hb1.size
 clear hg1
 have hr1 : OwnRows (w1.alloc (.cells #[] 167)) w.heap.size (.slice (some ⟨w1.heap.size, 0, none⟩) 0 0) [] := by
  refine ⟨[], World.ownsRow_lit w1 #[] 0 hsz1 (Nat.zero_le _) rfl, fun j r hj => by simp at hj⟩
 have ho1 := hown1.alloc (.cells #[] 167)
 have hb2 := hb1.alloc hsz1 (.cells #[] 167)
 have H1 := Aa hr1
 have H2 := Aa ho1
 have H3 := Aa hb2
 clear hr1 ho1 hb2 hown1 hb1
 go_wp2_with fail
 go_loopw [6, 7, 8, 9, 10, 12, 19] (fun vb vr _ _ _ _ i wr => ∃ k : Nat, k ≤ fs.length ∧ i = .int .i64 (k : Int) ∧ wr.ownsRow w.heap.size 9 1 vb k (AM ((AA size fs).take k)) ∧ OwnRows wr w.heap.size vr (BB size (fs.take k)) ∧ Below w.heap.size w wr)
  (fun _ _ _ _ _ _ i _ => fs.length - (intOf i).toNat)
 case atStart => exact ⟨0, by omega, rfl, by simpa [AM] using H2.out, by simpa [BB, Ca] using H1.out, H3.out⟩
 case round =>
  clear H1 H2 H3
  obtain ⟨k, hk, rfl, hownb, hownr, hbl⟩ := hrel
  have hsz := hbl.size
  by_cases hlt : k < fs.length
  ·obtain ⟨b, off, rfl, hc1, hc2⟩ := Bk hrd (Nat.le_refl _) hbl k hlt
   have hfk := hf fs[k] (List.getElem_mem hlt)
   obtain ⟨name, data, hfe⟩ : ∃ n d, fs[k] = (n, d) := ⟨_, _, rfl⟩
   rw [hfe] at hc1 hc2 hfk
   simp only at hc1 hc2 hfk
   have HFE := Aa hfe
   clear hfe
   obtain ⟨wo, hwo⟩ : ∃ x, x = wr := ⟨_, rfl⟩
   subst hwo
   have hWb : Below wo.heap.size wo (wo.alloc (.cells #[.string (str name), .string (str data)] 62)) := (Below.refl _ _).alloc (Nat.le_refl _) _
   have hWp := Pair.new wo (.string (str name)) (.string (str data)) 62
   obtain ⟨W, hW⟩ : ∃ W, W = wo.alloc (.cells #[.string (str name), .string (str data)] 62) := ⟨_, rfl⟩
   rw [← hW] at hWb hWp
   have hWs : W.heap.size = wo.heap.size + 1 := by rw [hW]; simp
   have hC := Ta data size h0 h1 (by omega) W
   obtain ⟨hcl, hcz⟩ := CJ data size h0
   have hcm : (C8 data size).length ≤ 400 := by rw [hcl]; exact Nat.le_trans (Bu _ _ h0) hfk.2
   rw [← hcl] at hC
   have K1 := Aa hWb
   have K2 := Aa hWp
   have K3 := Aa hW
   have K4 := Aa hWs
   have K5 := Aa hC
   have K6 := Aa hcl
   have K7 := Aa hcz
   have K8 := Aa hownb
   have K9 := Aa hownr
   have K10 := Aa hbl
   have K11 := Aa hrd
   have K12 := Aa hf
   clear hWb hWp hW hWs hC hcl hcz hownb hownr hrd hf hbl
   go_wp2_with fail
   rw [← K3.out]
   refine K5.out.mono ?_
   rintro e w2 ⟨vS, rfl, hownS, hb2⟩
   obtain ⟨aS, cS, hvS, _, _, hrS⟩ := Aw hownS
   have hp2 : Pair w2 wo.heap.size (.string (str name)) (.string (str data)) := ⟨by rw [hb2.cell (by rw [K4.out]; simp)]; exact K2.out.1, by rw [hb2.cell (by rw [K4.out]; simp)]; exact K2.out.2⟩
   have hq0 := hp2.1
   have hq1 := hp2.2
   have hch2 := Below.next K1.out hb2
   rw [hvS]
   have hF := Ke k name data (C8 data size) aS cS (by omega) (by omega) (by omega) (by omega) (fun t ht => by rw [K7.out t ht]; omega) w2 hrS
   have L1 := Aa hF
   have L2 := Aa hownS
   have L3 := Aa hch2
   have L4 := Aa hvS
   clear hF hownS hch2 hvS hrS hb2 hp2
   go_wp2_with fail
   refine L1.out.mono ?_
   rintro e w3 ⟨rfl, hb3⟩
   have hch3 := Below.next L3.out hb3
   have hownb3 := Ab K8.out (Nat.le_refl _) hch3
   have hownr3 := K9.out.later hch3
   have hownS3 := Ab L2.out (Nat.le_refl _) hb3
   have hbl3 : Below w.heap.size w w3 := K10.out.trans (hch3.mono (by omega))
   have hsz3 := hbl3.size
   have M1 := Aa hch3
   have M2 := Aa hownr3
   have M3 := Aa hownS3
   have M4 := Aa hbl3
   clear hch3 hownr3 hownS3 hbl3 hb3 hq0 hq1
   go_wp2_with (at_builtin; refine wpList_append_own _ rfl (.tmp 28) (.tmp 33) 23 rfl w.heap.size 9 i0 (.string ByteArray.empty) 1 16 Tryz.underlying23 hi hz0 hz1 hz2 rfl (by decide) _ _ _ rfl (hownb3.alloc _) ⟨w3.heap.size, 0, none⟩ 1 1 [.string (str (Co k name data (C8 data size)))] rfl rfl (cell_one_new _ _ _) ?d2 ?d3 ?d4 ?d5 ?_)
   case d2 => intro u hu; simp at hu; subst hu; rfl
   case d3 => unfold maxLen; omega
   case d4 => omega
   case d5 => simp; omega
   intro vb4 w4 hownb4 hg4 _
   have hbl4 := Az M4.out hsz3 hownb3 hg4
   have hown4' : w4.ownsRow w.heap.size 9 1 vb4 (k + 1) (AM ((AA size fs).take (k + 1))) := by
    have e1 : (AA size fs).take (k + 1) = (AA size fs).take k ++ [Co k name data (C8 data size)] := by
     rw [Ap _ k (by simpa [AA] using hlt)]
     congr 2
     simp only [AA, List.getElem_map, List.getElem_range]
     unfold Kp
     rw [show fs.getD k ([], []) = (name, data) from by rw [← HFE.out]; simp [hlt]]
    rw [e1]
    simpa [AM] using hownb4
   have hrows4 := (M2.out.later ((Below.refl _ _).alloc (Nat.le_refl _) (.cells #[.string (str (Co k name data (C8 data size)))] 9))).kept (hownb3.alloc _) (by decide) (by decide) hg4
   have hS4 : w4.ownsRow W.heap.size 9 1 vS (C8 data size).length (AM (C8 data size)) := by
    refine (M3.out.alloc _).kept hg4 ?_
    have l1 := M3.out.lt
    have l2 := K8.out.lt
    cases hvb : vS.ownBlock with
    | none => left; rfl
    | some g =>
     right
     intro e
     have := (l1 g hvb).1
     have := (l2 g e.symm).2
     rw [K4.out] at *
     omega
   have hsz4 := hbl4.size
   have N1 := Aa hown4'
   have N2 := Aa hrows4
   have N3 := Aa hS4
   have N4 := Aa hbl4
   have hbaseS : w.heap.size ≤ W.heap.size := by rw [K4.out]; omega
   clear hown4' hrows4 hS4 hbl4 hownb4 hg4 hownb3 M1 M2 M3 M4 hc1 hc2 hsz3
   go_wp2_with fail
   go_loopw [7, 12, 37] (fun vr _ i wr => ∃ j : Nat, j ≤ (C8 data size).length ∧ i = .int .i64 (j : Int) ∧ wr.ownsRow w.heap.size 9 1 vb4 (k + 1) (AM ((AA size fs).take (k + 1))) ∧ OwnRows wr w.heap.size vr (BB size (fs.take k) ++ ((C8 data size).take j).map C7) ∧ wr.ownsRow W.heap.size 9 1 vS (C8 data size).length (AM (C8 data size)) ∧ Below w.heap.size w wr)
    (fun _ _ i _ => (C8 data size).length - (intOf i).toNat)
   case atStart => exact ⟨0, by omega, rfl, N1.out, by simpa using N2.out, N3.out, N4.out⟩
   case round =>
    clear N1 N2 N3 N4 hsz4
    obtain ⟨j, hjl, rfl, hob, hor, hoS, hbl⟩ := hrel
    have hsz5 := hbl.size
    by_cases hjlt : j < (C8 data size).length
    ·obtain ⟨aS', cS', hvS', _, _, hrS⟩ := Aw hoS
     rw [L4.out] at hvS'
     cases hvS'
     obtain ⟨b3, off3, rfl, hc3⟩ := hrS j (.string (str (C8 data size)[j])) (by simp [AM, hjlt])
     have htz := K7.out (C8 data size)[j] (List.getElem_mem hjlt)
     have hR := Fw (C8 data size)[j] (by omega) wr
     have P0 := Aa htz
     clear htz
     have P1 := Aa hR
     have P2 := Aa hob
     have P3 := Aa hor
     have P4 := Aa hoS
     have P5 := Aa hbl
     clear hR hob hor hoS hbl hrS
     go_wp2_with fail
     refine P1.out.mono ?_
     rintro e w5 ⟨v5, rfl, hown5, hb5⟩
     have hor5 := P3.out.later hb5
     obtain ⟨vs, hv1, hv2⟩ := hor5
     have hob5 := Ab P2.out (Nat.le_refl _) hb5
     have hoS5 := Ab P4.out (Nat.le_refl _) hb5
     have hbl5 : Below w.heap.size w w5 := P5.out.trans (hb5.mono (by omega))
     have hsz6 := hbl5.size
     have hrl : (C7 (C8 data size)[j]).length = (C8 data size)[j].length / 2 := BK _
     rw [← hrl] at hown5
     have hown5' := Ad (base' := w.heap.size) (by omega) hown5
     have hnl : (BB size (fs.take k) ++ ((C8 data size).take j).map C7).length ≤ 100000 := by
      rw [List.length_append, List.length_map, List.length_take]
      have := LI size (fs.take k) h0 (fun f hf' => (K12.out f (List.mem_of_mem_take hf')).2)
      have h6 : (fs.take k).length ≤ 6 := by rw [List.length_take]; omega
      omega
     have Q2 := Aa hv2
     have Q3 := Aa hob5
     have Q4 := Aa hoS5
     have Q5 := Aa hbl5
     have Q6 := Aa hown5'
     have Q7 := Aa hrl
     clear hrl
     obtain ⟨a5, c5, hv5, _, _, _⟩ := Aw hown5
     rw [hv5] at Q6 ⊢
     clear hv2 hob5 hoS5 hbl5 hown5 hown5' hb5 P1 P2 P3 P4 P5
     go_wp2_with (at_builtin; refine wpList_append_own _ rfl (.tmp 41) (.tmp 44) 160 rfl w.heap.size 167 i1 (.slice none 0 0) 1 24 Tryz.underlying160 hj hy0 hy1 hy2 rfl (by decide) _ _ _ rfl (hv1.alloc _) ⟨w5.heap.size, 0, none⟩ 1 1 [.slice a5 (C7 (C8 data size)[j]).length c5] rfl rfl (cell_one_new _ _ _) ?f2 ?f3 ?f4 ?f5 ?_)
     case f2 => intro u hu; simp at hu; subst hu; rfl
     case f3 => unfold maxLen; omega
     case f4 => omega
     case f5 => simp; omega
     intro v6 w6 hown6 hg6 _
     have hbl6 := Az Q5.out hsz6 hv1 hg6
     have hal : Below w5.heap.size w5 (w5.alloc (.cells #[.slice a5 (C7 (C8 data size)[j]).length c5] 167)) := (Below.refl _ _).alloc (Nat.le_refl _) _
     have hrows6 : OwnRows w6 w.heap.size v6 (BB size (fs.take k) ++ ((C8 data size).take (j + 1)).map C7) := by
      have hlen : (BB size (fs.take k) ++ ((C8 data size).take j).map C7).length = (BB size (fs.take k)).length + j := by
       rw [List.length_append, List.length_map, List.length_take, Nat.min_eq_left hjl]
      rw [← hlen] at hown6
      have := OwnRows.append (hv1.alloc _) (fun j' r' hj' => by
       obtain ⟨u, m1, m2⟩ := Q2.out j' r' hj'
       exact ⟨u, m1, m2.alloc _⟩) (Q6.out.alloc _) hown6 hg6
      rw [Ap _ j hjlt, List.map_append, ← List.append_assoc]
      exact this
     have hob6 := (Q3.out.alloc _).kept hg6 (Bn Q3.out hv1 (by decide))
     have hoS6 := (Q4.out.alloc _).kept hg6 (Bn Q4.out hv1 (by decide))
     have R1 := Aa hbl6
     have R2 := Aa hrows6
     have R3 := Aa hob6
     have R4 := Aa hoS6
     clear hbl6 hrows6 hob6 hoS6 hown6 hg6 hv1 hal
     go_wp2_with fail
     go_roundw
     case rel => exact ⟨j + 1, by omega, by go_num, R3.out, R2.out, R4.out, R1.out⟩
     case measure => simp [intOf]; omega
    ·obtain rfl : j = (C8 data size).length := by omega
     have hrows : BB size (fs.take k) ++ ((C8 data size).take (C8 data size).length).map C7 = BB size (fs.take (k + 1)) := by
      rw [List.take_length, Ap fs k hlt]
      unfold BB Ca
      rw [List.flatMap_append, List.map_append, HFE.out]
      simp
     rw [hrows] at hor
     go_wp2_with fail
     go_roundw
     case rel => exact ⟨k + 1, by omega, by go_num, hob, hor, hbl⟩
     case measure => simp [intOf]; omega
  ·obtain rfl : k = fs.length := by omega
   rw [List.take_length] at hownr
   rw [List.take_of_length_le (by simp [AA])] at hownb
   go_wp2_with fail
   go_ret2
   exact ⟨_, _, rfl, hownb, hownr, hbl⟩
end Go.Proofs.YtonjphollmdicaaGreatDoor
