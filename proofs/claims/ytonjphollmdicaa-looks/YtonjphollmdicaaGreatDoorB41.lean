import Derived.Test.YtonjphollmdicaaGreatDoorB21
import Derived.Test.YtonjphollmdicaaGreatDoorB34
import Derived.Test.YtonjphollmdicaaGreatDoorB40
namespace Go.Proofs.YtonjphollmdicaaGreatDoor
open Go.ChangeShapes Go.WideShapes Go.ChangeAt Go.RowKit

def natsI (l : List Nat) : List Value := l.map fun n : Nat => Value.int .i64 (n : Int)
def boolsI (l : List Bool) : List Value := l.map Value.bool
/-- the cells of the result, as they were laid -/
def Res8 (w W : World) : Prop := Blk W w.heap.size [.int .i64 0, .slice none 0 0, .slice none 0 0, .slice none 0 0, .slice none 0 0, .slice none 0 0, .int .i64 0, .int .i64 0] ∧ Below w.heap.size w W
theorem Res8.start (w : World) : Res8 w (w.alloc (.cells #[.int .i64 0, .slice none 0 0, .slice none 0 0, .slice none 0 0, .slice none 0 0, .slice none 0 0, .int .i64 0, .int .i64 0] 42)) := ⟨Blk.new w _ _, (Below.refl _ _).alloc (Nat.le_refl _) _⟩
theorem Res8.later {w W W' : World} (h : Res8 w W) (hb : Below W.heap.size W W') : Res8 w W' := ⟨h.1.touch (Touch.of_below hb []) (by simp), Below.next h.2 hb⟩
theorem Res8.touch {w W W' : World} (h : Res8 w W) {L : List Nat} (ht : Touch L W W') (hL : ∀ x ∈ L, w.heap.size < x) : Res8 w W' := ⟨h.1.touch ht (fun hm => by have := hL _ hm; omega), h.2.trans (ht.below h.2.size (fun x hx => Nat.le_of_lt (hL x hx)))⟩

theorem Tryz.infoBo : (Tryz.prog.info? 4).map (fun i => (i.zero, i.size, i.bytes)) = some (some (.bool false), 1, 1) := by kernel_rfl
theorem Tryz.infoIn : (Tryz.prog.info? 3).map (fun i => (i.zero, i.size, i.bytes)) = some (some (.int .i64 0), 1, 8) := by kernel_rfl
theorem new_one (w : World) (x : Value) (t : TypeId) : ∀ j u, [x][j]? = some u → (w.alloc (.cells #[x] t)).cell? ((⟨w.heap.size, 0, none⟩ : Addr).add j) = some u := fun j u h => by
  have hadd : (⟨w.heap.size, 0, none⟩ : Addr).add j = ⟨w.heap.size, j, none⟩ := by unfold Addr.add; split <;> simp_all
  rw [hadd]
  exact (Blk.new w #[x] t j u h).1
theorem one_cell {x : Value} (h : x.oneCell' = true) : ∀ u ∈ [x], u.oneCell' = true := fun u hu => by
  simp at hu
  subst hu
  exact h
theorem dHashes_snoc (ds : List DescL) (d : DescL) : dHashes (ds ++ [d]) = dHashes ds ++ d.slices := by simp [dHashes]

/-- a set that Read has answered -/
structure OldSet (W : World) (rb SB : Nat) (s : SetL) (fv xv : Value) (svs : List Value) : Prop where
  files : W.ownsRow rb 101 4 fv s.files.length (descCells s.files svs)
  rows : DescRows W rb s.files svs
  ex : W.ownsRow rb 9 1 xv s.extra.length (strV s.extra)
  lf : ∀ k, fv.ownBlock = some k → k < SB
  lx : ∀ k, xv.ownBlock = some k → k < SB
  lr : ∀ v ∈ svs, ∀ k, v.ownBlock = some k → k < SB
theorem OldSet.start {W : World} {rb : Nat} {s : SetL} {fv xv : Value} {svs : List Value} (hf : W.ownsRow rb 101 4 fv s.files.length (descCells s.files svs)) (hr : DescRows W rb s.files svs) (hx : W.ownsRow rb 9 1 xv s.extra.length (strV s.extra)) : OldSet W rb W.heap.size s fv xv svs :=
  ⟨hf, hr, hx, fun k hk => (hf.lt k hk).2, fun k hk => (hx.lt k hk).2, fun v hv k hk => by
    obtain ⟨j, hj, rfl⟩ := List.mem_iff_getElem.1 hv
    have hj2 : j < s.files.length := by rw [← hr.1]; exact hj
    exact ((hr.2 j s.files[j] svs[j] (List.getElem?_eq_getElem hj2) (List.getElem?_eq_getElem hj)).lt k hk).2⟩
theorem OldSet.touch {W W' : World} {rb SB : Nat} {s : SetL} {fv xv : Value} {svs : List Value} (h : OldSet W rb SB s fv xv svs) {L : List Nat} (ht : Touch L W W') (hL : ∀ x ∈ L, SB ≤ x) : OldSet W' rb SB s fv xv svs := by
  refine ⟨owns_touch' h.files ht (fun k hk hm => ?_), ⟨h.rows.1, fun k d v h1 h2 => owns_touch' (h.rows.2 k d v h1 h2) ht (fun j hj hm => ?_)⟩, owns_touch' h.ex ht (fun k hk hm => ?_), h.lf, h.lx, h.lr⟩
  · have := h.lf k hk; have := hL k hm; omega
  · have := h.lr v (List.mem_of_getElem? h2) j hj; have := hL j hm; omega
  · have := h.lx k hk; have := hL k hm; omega

structure LBase (w W : World) (rb SB LB b1 : Nat) (s : SetL) (fv xv : Value) (svs : List Value) (lc : List Value) : Prop where
  res : Res8 w W
  sb : Blk W SB [.int .i64 (s.size : Int), fv, xv]
  lb : Blk W LB lc
  old : OldSet W rb SB s fv xv svs
  size : b1 ≤ W.heap.size
structure LNe (w : World) (SB LB b1 : Nat) : Prop where
  h1 : w.heap.size < SB
  h2 : SB < LB
  h3 : LB < b1
theorem LBase.touch {w W W' : World} {rb SB LB b1 : Nat} {s : SetL} {fv xv : Value} {svs lc : List Value} (h : LBase w W rb SB LB b1 s fv xv svs lc) (hn : LNe w SB LB b1) {L : List Nat} (ht : Touch L W W') (hL : ∀ x ∈ L, b1 ≤ x) : LBase w W' rb SB LB b1 s fv xv svs lc := by
  have h1 := hn.h1
  have h2 := hn.h2
  have h3 := hn.h3
  exact ⟨h.res.touch ht (fun x hx => by have := hL x hx; omega), h.sb.touch ht (fun hm => by have := hL _ hm; omega), h.lb.touch ht (fun hm => by have := hL _ hm; omega), h.old.touch ht (fun x hx => by have := hL x hx; omega), Nat.le_trans h.size ht.size⟩
theorem LBase.set {w W : World} {rb SB LB b1 : Nat} {s : SetL} {fv xv : Value} {svs lc : List Value} (h : LBase w W rb SB LB b1 s fv xv svs lc) (hn : LNe w SB LB b1) (j : Nat) (v : Value) : LBase w (W.setCell ⟨LB, j, none⟩ v) rb SB LB b1 s fv xv svs (lc.set j v) := by
  have h1 := hn.h1
  have h2 := hn.h2
  have ht : Touch [LB] W (W.setCell ⟨LB, j, none⟩ v) := (Touch.refl _ _).setCell (by simp) _
  exact ⟨h.res.touch ht (by simp; omega), h.sb.touch ht (by simp; omega), h.lb.set j v, h.old.touch ht (by simp; omega), by simpa using h.size⟩

/-- the lists that are made -/
structure LNew (W : World) (b1 : Nat) (slv stv prv : Value) (ps : List (List UInt8)) (sts : List Nat) (fl : List Bool) : Prop where
  sl : W.ownsRow b1 9 1 slv ps.length (strV ps)
  st : W.ownsRow b1 3 1 stv sts.length (natsI sts)
  pr : W.ownsRow b1 4 1 prv fl.length (boolsI fl)
theorem LNew.touch {W W' : World} {b1 : Nat} {slv stv prv : Value} {ps : List (List UInt8)} {sts : List Nat} {fl : List Bool} (h : LNew W b1 slv stv prv ps sts fl) {L : List Nat} (ht : Touch L W W') (hL : ∀ x ∈ L, x < b1) : LNew W' b1 slv stv prv ps sts fl := ⟨owns_touch h.sl ht hL, owns_touch h.st ht hL, owns_touch h.pr ht hL⟩

theorem look_st {w W w6 : World} {rb SB LB b1 : Nat} {s : SetL} {fv xv slv stv prv lo ex v6 : Value} {svs : List Value} {ps : List (List UInt8)} {sts : List Nat} {fl : List Bool} {x : Nat} (h : LBase w W rb SB LB b1 s fv xv svs [.int .i64 (s.size : Int), fv, xv, slv, stv, prv, lo, ex]) (hn : LNe w SB LB b1) (hw : LNew W b1 slv stv prv ps sts fl)
    (hg : W.grownBy w6 stv.ownBlock) (ho : w6.ownsRow b1 3 1 v6 (sts.length + 1) (natsI sts ++ [.int .i64 (x : Int)])) :
    (w6.cell? ⟨LB, 4, none⟩ = some stv ∧ w6.frozen? ⟨LB, 4, none⟩ = false) ∧ LBase w (w6.setCell ⟨LB, 4, none⟩ v6) rb SB LB b1 s fv xv svs [.int .i64 (s.size : Int), fv, xv, slv, v6, prv, lo, ex] ∧ LNew (w6.setCell ⟨LB, 4, none⟩ v6) b1 slv v6 prv ps (sts ++ [x]) fl := by
  have h6 : LBase w w6 rb SB LB b1 s fv xv svs _ := h.touch hn (Touch.of_row hg) (fun k hk => (hw.st.lt k (blkL_mem.1 hk)).1)
  have h3 := hn.h3
  have ht : Touch [LB] w6 (w6.setCell ⟨LB, 4, none⟩ v6) := (Touch.refl _ _).setCell (by simp) _
  refine ⟨h6.lb 4 _ rfl, h6.set hn 4 v6, LNew.touch (W := w6) ⟨hw.sl.kept hg (own_ne hw.sl hw.st (by decide)), ?_, hw.pr.kept hg (own_ne hw.pr hw.st (by decide))⟩ ht (by simpa using h3)⟩
  rw [List.length_append]
  unfold natsI at ho ⊢
  rw [List.map_append]
  exact ho
theorem look_sl {w W w6 : World} {rb SB LB b1 : Nat} {s : SetL} {fv xv slv stv prv lo ex v6 : Value} {svs : List Value} {ps : List (List UInt8)} {sts : List Nat} {fl : List Bool} {x : List UInt8} (h : LBase w W rb SB LB b1 s fv xv svs [.int .i64 (s.size : Int), fv, xv, slv, stv, prv, lo, ex]) (hn : LNe w SB LB b1) (hw : LNew W b1 slv stv prv ps sts fl)
    (hg : W.grownBy w6 slv.ownBlock) (ho : w6.ownsRow b1 9 1 v6 (ps.length + 1) (strV ps ++ [.string (str x)])) :
    (w6.cell? ⟨LB, 3, none⟩ = some slv ∧ w6.frozen? ⟨LB, 3, none⟩ = false) ∧ LBase w (w6.setCell ⟨LB, 3, none⟩ v6) rb SB LB b1 s fv xv svs [.int .i64 (s.size : Int), fv, xv, v6, stv, prv, lo, ex] ∧ LNew (w6.setCell ⟨LB, 3, none⟩ v6) b1 v6 stv prv (ps ++ [x]) sts fl := by
  have h6 : LBase w w6 rb SB LB b1 s fv xv svs _ := h.touch hn (Touch.of_row hg) (fun k hk => (hw.sl.lt k (blkL_mem.1 hk)).1)
  have h3 := hn.h3
  have ht : Touch [LB] w6 (w6.setCell ⟨LB, 3, none⟩ v6) := (Touch.refl _ _).setCell (by simp) _
  refine ⟨h6.lb 3 _ rfl, h6.set hn 3 v6, LNew.touch (W := w6) ⟨?_, hw.st.kept hg (own_ne hw.st hw.sl (by decide)), hw.pr.kept hg (own_ne hw.pr hw.sl (by decide))⟩ ht (by simpa using h3)⟩
  rw [List.length_append]
  unfold strV at ho ⊢
  rw [List.map_append]
  exact ho
theorem look_pr {w W w6 : World} {rb SB LB b1 : Nat} {s : SetL} {fv xv slv stv prv lo ex v6 : Value} {svs : List Value} {ps : List (List UInt8)} {sts : List Nat} {fl : List Bool} {x : Bool} (h : LBase w W rb SB LB b1 s fv xv svs [.int .i64 (s.size : Int), fv, xv, slv, stv, prv, lo, ex]) (hn : LNe w SB LB b1) (hw : LNew W b1 slv stv prv ps sts fl)
    (hg : W.grownBy w6 prv.ownBlock) (ho : w6.ownsRow b1 4 1 v6 (fl.length + 1) (boolsI fl ++ [.bool x])) :
    (w6.cell? ⟨LB, 5, none⟩ = some prv ∧ w6.frozen? ⟨LB, 5, none⟩ = false) ∧ LBase w (w6.setCell ⟨LB, 5, none⟩ v6) rb SB LB b1 s fv xv svs [.int .i64 (s.size : Int), fv, xv, slv, stv, v6, lo, ex] ∧ LNew (w6.setCell ⟨LB, 5, none⟩ v6) b1 slv stv v6 ps sts (fl ++ [x]) := by
  have h6 : LBase w w6 rb SB LB b1 s fv xv svs _ := h.touch hn (Touch.of_row hg) (fun k hk => (hw.pr.lt k (blkL_mem.1 hk)).1)
  have h3 := hn.h3
  have ht : Touch [LB] w6 (w6.setCell ⟨LB, 5, none⟩ v6) := (Touch.refl _ _).setCell (by simp) _
  refine ⟨h6.lb 5 _ rfl, h6.set hn 5 v6, LNew.touch (W := w6) ⟨hw.sl.kept hg (own_ne hw.sl hw.pr (by decide)), hw.st.kept hg (own_ne hw.st hw.pr (by decide)), ?_⟩ ht (by simpa using h3)⟩
  rw [List.length_append]
  unfold boolsI at ho ⊢
  rw [List.map_append]
  exact ho
theorem LNew.set {W : World} {b1 LB : Nat} {slv stv prv : Value} {ps : List (List UInt8)} {sts : List Nat} {fl : List Bool} (h : LNew W b1 slv stv prv ps sts fl) (hl : LB < b1) (j : Nat) (v : Value) : LNew (W.setCell ⟨LB, j, none⟩ v) b1 slv stv prv ps sts fl :=
  h.touch (L := [LB]) ((Touch.refl _ _).setCell (by simp) _) (by simpa using hl)
/-- the cells of file i of the list, and its slices -/
theorem OldSet.file {W : World} {rb SB : Nat} {s : SetL} {fa : Option Addr} {n fc : Nat} {xv : Value} {svs : List Value} (h : OldSet W rb SB s (.slice fa n fc) xv svs) (i : Nat) (hi : i < s.files.length) :
    ∃ bb off sa sc, fa = some ⟨bb, off, none⟩ ∧ W.cell? ⟨bb, off + i * 4, none⟩ = some (.string (str s.files[i].name)) ∧ W.cell? ⟨bb, off + i * 4 + 1, none⟩ = some (.int .i64 (s.files[i].long : Int)) ∧ W.cell? ⟨bb, off + i * 4 + 2, none⟩ = some (.int .u64 (s.files[i].hash : Int)) ∧
      W.cell? ⟨bb, off + i * 4 + 3, none⟩ = some (.slice sa s.files[i].slices.length sc) ∧ Rd W sa (u64V s.files[i].slices) := by
  have hsl : i < svs.length := by rw [h.rows.1]; exact hi
  have hrow := h.rows.2 i s.files[i] svs[i] (List.getElem?_eq_getElem hi) (List.getElem?_eq_getElem hsl)
  obtain ⟨sa, sc, hsv, hrd⟩ := row_rd hrow
  obtain ⟨a', c', he, hr⟩ := row_rd h.files
  cases he
  have hz : i < (s.files.zip svs).length := by rw [List.length_zip]; omega
  have hzi : (s.files.zip svs)[i] = (s.files[i], svs[i]) := by simp
  have key : ∀ j, j < 4 → (descCells s.files svs)[i * 4 + j]? = [Value.string (str s.files[i].name), .int .i64 (s.files[i].long : Int), .int .u64 (s.files[i].hash : Int), svs[i]][j]? := fun j hj => by
    have := flat_get (fun p : DescL × Value => [Value.string (str p.1.name), .int .i64 (p.1.long : Int), .int .u64 (p.1.hash : Int), p.2]) 4 (s.files.zip svs) (fun _ _ => rfl) i j hz hj
    rw [hzi] at this
    exact this
  obtain ⟨b0, o0, e0, k0⟩ := hr _ _ (key 0 (by omega))
  obtain ⟨b1, o1, e1, k1⟩ := hr _ _ (key 1 (by omega))
  obtain ⟨b2, o2, e2, k2⟩ := hr _ _ (key 2 (by omega))
  obtain ⟨b3, o3, e3, k3⟩ := hr _ _ (key 3 (by omega))
  subst e0
  cases e1
  cases e2
  cases e3
  rw [hsv] at k3
  exact ⟨b0, o0, sa, sc, rfl, k0, by rw [Nat.add_assoc]; exact k1, by rw [Nat.add_assoc]; exact k2, by rw [Nat.add_assoc]; exact k3, hrd⟩
end Go.Proofs.YtonjphollmdicaaGreatDoor
