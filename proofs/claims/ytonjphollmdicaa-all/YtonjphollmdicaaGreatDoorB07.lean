import Derived.Test.YtonjphollmdicaaGreatDoorB06
import Derived.Deep.RegionLawGrows
import Derived.Deep.DeepCutAuto
import Derived.Deep.OwnRows
set_option maxRecDepth 100000
set_option maxHeartbeats 4000000
set_option linter.unusedSimpArgs false
namespace Go.Proofs.YtonjphollmdicaaGreatDoor
open Go.ChangeShapes Go.WideShapes Go.ChangeAt Go.RowKit
theorem Mn {W w' : World} {v : Value} {n : Nat} {xs : List Value} (h : w'.ownsRow W.heap.size 80 1 v (0 + n) ([] ++ xs)) (h0 : 0 < n) :
    ∃ g c, v = .slice (some ⟨g, 0, none⟩) n c ∧ W.heap.size ≤ g ∧ g < w'.heap.size ∧ Rd w' (some ⟨g, 0, none⟩) xs := by
  rw [Nat.zero_add, List.nil_append] at h
  obtain ⟨a, c, hv, _, _, hr⟩ := Aw h
  rcases h.2 with ⟨_, h1⟩ | ⟨g, c', cur, hv', hg, hh, _⟩
  · omega
  · rw [hv] at hv'
    cases hv'
    exact ⟨g, c, hv, hg, (Array.getElem?_eq_some_iff.1 hh).1, hr⟩
theorem Fq {W w' : World} (h : W.grownBy w' none) : (∀ j o, j < W.heap.size → w'.cell? ⟨j, o, none⟩ = W.cell? ⟨j, o, none⟩) ∧ (∀ j o, j < W.heap.size → w'.frozen? ⟨j, o, none⟩ = W.frozen? ⟨j, o, none⟩) :=
  ⟨fun j o hj => World.cell?_of_block (h.block j hj (by simp)), fun j o hj => World.frozen?_of_block (h.block j hj (by simp))⟩
theorem AK {W : World} {p : Addr} (hl : p.block < W.heap.size) (o : Obj) : (W.alloc o).frozen? p = W.frozen? p :=
  World.frozen?_of_block (Below.heap_alloc W o p.block hl)
theorem An {W : World} {p : Addr} (hl : p.block < W.heap.size) (o : Obj) : (W.alloc o).cell? p = W.cell? p :=
  World.cell?_of_block (Below.heap_alloc W o p.block hl)
theorem PZ {W w' : World} {I : Nat} (h : W.grownBy w' none) (hI : I < W.heap.size) (c0 : W.cell? ⟨I, 0, none⟩ = some (.slice none 0 0)) (c1 : W.cell? ⟨I, 1, none⟩ = some (.slice none 0 0)) (f0 : W.frozen? ⟨I, 0, none⟩ = false) (f1 : W.frozen? ⟨I, 1, none⟩ = false) :
    (w'.cell? ⟨I, 0, none⟩ = some (.slice none 0 0) ∧ ∀ o, (w'.alloc o).cell? ⟨I, 0, none⟩ = some (.slice none 0 0)) ∧ (w'.cell? ⟨I, 1, none⟩ = some (.slice none 0 0) ∧ ∀ o, (w'.alloc o).cell? ⟨I, 1, none⟩ = some (.slice none 0 0)) ∧
    (w'.frozen? ⟨I, 0, none⟩ = false ∧ ∀ o, (w'.alloc o).frozen? ⟨I, 0, none⟩ = false) ∧ (w'.frozen? ⟨I, 1, none⟩ = false ∧ ∀ o, (w'.alloc o).frozen? ⟨I, 1, none⟩ = false) := by
  obtain ⟨hc, hf⟩ := Fq h
  have hl : I < w'.heap.size := Nat.lt_of_lt_of_le hI h.size
  refine ⟨⟨?_, fun o => ?_⟩, ⟨?_, fun o => ?_⟩, ⟨?_, fun o => ?_⟩, ⟨?_, fun o => ?_⟩⟩
  · rw [hc I 0 hI, c0]
  · rw [An hl, hc I 0 hI, c0]
  · rw [hc I 1 hI, c1]
  · rw [An hl, hc I 1 hI, c1]
  · rw [hf I 0 hI, f0]
  · rw [AK hl, hf I 0 hI, f0]
  · rw [hf I 1 hI, f1]
  · rw [AK hl, hf I 1 hI, f1]
theorem MO {W w' : World} (I : Nat) (h : W.grownBy w' none) : I < W.heap.size → W.cell? ⟨I, 0, none⟩ = some (.slice none 0 0) → W.cell? ⟨I, 1, none⟩ = some (.slice none 0 0) → W.frozen? ⟨I, 0, none⟩ = false → W.frozen? ⟨I, 1, none⟩ = false →
    (w'.cell? ⟨I, 0, none⟩ = some (.slice none 0 0) ∧ ∀ o, (w'.alloc o).cell? ⟨I, 0, none⟩ = some (.slice none 0 0)) ∧ (w'.cell? ⟨I, 1, none⟩ = some (.slice none 0 0) ∧ ∀ o, (w'.alloc o).cell? ⟨I, 1, none⟩ = some (.slice none 0 0)) ∧
    (w'.frozen? ⟨I, 0, none⟩ = false ∧ ∀ o, (w'.alloc o).frozen? ⟨I, 0, none⟩ = false) ∧ (w'.frozen? ⟨I, 1, none⟩ = false ∧ ∀ o, (w'.alloc o).frozen? ⟨I, 1, none⟩ = false) :=
  fun hI c0 c1 f0 f1 => PZ h hI c0 c1 f0 f1
structure Base (w W : World) : Prop where
  below : Below w.heap.size w W
  lt : w.heap.size < W.heap.size
  c0 : W.cell? ⟨w.heap.size, 0, none⟩ = some (.slice none 0 0)
  c1 : W.cell? ⟨w.heap.size, 1, none⟩ = some (.slice none 0 0)
  f0 : W.frozen? ⟨w.heap.size, 0, none⟩ = false
  f1 : W.frozen? ⟨w.heap.size, 1, none⟩ = false
theorem Base.start (w : World) : Base w (w.alloc (.cells #[.slice none 0 0, .slice none 0 0] 201)) :=
  ⟨(Below.refl _ _).alloc (Nat.le_refl _) _, by simp, by simp, by simp, by simp, by simp⟩
theorem Base.drew {w W : World} (h : Base w W) : Base w W.drew := ⟨h.below.drew, h.lt, h.c0, h.c1, h.f0, h.f1⟩
theorem Base.alloc {w W : World} (h : Base w W) (o : Obj) : Base w (W.alloc o) :=
  ⟨h.below.alloc h.below.size _, by have := h.lt; simp; omega, by rw [An h.lt]; exact h.c0, by rw [An h.lt]; exact h.c1, by rw [AK h.lt]; exact h.f0, by rw [AK h.lt]; exact h.f1⟩
theorem Base.grown {w W w' : World} (h : Base w W) (hg : W.grownBy w' none) : Base w w' := by
  obtain ⟨hc, hf⟩ := Fq hg
  exact ⟨h.below.grown hg h.below.size (by simp), Nat.lt_of_lt_of_le h.lt hg.size, by rw [hc _ _ h.lt]; exact h.c0, by rw [hc _ _ h.lt]; exact h.c1, by rw [hf _ _ h.lt]; exact h.f0, by rw [hf _ _ h.lt]; exact h.f1⟩
theorem Cp {W : World} {p q : Addr} {v : Value} (h : q.block ≠ p.block) : (W.setCell p v).cell? q = W.cell? q := World.cell?_of_block (Below.heap_setCell W p v q.block h)
theorem DA {W : World} {p q : Addr} {v : Value} (h : q.block ≠ p.block) : (W.setCell p v).frozen? q = W.frozen? q := World.frozen?_of_block (Below.heap_setCell W p v q.block h)
theorem Base.set {w W : World} (h : Base w W) (p : Addr) (v : Value) (hp : w.heap.size < p.block) : Base w (W.setCell p v) :=
  ⟨h.below.setCell (by omega) _, by have := h.lt; simpa using this, by rw [Cp (by simp; omega)]; exact h.c0, by rw [Cp (by simp; omega)]; exact h.c1, by rw [DA (by simp; omega)]; exact h.f0, by rw [DA (by simp; omega)]; exact h.f1⟩
def Free (W : World) (s : Nat) (zs : List Nat) : Prop := ∀ j, j < zs.length → W.cell? ⟨s, j, none⟩ = some (.int .u16 ((zs.getD j 0 : Nat) : Int)) ∧ W.frozen? ⟨s, j, none⟩ = false
theorem Free.made (W : World) (n : Nat) : Free (W.alloc (.cells (madeCells #[.int .u16 0] n) 80)) W.heap.size (List.replicate n 0) := by
  intro j hj
  have hn : j < n := by simpa using hj
  have hh : (W.alloc (.cells (madeCells #[.int .u16 0] n) 80)).heap[W.heap.size]? = some (.cells (madeCells #[.int .u16 0] n) 80 (0, 0)) := heap_alloc_new W _
  refine ⟨?_, frozen_of_row _ _ _ _ _ hh⟩
  rw [cell_of_row _ _ _ _ _ _ hh]
  simp [madeCells, hn, Nat.mod_one]
theorem Free.lt {W : World} {s : Nat} {zs : List Nat} (h : Free W s zs) (h0 : 0 < zs.length) : s < W.heap.size := World.block_lt_of_cell? W _ (h 0 h0).1
theorem Free.alloc {W : World} {s : Nat} {zs : List Nat} (h : Free W s zs) (o : Obj) : Free (W.alloc o) s zs := by
  intro j hj
  have hl : s < W.heap.size := h.lt (by omega)
  rw [An hl, AK hl]
  exact h j hj
theorem Free.drew {W : World} {s : Nat} {zs : List Nat} (h : Free W s zs) : Free W.drew s zs := h
theorem Free.grown {W w' : World} {s : Nat} {zs : List Nat} (h : Free W s zs) (hg : W.grownBy w' none) : Free w' s zs := by
  intro j hj
  obtain ⟨hc, hf⟩ := Fq hg
  have hl : s < W.heap.size := h.lt (by omega)
  rw [hc _ _ hl, hf _ _ hl]
  exact h j hj
theorem Free.set {W : World} {s : Nat} {zs : List Nat} (h : Free W s zs) (p : Addr) (v : Value) (hp : s ≠ p.block) : Free (W.setCell p v) s zs := by
  intro j hj
  rw [Cp (by simpa using hp), DA (by simpa using hp)]
  exact h j hj
theorem Rd.alloc {W : World} {a : Option Addr} {xs : List Value} (h : Rd W a xs) (o : Obj) : Rd (W.alloc o) a xs := h.later (Nat.le_refl _) ((Below.refl _ _).alloc (Nat.le_refl _) _)
theorem Rd.drew {W : World} {a : Option Addr} {xs : List Value} (h : Rd W a xs) : Rd W.drew a xs := h
theorem Rd.set {W : World} {g : Nat} {xs : List Value} (h : Rd W (some ⟨g, 0, none⟩) xs) (p : Addr) (v : Value) (hp : g ≠ p.block) : Rd (W.setCell p v) (some ⟨g, 0, none⟩) xs := by
  intro k u hk
  obtain ⟨b, off, e, hc⟩ := h k u hk
  cases e
  exact ⟨g, 0, rfl, by rw [Cp (by simpa using hp)]; exact hc⟩
def Pair (W : World) (b : Nat) (x y : Value) : Prop := W.cell? ⟨b, 0, none⟩ = some x ∧ W.cell? ⟨b, 1, none⟩ = some y
theorem Pair.new (W : World) (x y : Value) (t : TypeId) : Pair (W.alloc (.cells #[x, y] t)) W.heap.size x y := ⟨by simp, by simp⟩
theorem Pair.alloc {W : World} {b : Nat} {x y : Value} (h : Pair W b x y) (o : Obj) : Pair (W.alloc o) b x y := by
  have hl : b < W.heap.size := World.block_lt_of_cell? W _ h.1
  exact ⟨by rw [An hl]; exact h.1, by rw [An hl]; exact h.2⟩
theorem Pair.drew {W : World} {b : Nat} {x y : Value} (h : Pair W b x y) : Pair W.drew b x y := h
theorem Pair.set {W : World} {b : Nat} {x y x' y' : Value} (h : Pair W b x' y') : Pair ((W.setCell ⟨b, 0, none⟩ x).setCell ⟨b, 1, none⟩ y) b x y := by
  constructor
  · rw [World.cell?_setCell_other _ _ _ _ (by simp), World.cell?_setCell_same _ _ _ h.1]
  · exact World.cell?_setCell_same _ _ _ (u := y') (by rw [World.cell?_setCell_other _ _ _ _ (by simp)]; exact h.2)
theorem Pair.other {W : World} {b : Nat} {x y : Value} (h : Pair W b x y) (p : Addr) (v : Value) (hp : b ≠ p.block) : Pair (W.setCell p v) b x y :=
  ⟨by rw [Cp (by simpa using hp)]; exact h.1, by rw [Cp (by simpa using hp)]; exact h.2⟩
def St (w : World) (pts : List Nat) (zs : List Nat) (p : Value) (W : World) : Prop :=
  ∃ gb g1 c1 g2, p = .pointer (some ⟨gb, 0, none⟩) ∧ Pair W gb (.slice (some ⟨g1, 0, none⟩) pts.length c1) (.slice (some ⟨g2, 0, none⟩) pts.length pts.length) ∧
    Rd W (some ⟨g1, 0, none⟩) (A9 pts) ∧ Free W g2 zs ∧ gb ≠ g2 ∧ g1 ≠ g2 ∧ w.heap.size < g2 ∧ w.heap.size < gb ∧ Base w W
theorem Free.made_at (W : World) (n s : Nat) (h : s = W.heap.size) : Free (W.alloc (.cells (madeCells #[.int .u16 0] n) 80)) s (List.replicate n 0) := by
  subst h; exact Free.made W n
theorem Pair.new_at (W : World) (x y : Value) (t : TypeId) (b : Nat) (h : b = W.heap.size) : Pair (W.alloc (.cells #[x, y] t)) b x y := by
  subst h; exact Pair.new W x y t
theorem Pair.grown {W w' : World} {b : Nat} {x y : Value} (h : Pair W b x y) (hg : W.grownBy w' none) : Pair w' b x y := by
  obtain ⟨hc, _⟩ := Fq hg
  have hl : b < W.heap.size := World.block_lt_of_cell? W _ h.1
  exact ⟨by rw [hc _ _ hl]; exact h.1, by rw [hc _ _ hl]; exact h.2⟩
theorem Pair.lt {W : World} {b : Nat} {x y : Value} (h : Pair W b x y) : b < W.heap.size := World.block_lt_of_cell? W _ h.1
def Fm (pts : List Nat) (i : Nat) : Nat := Math.inv (Mi pts i)
def AX (pts : List Nat) : List Nat := (List.range pts.length).map (Fm pts)
theorem Free.store {W : World} {s : Nat} {zs : List Nat} (h : Free W s zs) (k v : Nat) (hk : k < zs.length) : Free (W.setCell ⟨s, k, none⟩ (.int .u16 (v : Int))) s (zs.set k v) := by
  intro j hj
  have hj' : j < zs.length := by rw [List.length_set] at hj; exact hj
  have hfr : (W.setCell ⟨s, k, none⟩ (.int .u16 (v : Int))).frozen? ⟨s, j, none⟩ = W.frozen? ⟨s, j, none⟩ := by simp
  refine ⟨?_, by rw [hfr]; exact (h j hj').2⟩
  by_cases e : k = j
  · subst e
    rw [World.cell?_setCell_same _ _ _ (h k hk).1]
    simp [hk]
  · rw [World.cell?_setCell_other _ _ _ _ (by intro h'; cases h'; exact e rfl), (h j hj').1]
    simp [e]
theorem Free.rd {W : World} {s : Nat} {zs : List Nat} (h : Free W s zs) : Rd W (some ⟨s, 0, none⟩) (A9 zs) := by
  intro k u hk
  refine ⟨s, 0, rfl, ?_⟩
  have hl : k < zs.length := by have := (List.getElem?_eq_some_iff.1 hk).1; simpa [A9] using this
  rw [Nat.zero_add, (h k hl).1]
  simp [A9, hl] at hk
  rw [← hk]
  simp [hl]
section
variable {w w' : World} {pts : List Nat} {g cg : Nat}
theorem SV (hb : Base w w') (hgr : Rd w' (some ⟨g, 0, none⟩) (A9 pts)) (hgl : g < w'.heap.size) :
    St w pts (List.replicate pts.length 0) (.pointer (some ⟨w'.heap.size + 1, 0, none⟩)) ((w'.alloc (.cells (madeCells #[.int .u16 0] pts.length) 80)).alloc (.cells #[.slice (some ⟨g, 0, none⟩) pts.length cg, .slice (some ⟨w'.heap.size, 0, none⟩) pts.length pts.length] 201)) := by
  have := hb.lt
  exact ⟨_, g, cg, w'.heap.size, rfl, Pair.new_at _ _ _ _ _ (by simp), (hgr.alloc _).alloc _, (Free.made _ _).alloc _, by omega, by omega, by omega, by omega, (hb.alloc _).alloc _⟩
theorem Tc (hb : Base w w') (hgr : Rd w' (some ⟨g, 0, none⟩) (A9 pts)) (hgl : g < w'.heap.size) :
    St w pts (List.replicate pts.length 0) (.pointer (some ⟨w'.heap.size, 0, none⟩)) ((w'.alloc (.cells #[.slice (some ⟨g, 0, none⟩) pts.length cg, .slice (some ⟨w'.heap.size + 1, 0, none⟩) pts.length pts.length] 201)).alloc (.cells (madeCells #[.int .u16 0] pts.length) 80)) := by
  have := hb.lt
  exact ⟨_, g, cg, w'.heap.size + 1, rfl, (Pair.new _ _ _ _).alloc _, (hgr.alloc _).alloc _, Free.made_at _ _ _ (by simp), by omega, by omega, by omega, by omega, (hb.alloc _).alloc _⟩
theorem ST {s : Nat} (hb : Base w w') (hgr : Rd w' (some ⟨g, 0, none⟩) (A9 pts)) (hf : Free w' s (List.replicate pts.length 0)) (h0 : 0 < pts.length) (hs : w.heap.size < s) (hgs : s < g) :
    St w pts (List.replicate pts.length 0) (.pointer (some ⟨w'.heap.size, 0, none⟩)) (w'.alloc (.cells #[.slice (some ⟨g, 0, none⟩) pts.length cg, .slice (some ⟨s, 0, none⟩) pts.length pts.length] 201)) := by
  have := hb.lt
  have := hf.lt (by simpa using h0)
  exact ⟨_, g, cg, s, rfl, Pair.new _ _ _ _, hgr.alloc _, hf.alloc _, by omega, by omega, by omega, by omega, hb.alloc _⟩
theorem Tb {b s : Nat} {x y : Value} (hb : Base w w') (hgr : Rd w' (some ⟨g, 0, none⟩) (A9 pts)) (hf : Free w' s (List.replicate pts.length 0)) (hp : Pair w' b x y) (hs : w.heap.size < s) (hgs : s < g) (hbb : w.heap.size < b) (hgb : b < g) (hbs : b ≠ s) :
    St w pts (List.replicate pts.length 0) (.pointer (some ⟨b, 0, none⟩)) ((w'.setCell ⟨b, 0, none⟩ (.slice (some ⟨g, 0, none⟩) pts.length cg)).setCell ⟨b, 1, none⟩ (.slice (some ⟨s, 0, none⟩) pts.length pts.length)) :=
  ⟨_, g, cg, s, rfl, hp.set, (hgr.set _ _ (by simp; omega)).set _ _ (by simp; omega), (hf.set _ _ (by simp; omega)).set _ _ (by simp; omega), by omega, by omega, by omega, by omega, (hb.set _ _ (by simpa using hbb)).set _ _ (by simpa using hbb)⟩
theorem Td {b : Nat} {x y : Value} (hb : Base w w') (hgr : Rd w' (some ⟨g, 0, none⟩) (A9 pts)) (hgl : g < w'.heap.size) (hp : Pair w' b x y) (hbb : w.heap.size < b) (hgb : b < g) :
    St w pts (List.replicate pts.length 0) (.pointer (some ⟨b, 0, none⟩)) (((w'.alloc (.cells (madeCells #[.int .u16 0] pts.length) 80)).setCell ⟨b, 0, none⟩ (.slice (some ⟨g, 0, none⟩) pts.length cg)).setCell ⟨b, 1, none⟩ (.slice (some ⟨w'.heap.size, 0, none⟩) pts.length pts.length)) := by
  have := hb.lt
  exact ⟨_, g, cg, w'.heap.size, rfl, (hp.alloc _).set, ((hgr.alloc _).set _ _ (by simp; omega)).set _ _ (by simp; omega), ((Free.made _ _).set _ _ (by simp; omega)).set _ _ (by simp; omega), by omega, by omega, by omega, by omega, ((hb.alloc _).set _ _ (by simpa using hbb)).set _ _ (by simpa using hbb)⟩
end
theorem Hc (pts : List Nat) (a : Option Addr) (cap : Nat) (hn : pts.length ≤ 1000) (h0 : 0 < pts.length) (hp : ∀ x ∈ pts, x < 65536) (w : World) (hrd : Rd w a (A9 pts)) :
    Calls Tryz.prog 119 #[.slice a pts.length cap] w fun e w' => ∃ a1 c1 a2 c2, e = .returned (.agg #[.slice a1 pts.length c1, .slice a2 pts.length c2]) ∧ Rd w' a1 (A9 pts) ∧ Rd w' a2 (A9 (AX pts)) ∧ Below w.heap.size w w' := by
  obtain ⟨i0, hi, hz0, hz1, hz2⟩ := info_parts Tryz.info16
  obtain ⟨b0, off0, rfl, hc0⟩ := Ds hrd 0 h0
  have hmk : ∀ W : World, (Instr.makeSlice 121 (.int .i64 (pts.length : Int)) (.int .i64 (pts.length : Int))).run Tryz.prog W = .ok (.slice (some ⟨W.heap.size, 0, none⟩) pts.length pts.length) (W.alloc (.cells (madeCells #[.int .u16 0] pts.length) 80)) :=
    fun W => run_make_row' 121 80 (.int .u16 0) 2 Tryz.underlying121 Tryz.info16 rfl .i64 .i64 pts.length (by omega) (by omega) W
  have hnews : ∀ W, Below w.heap.size w W → ∀ j u, (A9 pts)[j]? = some u → W.cell? ((⟨b0, off0, none⟩ : Addr).add j) = some u := by
    intro W hW j u hj
    obtain ⟨b', off', e, hc⟩ := (hrd.later (Nat.le_refl _) hW) j u hj
    cases e
    have hadd : (⟨b0, off0, none⟩ : Addr).add j = ⟨b0, off0 + j, none⟩ := by unfold Addr.add; split <;> simp_all
    rw [hadd]
    exact hc
  have HNEWS := Aa hnews
  have hone : ∀ u ∈ A9 pts, u.oneCell' = true := by
    intro u hu; simp only [A9, List.mem_map] at hu; obtain ⟨c, _, rfl⟩ := hu; rfl
  have HONE := Aa hone
  clear hnews hone
  go_enter Tryz.func119, Tryz.ntmps119
  go_wp2_with fail
  go_cut [3] from 5 (fun p W => St w pts (List.replicate pts.length 0) p W)
  case first =>
    go_region_law (refine step_append_grows rfl (.tmp 5) (.tmp 6) 121 rfl 80 i0 (.int .u16 0) 1 2 Tryz.underlying121 hi hz0 hz1 hz2 rfl (by decide) _ 0 0 [] (by simp [Act.eval]; rfl) (by simp) rfl (by intro b _ j u hu; simp at hu) ⟨b0, off0, none⟩ pts.length cap (A9 pts) (by simp [Act.eval]) (by simp [A9]) (HNEWS.out _ (by repeat (first | exact Base.below (Base.start _) | apply Below.drew | (apply Below.alloc _ (by simp only [World.size_alloc]; omega))))) HONE.out (by omega) (by unfold maxLen; omega) (by omega) ?_; intro v' w' hown hgrow; obtain ⟨g, cg, hv, hgb, hgl, hgr⟩ := Mn hown h0; obtain ⟨hco, hfo⟩ := Fq hgrow; have hwsz := hgrow.size; simp only [World.size_alloc, World.size_drew] at hwsz; have q := MO (w.heap.size + 1) hgrow; have r := MO (w.heap.size + 1 + 1) hgrow; have s := MO (w.heap.size + 1 + 1 + 1) hgrow; (try simp at q); (try simp at r); (try simp at s); rw [hv]; clear hv hown)
    all_goals go_wp2_with fail
    all_goals go_meet
    all_goals
      have hbase : Base w w' := Base.grown (by repeat (first | with_reducible exact Base.start _ | with_reducible apply Base.drew | with_reducible apply Base.alloc)) hgrow
      simp only [World.size_alloc, World.size_drew] at hgb
      clear q r s hco hfo
      first
        | with_reducible exact SV hbase hgr hgl
        | with_reducible exact Tc hbase hgr hgl
        | (with_reducible refine ST hbase hgr (Free.grown ?_ hgrow) h0 ?_ ?_
           · repeat (first | with_reducible exact Free.made_at _ _ _ (by simp) | with_reducible apply Free.alloc | with_reducible apply Free.drew)
           · omega
           · omega)
        | (with_reducible refine Td (x := .slice none 0 0) (y := .slice none 0 0) hbase hgr hgl (Pair.grown ?_ hgrow) ?_ ?_
           · repeat (first | with_reducible exact Pair.new_at _ _ _ _ _ (by simp) | with_reducible apply Pair.alloc | with_reducible apply Pair.drew)
           · omega
           · omega)
        | (with_reducible refine Tb (x := .slice none 0 0) (y := .slice none 0 0) hbase hgr (Free.grown ?_ hgrow) (Pair.grown ?_ hgrow) ?_ ?_ ?_ ?_ ?_
           · repeat (first | with_reducible exact Free.made_at _ _ _ (by simp) | with_reducible apply Free.alloc | with_reducible apply Free.drew)
           · repeat (first | with_reducible exact Pair.new_at _ _ _ _ _ (by simp) | with_reducible apply Pair.alloc | with_reducible apply Pair.drew)
           · omega
           · omega
           · omega
           · omega
           · omega)
  case rest =>
    obtain ⟨gb, g1, c1, g2, rfl, hpair, hpts, hfree, hne, hne2, hlt2, hltb, hbase⟩ := hcut
    have hz : List.replicate pts.length 0 = By pts.length 0 (Fm pts) (fun _ => 0) := by
      rw [Dq]
      apply List.ext_getElem
      · simp
      · intro j h1 h2; simp
    rw [hz] at hfree
    have H1 := Aa hpair
    have H2 := Aa hpts
    have H3 := Aa hfree
    have H4 := Aa hbase
    clear hpair hpts hfree hbase hz hmk HNEWS HONE hc0
    go_wp2_with fail
    go_loopw [4, 14] (fun _ i wr => ∃ k : Nat, k ≤ pts.length ∧ i = .int .i64 (k : Int) ∧ Free wr g2 (By pts.length k (Fm pts) (fun _ => 0)) ∧ Pair wr gb (.slice (some ⟨g1, 0, none⟩) pts.length c1) (.slice (some ⟨g2, 0, none⟩) pts.length pts.length) ∧ Rd wr (some ⟨g1, 0, none⟩) (A9 pts) ∧ Base w wr)
      (fun _ i _ => pts.length - (intOf i).toNat)
    case atStart => exact ⟨0, by omega, rfl, H3.out, H1.out, H2.out, H4.out⟩
    case round =>
      clear H1 H2 H3 H4
      obtain ⟨k, hk, rfl, hfree, hpair, hpts, hbase⟩ := hrel
      by_cases hlt : k < pts.length
      · have hrdr := hrd.later (Nat.le_refl _) hbase.below
        have hcb := hpair.2
        have hcs := (hfree k (by rw [Bt]; exact hlt)).1
        have hcf := (hfree k (by rw [Bt]; exact hlt)).2
        have hst := hfree.store k (Fm pts k) (by rw [Bt]; exact hlt)
        rw [FF] at hst
        have hst2 := hpair.other ⟨g2, k, none⟩ (.int .u16 ((Fm pts k : Nat) : Int)) hne
        have hst3 := hpts.set ⟨g2, k, none⟩ (.int .u16 ((Fm pts k : Nat) : Int)) hne2
        have hst4 := hbase.set ⟨g2, k, none⟩ (.int .u16 ((Fm pts k : Nat) : Int)) hlt2
        have H1 := Aa hst
        have H2 := Aa hst2
        have H3 := Aa hst3
        have H4 := Aa hst4
        have H5 := Aa hrdr
        have HRD := Aa hrd
        clear hst hst2 hst3 hst4 hfree hpair hpts hbase hrdr hrd
        have hdl := Nm pts k
        obtain ⟨zk, hzk⟩ : ∃ x, x = (By pts.length k (Fm pts) (fun _ => 0)).getD k 0 := ⟨_, rfl⟩
        rw [← hzk] at hcs
        obtain ⟨dk, hdk⟩ : ∃ x, x = Mi pts k := ⟨_, rfl⟩
        rw [← hdk] at hdl
        have HDK := Aa hdk
        have hik : Math.inv dk = Fm pts k := by unfold Fm; rw [← HDK.out]
        have HIK := Aa hik
        clear hzk hdk hik
        go_wp2_with fail
        go_region_with (first
          | (go_at_call 138; refine (Hq pts k (some ⟨b0, off0, none⟩) cap hn hlt hp _ ?_).mono ?_; exact H5.out; rintro e w' ⟨rfl, rfl⟩; rw [← HDK.out])
          | (go_at_call 137; refine (KK dk hdl _).mono ?_; rintro e w' ⟨rfl, rfl⟩))
        all_goals
          rw [HIK.out]
          go_wp2_with fail
          go_roundw
          case rel => exact ⟨k + 1, by omega, by go_num, H1.out, H2.out, H3.out, H4.out.drew⟩
          case measure => simp [intOf]; omega
      · obtain rfl : k = pts.length := by omega
        rw [Dt] at hfree
        have hcb0 := hpair.1
        have hcb1 := hpair.2
        have k0 := hbase.c0
        have k1 := hbase.c1
        have k2 := hbase.f0
        have k3 := hbase.f1
        have hg1 : g1 ≠ w.heap.size := by
          intro e
          obtain ⟨b', off', e', hc'⟩ := Ds hpts 0 h0
          cases e'
          rw [e, Nat.zero_add, k0] at hc'
          cases hc'
        have hr1 := (hpts.set ⟨w.heap.size, 0, none⟩ (.slice (some ⟨g1, 0, none⟩) pts.length c1) hg1).set ⟨w.heap.size, 1, none⟩ (.slice (some ⟨g2, 0, none⟩) pts.length pts.length) hg1
        have hr2 := (hfree.rd.set ⟨w.heap.size, 0, none⟩ (.slice (some ⟨g1, 0, none⟩) pts.length c1) (by simp; omega)).set ⟨w.heap.size, 1, none⟩ (.slice (some ⟨g2, 0, none⟩) pts.length pts.length) (by simp; omega)
        have hr3 := (hbase.below.setCell (p := ⟨w.heap.size, 0, none⟩) (Nat.le_refl _) (.slice (some ⟨g1, 0, none⟩) pts.length c1)).setCell (p := ⟨w.heap.size, 1, none⟩) (Nat.le_refl _) (.slice (some ⟨g2, 0, none⟩) pts.length pts.length)
        obtain ⟨m0, m1⟩ : Pair ((wr.setCell ⟨w.heap.size, 0, none⟩ (.slice (some ⟨g1, 0, none⟩) pts.length c1)).setCell ⟨w.heap.size, 1, none⟩ (.slice (some ⟨g2, 0, none⟩) pts.length pts.length)) w.heap.size (.slice (some ⟨g1, 0, none⟩) pts.length c1) (.slice (some ⟨g2, 0, none⟩) pts.length pts.length) := Pair.set (x' := .slice none 0 0) (y' := .slice none 0 0) ⟨k0, k1⟩
        have H1 := Aa hr1
        have H2 := Aa hr2
        have H3 := Aa hr3
        clear hr1 hr2 hr3 hfree hpts hpair hbase
        go_wp2_with fail
        refine bodyPost_ret (v := .agg #[.slice (some ⟨g1, 0, none⟩) pts.length c1, .slice (some ⟨g2, 0, none⟩) pts.length pts.length]) (by simp [results, Tryz.results119, go_sem, m0, m1]) rfl ?_
        exact ⟨_, _, _, _, rfl, H1.out, H2.out, H3.out⟩
end Go.Proofs.YtonjphollmdicaaGreatDoor
