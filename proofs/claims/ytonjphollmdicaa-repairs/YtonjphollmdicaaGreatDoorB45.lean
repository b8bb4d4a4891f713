import Derived.Test.YtonjphollmdicaaGreatDoorB43
import Derived.Test.YtonjphollmdicaaGreatDoorB44
import Derived.Test.YtonjphollmdicaaGreatDoorRows
import Derived.WalkKit
import Derived.ProofKit
import Derived.OpenShut
import Derived.ShutString
import Derived.ChangeOld
import Derived.Below
import Derived.LaidMore
import Derived.Stop.Joined
import Derived.Deep.SlicePairs
import Derived.Lib.SmallJoins
import Derived.Lib.LaidTab
import Derived.Test.YtonjphollmdicaaGreatDoorCards
import Derived.Test.YtonjphollmdicaaGreatDoorTie
import Derived.Deep.DeepHandedRow
namespace Go.Proofs.YtonjphollmdicaaGreatDoor
open Go.ChangeShapes Go.WideShapes Go.ChangeAt Go.RowKit
open Go.Joins Go.Deep
def Light {H : Type} (t : TypeId) (d : DataW H) : Prop := ∀ n ∈ d.weights Tryz.prog t, n ≤ 140737488351232
theorem light_all {H : Type} {e : TypeId} : ∀ {l : List (DataW H)} {d : DataW H}, (∀ n ∈ DataW.weightsAll Tryz.prog e l, n ≤ 140737488351232) → d ∈ l → Light e d
 | [], _, _, hd => by cases hd
 | x :: r, d, hw, hd => by
  simp only [DataW.weightsAll, List.mem_append] at hw
  rcases List.mem_cons.1 hd with rfl | hd
  ·exact fun n hn => hw n (.inl hn)
  ·exact light_all (fun n hn => hw n (.inr hn)) hd
theorem light_slice {H : Type} {t e : TypeId} {elems spare : List (DataW H)} (ht : Tryz.prog.underlying t = some (.slice e)) (h : Light t (.slice elems spare)) : elems.length * Tryz.prog.bytesOf e ≤ 140737488351232 ∧ ∀ d ∈ elems, Light e d := by
 unfold Light at h
 simp only [DataW.weights, ht, List.mem_cons, List.mem_append] at h
 refine ⟨Nat.le_trans (Nat.mul_le_mul_right _ (Nat.le_add_right _ _)) (h _ (.inl rfl)), fun d hd => light_all (fun n hn => h n (.inr (.inl hn))) hd⟩
theorem light_text {H : Type} {t : TypeId} {l : List UInt8} (h : Light t (.lit (.string l) : DataW H)) : l.length ≤ 140737488351232 := h _ (by simp [DataW.weights])
theorem Tryz.bytesF : Tryz.prog.bytesOf 62 = 32 := by kernel_rfl
theorem Tryz.bytesS : Tryz.prog.bytesOf 9 = 16 := by kernel_rfl
theorem Tryz.bytesI : Tryz.prog.bytesOf 3 = 8 := by kernel_rfl
theorem Tryz.cellsF : Tryz.prog.cellsOf 62 = 2 := by kernel_rfl
theorem Tryz.cellsS : Tryz.prog.cellsOf 9 = 1 := by kernel_rfl
theorem Tryz.cellsI : Tryz.prog.cellsOf 3 = 1 := by kernel_rfl
theorem Tryz.cellsL : Tryz.prog.cellsOf 31 = 1 := by kernel_rfl
theorem addr_flat (b off j : Nat) : (⟨b, off, none⟩ : Addr).add j = ⟨b, off + j, none⟩ := by unfold Addr.add; split <;> simp_all
section
variable {H : Type} {enc : TypeId × Value → H} {W : World}
theorem open_ones {t e : TypeId} {fuel : Nat} {c : Value} {x : DataW H × List MemPlace} (ht : Tryz.prog.underlying t = some (.slice e)) (hc1 : Tryz.prog.cellsOf e = 1) (hw : Light t x.1) (h : DataW.trod enc Tryz.prog W 0 (fun _ => true) true fuel t [c] = some x) :
  (c = .slice none 0 0) ∨ ∃ (a : Addr) (len cap n : Nat) (V : Nat → Value) (D : Nat → DataW H) (Q : Nat → List MemPlace), c = .slice (some a) len cap ∧ len ≤ cap ∧ (len * Tryz.prog.bytesOf e ≤ 140737488351232 ∧ ∀ i, i < len → Light e (D i)) ∧
   ∀ i, i < len → (∃ b off, a = ⟨b, off, none⟩ ∧ W.cell? ⟨b, off + i, none⟩ = some (V i)) ∧ DataW.trod enc Tryz.prog W 0 (fun _ => true) true n e [V i] = some (D i, Q i) := by
 rcases open_slice ht h with ⟨h0, _⟩ | ⟨a, len, cap, m, n, D, Pl, hcs, hb, hl, hm, hmm, rfl, hx⟩
 ·exact Or.inl (by simpa using h0)
 ·have hlm : len ≤ m := by rw [hmm]; split <;> omega
  have each : ∀ i, i < len → ∃ v : Value, W.cell? (a.add i) = some v ∧ DataW.trod enc Tryz.prog W 0 (fun _ => true) true n e [v] = some (D i, Pl i) := fun i hi => by
   obtain ⟨cs', h1, h2⟩ := hx i (by omega)
   rw [hc1, Nat.mul_one] at h1
   obtain ⟨_, hlen, hcell⟩ := World.cells?_some h1
   match cs', hlen with
   | [v], _ =>
    have := hcell 0 (by omega)
    rw [add_add, Nat.add_zero] at this
    exact ⟨v, by simpa using this, h2⟩
  obtain ⟨V, hV⟩ := choose_lt each
  refine Or.inr ⟨a, len, cap, n, V, D, Pl, by simpa using hcs, hl, ?_, fun i hi => ⟨?_, (hV i hi).2⟩⟩
  ·obtain ⟨l1, l2⟩ := light_slice ht hw
   rw [List.length_map, List.length_range] at l1
   exact ⟨l1, fun i hi => l2 _ (List.mem_map.2 ⟨i, List.mem_range.2 hi, rfl⟩)⟩
  ·obtain ⟨b, off, spot⟩ := a
   have h1 := (hV i hi).1
   have hspot : spot = none := by simpa [Addr.add] using World.cell?_spot (hV 0 (by omega)).1
   subst hspot
   rw [addr_flat] at h1
   exact ⟨b, off, rfl, h1⟩
theorem open_texts {fuel : Nat} {c : Value} {x : DataW H × List MemPlace} (h : DataW.trod enc Tryz.prog W 0 (fun _ => true) true fuel 23 [c] = some x) (hb : Light 23 x.1) :
  ∃ (vs : List (List UInt8)) (a : Option Addr) (cap : Nat), c = .slice a vs.length cap ∧ Rd W a (strV vs) ∧ vs.length ≤ 8796093022200 ∧ ∀ v ∈ vs, v.length ≤ 140737488355328 := by
 rcases open_ones Tryz.underlying23 Tryz.cellsS hb h with rfl | ⟨a, len, cap, n, V, D, Q, rfl, hl, hbk, hV⟩
 ·exact ⟨[], none, 0, rfl, fun k u hk => by simp [strV] at hk, by simp, by simp⟩
 ·have hs : ∀ i, i < len → ∃ l : List UInt8, V i = .string (str l) ∧ D i = .lit (.string l) := fun i hi => by
   obtain ⟨s, e0, x0, _⟩ := DataW.trod_string Tryz.underlying9 (hV i hi).2
   have e1 : V i = .string s := by simpa using e0
   exact ⟨s.data.toList, by rw [e1, ← str_of], congrArg Prod.fst x0⟩
  obtain ⟨f, hf⟩ := choose_lt hs
  have hlen : ((List.range len).map f).length = len := by simp
  obtain ⟨hll, hlt⟩ := hbk
  rw [Tryz.bytesS] at hll
  refine ⟨(List.range len).map f, some a, cap, by rw [hlen], ?_, by rw [hlen]; omega, ?_⟩
  ·intro k u hk
   have hkl : k < len := by
    have := (List.getElem?_eq_some_iff.1 hk).1
    simpa [strV] using this
   obtain ⟨⟨b, off, rfl, hc⟩, _⟩ := hV k hkl
   rw [(hf k hkl).1] at hc
   have : u = .string (str (f k)) := by
    simp [strV, List.getElem?_range hkl] at hk
    exact hk.symm
   rw [this]
   exact ⟨b, off, rfl, hc⟩
  ·intro v hv
   obtain ⟨i, hi, rfl⟩ := List.mem_map.1 hv
   have hi := List.mem_range.1 hi
   have h1 := hlt i hi
   rw [(hf i hi).2] at h1
   have := light_text h1
   omega
theorem open_ints {fuel : Nat} {c : Value} {x : DataW H × List MemPlace} (h : DataW.trod enc Tryz.prog W 0 (fun _ => true) true fuel 31 [c] = some x) (hb : Light 31 x.1) :
  ∃ (q : List Int × Option Addr × Nat), c = .slice q.2.1 q.1.length q.2.2 ∧ Rd W q.2.1 (q.1.map (Value.int .i64)) ∧ q.1.length ≤ 17592186044416 ∧ ∀ z ∈ q.1, -9223372036854775808 ≤ z ∧ z ≤ 9223372036854775807 := by
 rcases open_ones Tryz.underlying31 Tryz.cellsI hb h with rfl | ⟨a, len, cap, n, V, D, Q, rfl, hl, hbk, hV⟩
 ·exact ⟨([], none, 0), rfl, fun k u hk => by simp at hk, by simp, by simp⟩
 ·have hs : ∀ i, i < len → ∃ z : Int, V i = .int .i64 z ∧ -9223372036854775808 ≤ z ∧ z ≤ 9223372036854775807 := fun i hi => by
   obtain ⟨z, e0, _, hw⟩ := DataW.trod_int Tryz.underlying3 (hV i hi).2
   have e1 : IntKind.i64.min = -9223372036854775808 := by decide
   have e2 : IntKind.i64.max = 9223372036854775807 := by decide
   have hw : (decide (IntKind.i64.min ≤ z) && decide (z ≤ IntKind.i64.max)) = true := hw
   rw [e1, e2] at hw
   simp only [Bool.and_eq_true, decide_eq_true_eq] at hw
   exact ⟨z, by simpa using e0, hw.1, hw.2⟩
  obtain ⟨f, hf⟩ := choose_lt hs
  have hlen : ((List.range len).map f).length = len := by simp
  obtain ⟨hll, _⟩ := hbk
  rw [Tryz.bytesI] at hll
  refine ⟨((List.range len).map f, some a, cap), by rw [hlen], ?_, by rw [hlen]; omega, ?_⟩
  ·intro k u hk
   have hkl : k < len := by
    have := (List.getElem?_eq_some_iff.1 hk).1
    simpa using this
   obtain ⟨⟨b, off, rfl, hc⟩, _⟩ := hV k hkl
   rw [(hf k hkl).1] at hc
   have : u = .int .i64 (f k) := by
    simp [List.getElem?_range hkl] at hk
    exact hk.symm
   rw [this]
   exact ⟨b, off, rfl, hc⟩
  ·intro z hz
   obtain ⟨i, hi, rfl⟩ := List.mem_map.1 hz
   exact (hf i (List.mem_range.1 hi)).2
theorem open_packets {fuel : Nat} {c : Value} {x : DataW H × List MemPlace} (h : DataW.trod enc Tryz.prog W 0 (fun _ => true) true fuel 24 [c] = some x) (hb : Light 24 x.1) :
  ∃ (pk : List (List Int)) (a : Option Addr) (cap : Nat), c = .slice a pk.length cap ∧ RdPk W a pk ∧ (∀ ks ∈ pk, ks.length ≤ 17592186044416) ∧ ∀ ks ∈ pk, ∀ z ∈ ks, -9223372036854775808 ≤ z ∧ z ≤ 9223372036854775807 := by
 rcases open_ones Tryz.underlying24 Tryz.cellsL hb h with rfl | ⟨a, len, cap, n, V, D, Q, rfl, hl, hbk, hV⟩
 ·exact ⟨[], none, 0, rfl, fun i ks hi => by simp at hi, by simp, by simp⟩
 ·have hs : ∀ i, i < len → ∃ q : List Int × Option Addr × Nat, V i = .slice q.2.1 q.1.length q.2.2 ∧ Rd W q.2.1 (q.1.map (Value.int .i64)) ∧ q.1.length ≤ 17592186044416 ∧ ∀ z ∈ q.1, -9223372036854775808 ≤ z ∧ z ≤ 9223372036854775807 := fun i hi =>
   open_ints (hV i hi).2 (hbk.2 i hi)
  obtain ⟨f, hf⟩ := choose_lt hs
  have hlen : ((List.range len).map fun i => (f i).1).length = len := by simp
  refine ⟨(List.range len).map fun i => (f i).1, some a, cap, by rw [hlen], ?_, ?_, ?_⟩
  ·intro i ks hi
   have hkl : i < len := by
    have := (List.getElem?_eq_some_iff.1 hi).1
    simpa using this
   obtain ⟨⟨b, off, rfl, hc⟩, _⟩ := hV i hkl
   rw [(hf i hkl).1] at hc
   have : ks = (f i).1 := by
    simp [List.getElem?_range hkl] at hi
    exact hi.symm
   rw [this]
   exact ⟨b, off, _, _, rfl, hc, (hf i hkl).2.1⟩
  ·intro ks hks
   obtain ⟨i, hi, rfl⟩ := List.mem_map.1 hks
   exact (hf i (List.mem_range.1 hi)).2.2.1
  ·intro ks hks
   obtain ⟨i, hi, rfl⟩ := List.mem_map.1 hks
   exact (hf i (List.mem_range.1 hi)).2.2.2
theorem open_files {fuel : Nat} {c : Value} {x : DataW H × List MemPlace} (h : DataW.trod enc Tryz.prog W 0 (fun _ => true) true fuel 22 [c] = some x) (hb : Light 22 x.1) :
  ∃ (fs : List FileL) (a : Option Addr) (cap : Nat), c = .slice a fs.length cap ∧ (a = none → cap = 0) ∧ fs.length + 8 ≤ 4398046511104 ∧ Handed W fs a cap := by
 rcases open_slice_pairs Tryz.underlying22 Tryz.underlying62 Tryz.cellsF rfl rfl Tryz.cellsS Tryz.cellsS h with ⟨hcs, _⟩ | ⟨a, len, cap, m, n, V0, V1, D0, D1, P0, P1, hcs, _, hl, hm, hmm, rfl, hcell⟩
 ·have hcs : c = .slice none 0 0 := by simpa using hcs
  subst hcs
  exact ⟨[], none, 0, rfl, fun _ => rfl, by simp, ⟨fun k u hk => by simp [filesV] at hk, by simp, by simp⟩⟩
 ·have hcs : c = .slice (some a) len cap := by simpa using hcs
  subst hcs
  have hlm : len ≤ m := by rw [hmm]; split <;> omega
  have hs : ∀ i, i < len → ∃ f : FileL, V0 i = .string (str f.1) ∧ V1 i = .string (str f.2) ∧ D0 i = .lit (.string f.1) ∧ D1 i = .lit (.string f.2) := fun i hi => by
   obtain ⟨_, _, t0, t1⟩ := hcell i (by omega)
   obtain ⟨s0, e0, x0, _⟩ := DataW.trod_string Tryz.underlying9 t0
   obtain ⟨s1, e1, x1, _⟩ := DataW.trod_string Tryz.underlying9 t1
   have e0' : V0 i = .string s0 := by simpa using e0
   have e1' : V1 i = .string s1 := by simpa using e1
   exact ⟨(s0.data.toList, s1.data.toList), by rw [e0', ← str_of], by rw [e1', ← str_of], congrArg Prod.fst x0, congrArg Prod.fst x1⟩
  obtain ⟨f, hf⟩ := choose_lt hs
  have hlen : ((List.range len).map f).length = len := by simp
  obtain ⟨hll, hlt⟩ := light_slice Tryz.underlying22 hb
  rw [List.length_map, List.length_range, Tryz.bytesF] at hll
  refine ⟨(List.range len).map f, some a, cap, by rw [hlen], fun h0 => (by cases h0), by rw [hlen]; omega, ⟨?_, by rw [hlen]; exact hl, ?_⟩⟩
  ·intro k u hk
   have hkl : k < 2 * len := by
    have := (List.getElem?_eq_some_iff.1 hk).1
    rw [filesV_length] at this
    simpa using this
   obtain ⟨b, off, spot⟩ := a
   have hi : k / 2 < len := by omega
   have hspot : spot = none := by
    have h2 := (hcell 0 (by omega)).1
    rw [Nat.zero_mul] at h2
    simpa [Addr.add] using World.cell?_spot h2
   subst hspot
   refine ⟨b, off, rfl, ?_⟩
   obtain ⟨g1, g2⟩ := filesV_get ((List.range len).map f) (k / 2) (by rw [hlen]; exact hi)
   have e1 : ((List.range len).map f)[k / 2]'(by rw [hlen]; exact hi) = f (k / 2) := by simp
   rw [e1, ← (hf _ hi).1] at g1
   rw [e1, ← (hf _ hi).2.1] at g2
   rcases Nat.mod_two_eq_zero_or_one k with h | h
   ·rw [show 2 * (k / 2) = k from by omega, hk] at g1
    cases g1
    have := (hcell (k / 2) (by omega)).1
    rw [addr_flat, show k / 2 * 2 = k from by omega] at this
    exact this
   ·rw [show 2 * (k / 2) + 1 = k from by omega, hk] at g2
    cases g2
    have := (hcell (k / 2) (by omega)).2.1
    rw [addr_flat, show k / 2 * 2 + 1 = k from by omega] at this
    exact this
  ·intro g hg
   obtain ⟨i, hi, rfl⟩ := List.mem_map.1 hg
   have hi := List.mem_range.1 hi
   have h1 := hlt _ (List.mem_map.2 ⟨i, List.mem_range.2 hi, rfl⟩ : (.agg [D0 i, D1 i] : DataW H) ∈ (List.range len).map fun i => (.agg [D0 i, D1 i] : DataW H))
   rw [(hf i hi).2.2.1, (hf i hi).2.2.2] at h1
   unfold Light at h1
   simp [DataW.weights, DataW.weightsEach, Tryz.underlying62] at h1
   omega
set_option maxRecDepth 100000 in
theorem open_plan {v : Value} {b0 : Nat} {d : DataW H} {p : List MemPlace} (hv : Value.okWide Tryz.prog W .any b0 26 v) (h : DataW.Trod enc Tryz.prog W 0 (fun _ => true) true 26 v d p) (hb : Light 26 d) :
  ∃ (fs0 fs : List FileL) (bx ex : Int) (vs : List (List UInt8)) (pk : List (List Int)) (sa fa va pa : Option Addr) (sc fc vc pc : Nat),
   v = .agg #[.slice sa fs0.length sc, .int .i64 bx, .int .i64 ex, .slice fa fs.length fc, .slice va vs.length vc, .slice pa pk.length pc] ∧
   Handed W fs0 sa sc ∧ Handed W fs fa fc ∧ fs.length + 8 ≤ 4398046511104 ∧ (fa = none → fc = 0) ∧ Rd W va (strV vs) ∧ vs.length ≤ 8796093022200 ∧ (∀ v ∈ vs, v.length ≤ 140737488355328) ∧
   RdPk W pa pk ∧ (∀ ks ∈ pk, ks.length ≤ 17592186044416) ∧ (∀ ks ∈ pk, ∀ z ∈ ks, -9223372036854775808 ≤ z ∧ z ≤ 9223372036854775807) := by
 have hC : Tryz.prog.cellsOf 26 = 6 := by kernel_rfl
 obtain ⟨cs, rfl, hsz⟩ := okWide_struct Tryz.underlying26 hv
 rw [hC] at hsz
 obtain ⟨fuel, hf⟩ := h
 obtain ⟨xs, k, _, hxy, _, hxl, hfl⟩ := DataW.trod_struct Tryz.underlying26 hf
 obtain ⟨cl⟩ := cs
 match cl, hsz with
 | [c0, c1, c2, c3, c4, c5], _ =>
  have g0 := hfl 0 _ rfl
  have g1 := hfl 1 _ rfl
  have g2 := hfl 2 _ rfl
  have g3 := hfl 3 _ rfl
  have g4 := hfl 4 _ rfl
  have g5 := hfl 5 _ rfl
  match xs, hxl with
  | [y0, y1, y2, y3, y4, y5], _ =>
   have k1 : Tryz.prog.cellsOf 22 = 1 := by kernel_rfl
   have k2 : Tryz.prog.cellsOf 3 = 1 := by kernel_rfl
   have k3 : Tryz.prog.cellsOf 23 = 1 := by kernel_rfl
   have k4 : Tryz.prog.cellsOf 24 = 1 := by kernel_rfl
   simp [Value.cells, k1, k2, k3, k4] at g0 g1 g2 g3 g4 g5
   have hd : d = .agg [y0.1, y1.1, y2.1, y3.1, y4.1, y5.1] := by simpa using congrArg Prod.fst hxy
   rw [hd] at hb
   unfold Light at hb
   simp only [DataW.weights, DataW.weightsEach, Tryz.underlying26, List.map_cons, List.map_nil, List.mem_append] at hb
   obtain ⟨fs0, sa, sc, rfl, _, _, hh0⟩ := open_files g0 (fun n hn => hb n (by simp [hn]))
   obtain ⟨bx, e1, _, _⟩ := DataW.trod_int Tryz.underlying3 g1
   obtain ⟨ex, e2, _, _⟩ := DataW.trod_int Tryz.underlying3 g2
   obtain ⟨fs, fa, fc, rfl, hn, hl, hh⟩ := open_files g3 (fun n hn => hb n (by simp [hn]))
   obtain ⟨vs, va, vc, rfl, hvr, hvn, hvl⟩ := open_texts g4 (fun n hn => hb n (by simp [hn]))
   obtain ⟨pk, pa, pc, rfl, hpk, hpl, hpr⟩ := open_packets g5 (fun n hn => hb n (by simp [hn]))
   have e1 : c1 = .int .i64 bx := by simpa using e1
   have e2 : c2 = .int .i64 ex := by simpa using e2
   subst e1 e2
   exact ⟨fs0, fs, bx, ex, vs, pk, sa, fa, va, pa, sc, fc, vc, pc, rfl, hh0, hh, hl, hn, hvr, hvn, hvl, hpk, hpl, hpr⟩
end
end Go.Proofs.YtonjphollmdicaaGreatDoor
namespace Go.Proofs.YtonjphollmdicaaGreatDoor.repairs
open Go.ChangeShapes Go.WideShapes Go.ChangeAt Go.RowKit
open Go.Joins Go.Deep
set_option linter.unusedVariables false
theorem own : ownKnob Tryz.prog.godebug = none := by kernel_rfl
theorem laidOut : laidOutB Tryz.prog = true := by kernel_rfl
noncomputable def laidWorld (os : Os) : World :=
 { World.holding Tryz.prog os ⟨#[], #[], []⟩ with heap := (World.holding Tryz.prog os ⟨#[], #[], []⟩).heap.modify 0 fun
   | .cells _ t frozen => .cells #[.int .u8 77, .func (.func 185) #[] #[], .int .u8 70, .func (.func 186) #[] #[], .int .u8 82, .func (.func 187) #[] #[]] t frozen
   | o => o }
def noPlan : Value := .agg #[.slice none 0 0, .int .i64 0, .int .i64 0, .slice none 0 0, .slice none 0 0, .slice none 0 0]
set_option maxRecDepth 100000 in
theorem laid_met (os : Os) : laidMetH Tryz.prog Rows.repairsRow.laid ((laidWorld os).forCall (fun _ _ => 0) ⟨#[], #[noPlan], []⟩).memory :=
 laidMetH_of_parts3 (fuel := 8) (laidMet_of_run' 8 (by kernel_rfl) (by kernel_rfl)) (by kernel_rfl) (by kernel_rfl)
set_option maxRecDepth 100000 in
theorem reads (os : Os) {H : Type} (enc : TypeId × Value → H) : ∃ places, DataW.whole enc Tryz.prog ((laidWorld os).forCall (fun _ _ => 0) ⟨#[], #[noPlan], []⟩).memory Tryz.f4.params.toList Rows.repairsSpec.vars false #[noPlan].toList 8 = some ([.agg [.nil, .lit (.int .i64 0), .lit (.int .i64 0), .nil, .nil, .nil]], [], places) :=
 ⟨[], by kernel_rfl⟩
set_option maxRecDepth 100000 in
theorem lifted (os : Os) (started : os.Started) (H : Type) (enc : TypeId × Value → H) (F : Stop.Interp) :
  ReturnsInHanded {} Tryz.checked os 4 .any ((OpenSpec.ofChange Rows.repairsSpec).preRow enc Tryz.prog Tryz.f4 Rows.repairsRow.domain false Rows.repairsRow.laid) (((OpenSpec.ofChange Rows.repairsSpec).at F).post enc Tryz.prog Tryz.f4 false true false false) := by
 obtain ⟨places, hx⟩ := reads os enc
 refine returnsInHanded_of_row (C := Tryz.checked) (s := OpenSpec.ofChange Rows.repairsSpec) own started (by kernel_rfl) Tryz.func4
  (witness_row_at (enc := enc) (C := Tryz.checked) false (laidWorld os) #[noPlan] rfl (by kernel_rfl) (by kernel_rfl) (by kernel_rfl)
   (OpenSpec.preRow_of_cond 8 hx (by kernel_rfl) (fun k hk => by cases hk) (by kernel_rfl) (laid_met os))) ?_
 intro W base args ds gs before hval0 hW _ _ hsz0 hL _ _
 have hval : ∀ (j : Nat) t v, Tryz.f4.params[j]? = some t → args[j]? = some v → Value.okWide Tryz.prog W .any base t v := hval0
 have hsz : (DataW.weightsEach Tryz.prog (Tryz.f4.params.toList ++ Rows.repairsSpec.plain.varTypes Tryz.prog) (ds ++ gs)).all (· ≤ reachBytes) = true := hsz0
 have hW' := hW
 obtain ⟨p, q, hA0, hV, rfl, hfz, hnd⟩ := hW
 have hA : DataW.TrodAll enc Tryz.prog W 0 (fun _ => true) true Tryz.f4.params.toList args.toList ds p := hA0
 rw [Tryz.params4] at hA hval hsz
 obtain ⟨v0, vs0, d0, ds0, p0, q0, hargs, rfl, rfl, h0, r0⟩ := trodAll_cons hA
 obtain ⟨rfl, rfl, rfl⟩ := trodAll_nil r0
 obtain rfl : args = #[v0] := by cases args; simp_all
 obtain ⟨rfl, rfl⟩ := trodVars_none hV
 have k0 := h0
 have lt0 : ∀ x ∈ p0, x.block < W.heap.size := by obtain ⟨m, hm⟩ := k0; exact DataW.trod_lt m _ _ _ hm
 have hbulk : Light 26 d0 := fun n hn => by
  have := List.all_eq_true.1 hsz n (by
   simp only [List.cons_append, List.nil_append, DataW.weightsEach]
   exact List.mem_append_left _ hn)
  exact (of_decide_eq_true this : n ≤ reachBytes)
 obtain ⟨fs0, fs, bx, ex, vs, pk, sa, fa, va, pa, sc, fc, vc, pc, rfl, hh0, hh, hfn, hfa, hvr, hvn, hvl, hpk, hpl, hpr⟩ := open_plan (hval 0 26 _ rfl rfl) h0 hbulk
 have hK : Kinds W := kinds_of hL
 clear hA0 hval0 hbulk hsz hsz0
 refine (repairs_walk fs0 fs bx ex vs pk sa fa va pa sc fc vc pc hfn hfa hvn hvl hpl hpr W hK hh0 hh hvr hpk).mono fun e W' ⟨he, bel⟩ => ?_
 subst he
 exact ⟨_, rfl, _, _, _, [], _, [], hW', trodAll_mk1 (shut_bool Tryz.underlying4 _), trodAll_mk1 (Below.trod laidOut (by kernel_rfl) (of_decide_eq_true (by kernel_rfl)) k0 bel lt0), rfl, bel.frame _, fun h => by cases h⟩
theorem said : Rows.RepairsSaid :=
 OpenClaim.holds_of_cond 4 Tryz.f4 rfl rfl rfl rfl rfl rfl rfl ⟨rfl, rfl, rfl, rfl, rfl⟩ rfl rfl rfl rfl rfl (by kernel_rfl) Tryz.func4 (by kernel_rfl)
  (of_decide_eq_true (by kernel_rfl)) (by unfold Func.isWrapper; first | (rw [if_pos (by decide +kernel)]; kernel_rfl) | (rw [if_neg (by decide +kernel)]; exact ⟨rfl, rfl⟩))
  (fun os started H enc _ F => by rw [OpenClaim.pre_eq_preRow]; exact lifted os started H enc F)
theorem plain (f : FuncId) (fn : Func) (hf : Tryz.pinned.checked.prog.funcNamed "salvage/salvagelaw.Repairs" = some f) (hfn : Tryz.pinned.checked.prog.funcs[f]? = some fn) :
  false = Tryz.pinned.checked.prog.looks [] ∧ ∀ (j : Nat) t, fn.params[j]? = some t → Tryz.pinned.checked.prog.wantsStandIn t = false := by
 obtain rfl : f = 4 := Option.some.inj ((show Tryz.prog.funcNamed "salvage/salvagelaw.Repairs" = some 4 by kernel_rfl).symm.trans hf) |>.symm
 obtain rfl : fn = Tryz.f4 := (Option.some.inj (Tryz.func4.symm.trans hfn)).symm
 refine ⟨by kernel_rfl, fun j t ht => ?_⟩
 rw [Tryz.params4] at ht
 obtain rfl : t = 26 := by simpa using Array.mem_of_getElem? ht
 exact (show Tryz.prog.wantsStandIn 26 = false by kernel_rfl)
end Go.Proofs.YtonjphollmdicaaGreatDoor.repairs
namespace Go.Proofs.YtonjphollmdicaaGreatDoor
open Go
theorem repairs_holds : Rows.RepairsCardSaid :=
 Claim7.holds_tied_plain_at .later [] _ _ _ _ repairs.said (fun _ h => by cases h) (by kernel_rfl) (fun _ h => by cases h) repairs_row_tie rfl ⟨rfl, rfl⟩ (by kernel_rfl) rfl repairs.plain (by kernel_rfl)
#print axioms repairs_holds
end Go.Proofs.YtonjphollmdicaaGreatDoor
