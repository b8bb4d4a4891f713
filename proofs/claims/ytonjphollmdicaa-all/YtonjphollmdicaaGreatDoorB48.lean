import Derived.Test.YtonjphollmdicaaGreatDoorB17
import Derived.Test.YtonjphollmdicaaGreatDoorB21
import Derived.Test.YtonjphollmdicaaGreatDoorB38
import Derived.Test.YtonjphollmdicaaGreatDoorB41
import Derived.Test.YtonjphollmdicaaGreatDoorB47
import Derived.Test.YtonjphollmdicaaGreatDoorRows
import Derived.WalkKit
import Derived.ProofKit
import Derived.OpenShut
import Derived.ShutString
import Derived.ChangeOld
import Derived.Below
import Derived.LaidMore
import Derived.Stop.Joined
import Derived.Deep.SlicePairs
import Derived.Lib.SmallJoins
import Derived.Lib.LaidTab
import Derived.Test.YtonjphollmdicaaGreatDoorCards
import Derived.Test.YtonjphollmdicaaGreatDoorTie
import Derived.Deep.DeepHandedRow
set_option maxRecDepth 100000
set_option maxHeartbeats 4000000
set_option linter.unusedSimpArgs false
namespace Go.Proofs.YtonjphollmdicaaGreatDoor
open Go.ChangeShapes Go.WideShapes Go.ChangeAt Go.RowKit
open Go.Joins Go.Deep
theorem Tryz.gKinds : Tryz.prog.globalNamed "salvage/volume.kinds" = some 0 := by kernel_rfl
theorem Tryz.tKinds : (Tryz.prog.globals[0]?).map (·.type) = some 179 := by kernel_rfl
theorem Tryz.cellsK : Tryz.prog.cellsOf 179 = 6 := by kernel_rfl
theorem Tryz.cellsE : Tryz.prog.cellsOf 178 = 2 := by kernel_rfl
theorem Tryz.cellsB : Tryz.prog.cellsOf 5 = 1 := by kernel_rfl
theorem Tryz.cellsR : Tryz.prog.cellsOf 177 = 1 := by kernel_rfl
theorem Pz {H : Type} {enc : TypeId × Value → H} {W : World} {fuel : Nat} {t e : TypeId} {f0 f1 : Field} {cs : List Value} {a0 b0 a1 b1 a2 b2 : DataW H} {p : List MemPlace} (ht : Tryz.prog.underlying t = some (.array 3 e)) (he : Tryz.prog.underlying e = some (.struct #[f0, f1]))
  (ce : Tryz.prog.cellsOf e = 2) (ct : Tryz.prog.cellsOf t = 6) (o0 : f0.offset = 0) (o1 : f1.offset = 1) (k0 : Tryz.prog.cellsOf f0.type = 1) (k1 : Tryz.prog.cellsOf f1.type = 1)
  (h : DataW.trod enc Tryz.prog W 0 (fun _ => true) true fuel t cs = some (.agg [.agg [a0, b0], .agg [a1, b1], .agg [a2, b2]], p)) :
  ∃ (c0 c1 c2 c3 c4 c5 : Value) (n0 n1 n2 : Nat) (q0 q1 q2 q3 q4 q5 : List MemPlace), cs = [c0, c1, c2, c3, c4, c5] ∧
   DataW.trod enc Tryz.prog W 0 (fun _ => true) true n0 f0.type [c0] = some (a0, q0) ∧ DataW.trod enc Tryz.prog W 0 (fun _ => true) true n0 f1.type [c1] = some (b0, q1) ∧
   DataW.trod enc Tryz.prog W 0 (fun _ => true) true n1 f0.type [c2] = some (a1, q2) ∧ DataW.trod enc Tryz.prog W 0 (fun _ => true) true n1 f1.type [c3] = some (b1, q3) ∧
   DataW.trod enc Tryz.prog W 0 (fun _ => true) true n2 f0.type [c4] = some (a2, q4) ∧ DataW.trod enc Tryz.prog W 0 (fun _ => true) true n2 f1.type [c5] = some (b2, q5) := by
 cases fuel with
 | zero => simp [DataW.trod] at h
 | succ fuel =>
  simp only [DataW.trod, ht, ce, ct] at h
  split at h
  ·rename_i hl
   obtain ⟨xs, hm, hx⟩ := Option.map_eq_some_iff.1 h
   have hxs : xs.map (·.1) = [.agg [a0, b0], .agg [a1, b1], .agg [a2, b2]] := by
    have := congrArg Prod.fst hx
    simpa using this
   match cs, hl with
   | [c0, c1, c2, c3, c4, c5], _ =>
    obtain ⟨y0, hy0, h0⟩ := Lib.mapM_at hm 0 0 rfl
    obtain ⟨y1, hy1, h1⟩ := Lib.mapM_at hm 1 1 rfl
    obtain ⟨y2, hy2, h2⟩ := Lib.mapM_at hm 2 2 rfl
    have z0 : y0.1 = .agg [a0, b0] := by
     have : (xs.map (·.1))[0]? = some y0.1 := by simp [hy0]
     rw [hxs] at this
     simpa using this.symm
    have z1 : y1.1 = .agg [a1, b1] := by
     have : (xs.map (·.1))[1]? = some y1.1 := by simp [hy1]
     rw [hxs] at this
     simpa using this.symm
    have z2 : y2.1 = .agg [a2, b2] := by
     have : (xs.map (·.1))[2]? = some y2.1 := by simp [hy2]
     rw [hxs] at this
     simpa using this.symm
    have key : ∀ (c c' : Value) (a b : DataW H) (y : DataW H × List MemPlace), y.1 = .agg [a, b] → DataW.trod enc Tryz.prog W 0 (fun _ => true) true fuel e [c, c'] = some y → ∃ n q q', DataW.trod enc Tryz.prog W 0 (fun _ => true) true n f0.type [c] = some (a, q) ∧ DataW.trod enc Tryz.prog W 0 (fun _ => true) true n f1.type [c'] = some (b, q') := by
     intro c c' a b y hy hh
     obtain ⟨ys, n, _, hxy, _, hyl, hfl⟩ := DataW.trod_struct he hh
     match ys, hyl with
     | [u0, u1], _ =>
      have g0 := hfl 0 f0 rfl
      have g1 := hfl 1 f1 rfl
      simp [o0, o1, k0, k1] at g0 g1
      rw [hxy] at hy
      simp at hy
      obtain ⟨rfl, rfl⟩ := hy
      exact ⟨n, u0.2, u1.2, g0, g1⟩
    obtain ⟨n0, q0, q1, r0, r1⟩ := key c0 c1 a0 b0 y0 z0 (by simpa using h0)
    obtain ⟨n1, q2, q3, r2, r3⟩ := key c2 c3 a1 b1 y1 z1 (by simpa using h1)
    obtain ⟨n2, q4, q5, r4, r5⟩ := key c4 c5 a2 b2 y2 z2 (by simpa using h2)
    exact ⟨c0, c1, c2, c3, c4, c5, n0, n1, n2, q0, q1, q2, q3, q4, q5, rfl, r0, r1, r2, r3, r4, r5⟩
  ·cases h
theorem Rf {W : World} (h : laidMetH Tryz.prog [("salvage/volume.kinds", Rows.laid_salvage_volume_kinds)] W) : Kinds W := by
 obtain ⟨g, t, cs, fuel, p, hg, ht, hv, hd⟩ := h.funcs (List.mem_singleton.2 rfl)
 obtain rfl := Option.some.inj (Tryz.gKinds.symm.trans hg)
 obtain rfl := Option.some.inj (Tryz.tKinds.symm.trans ht)
 have hd' : DataW.trod (funcToken Tryz.prog) Tryz.prog W 0 (fun _ => true) true fuel 179 cs.toList = some (.agg [.agg [.lit (.int .u8 77), .held [40, 42, 115, 97, 108, 118, 97, 103, 101, 47, 118, 111, 108, 117, 109, 101, 46, 83, 101, 116, 41, 46, 114, 101, 97, 100, 77, 97, 105, 110]], .agg [.lit (.int .u8 70), .held [40, 42, 115, 97, 108, 118, 97, 103, 101, 47, 118, 111, 108, 117, 109, 101, 46, 83, 101, 116, 41, 46, 114, 101, 97, 100, 70, 105, 108, 101]], .agg [.lit (.int .u8 82), .held [40, 42, 115, 97, 108, 118, 97, 103, 101, 47, 118, 111, 108, 117, 109, 101, 46, 83, 101, 116, 41, 46, 114, 101, 97, 100, 69, 120, 116, 114, 97]]], p) := hd
 obtain ⟨c0, c1, c2, c3, c4, c5, n0, n1, n2, q0, q1, q2, q3, q4, q5, hcs, r0, r1, r2, r3, r4, r5⟩ := Pz Tryz.underlying179 Tryz.underlying178 Tryz.cellsE Tryz.cellsK rfl rfl Tryz.cellsB Tryz.cellsR hd'
 obtain ⟨z0, e0, x0, _⟩ := DataW.trod_int Tryz.underlying5 r0
 obtain ⟨z2, e2, x2, _⟩ := DataW.trod_int Tryz.underlying5 r2
 obtain ⟨z4, e4, x4, _⟩ := DataW.trod_int Tryz.underlying5 r4
 have f1 := func_of_trod (f0 := 185) Tryz.underlying177 (by kernel_rfl) r1
 have f3 := func_of_trod (f0 := 186) Tryz.underlying177 (by kernel_rfl) r3
 have f5 := func_of_trod (f0 := 187) Tryz.underlying177 (by kernel_rfl) r5
 have hcell : ∀ i, W.cell? ⟨0, i, none⟩ = cs[i]? := fun i => World.var?_cell hg hv i
 have hci : ∀ i, cs[i]? = [c0, c1, c2, c3, c4, c5][i]? := fun i => by rw [← hcs, Array.getElem?_toList]
 simp at e0 e2 e4 x0 x2 x4
 subst e0 e2 e4
 obtain ⟨rfl, _⟩ := x0
 obtain ⟨rfl, _⟩ := x2
 obtain ⟨rfl, _⟩ := x4
 exact ⟨by rw [hcell, hci]; rfl, by rw [hcell, hci, f1]; rfl, by rw [hcell, hci]; rfl, by rw [hcell, hci, f3]; rfl, by rw [hcell, hci]; rfl, by rw [hcell, hci, f5]; rfl⟩
end Go.Proofs.YtonjphollmdicaaGreatDoor
namespace Go.Proofs.YtonjphollmdicaaGreatDoor
open Go.ChangeShapes Go.WideShapes Go.ChangeAt Go.RowKit
open Go.Joins Go.Deep
def EU {H : Type} (t : TypeId) (d : DataW H) : Prop := ∀ n ∈ d.weights Tryz.prog t, n ≤ 140737488351232
theorem KL {H : Type} {e : TypeId} : ∀ {l : List (DataW H)} {d : DataW H}, (∀ n ∈ DataW.weightsAll Tryz.prog e l, n ≤ 140737488351232) → d ∈ l → EU e d
 | [], _, _, hd => by cases hd
 | x :: r, d, hw, hd => by
  simp only [DataW.weightsAll, List.mem_append] at hw
  rcases List.mem_cons.1 hd with rfl | hd
  ·exact fun n hn => hw n (.inl hn)
  ·exact KL (fun n hn => hw n (.inr hn)) hd
theorem FX {H : Type} {t e : TypeId} {elems spare : List (DataW H)} (ht : Tryz.prog.underlying t = some (.slice e)) (h : EU t (.slice elems spare)) : elems.length * Tryz.prog.bytesOf e ≤ 140737488351232 ∧ ∀ d ∈ elems, EU e d := by
 unfold EU at h
 simp only [DataW.weights, ht, List.mem_cons, List.mem_append] at h
 refine ⟨Nat.le_trans (Nat.mul_le_mul_right _ (Nat.le_add_right _ _)) (h _ (.inl rfl)), fun d hd => KL (fun n hn => h n (.inr (.inl hn))) hd⟩
theorem Oh {H : Type} {t : TypeId} {l : List UInt8} (h : EU t (.lit (.string l) : DataW H)) : l.length ≤ 140737488351232 := h _ (by simp [DataW.weights])
theorem Tryz.bytesF : Tryz.prog.bytesOf 62 = 32 := by kernel_rfl
theorem Tryz.bytesS : Tryz.prog.bytesOf 9 = 16 := by kernel_rfl
theorem Tryz.bytesI : Tryz.prog.bytesOf 3 = 8 := by kernel_rfl
theorem Tryz.cellsF : Tryz.prog.cellsOf 62 = 2 := by kernel_rfl
theorem Tryz.cellsS : Tryz.prog.cellsOf 9 = 1 := by kernel_rfl
theorem Tryz.cellsI : Tryz.prog.cellsOf 3 = 1 := by kernel_rfl
theorem Tryz.cellsL : Tryz.prog.cellsOf 31 = 1 := by kernel_rfl
theorem Fv (b off j : Nat) : (⟨b, off, none⟩ : Addr).add j = ⟨b, off + j, none⟩ := by unfold Addr.add; split <;> simp_all
section
variable {H : Type} {enc : TypeId × Value → H} {W : World}
theorem Iu {t e : TypeId} {fuel : Nat} {c : Value} {x : DataW H × List MemPlace} (ht : Tryz.prog.underlying t = some (.slice e)) (hc1 : Tryz.prog.cellsOf e = 1) (hw : EU t x.1) (h : DataW.trod enc Tryz.prog W 0 (fun _ => true) true fuel t [c] = some x) :
  (c = .slice none 0 0) ∨ ∃ (a : Addr) (len cap n : Nat) (V : Nat → Value) (D : Nat → DataW H) (Q : Nat → List MemPlace), c = .slice (some a) len cap ∧ len ≤ cap ∧ (len * Tryz.prog.bytesOf e ≤ 140737488351232 ∧ ∀ i, i < len → EU e (D i)) ∧
   ∀ i, i < len → (∃ b off, a = ⟨b, off, none⟩ ∧ W.cell? ⟨b, off + i, none⟩ = some (V i)) ∧ DataW.trod enc Tryz.prog W 0 (fun _ => true) true n e [V i] = some (D i, Q i) := by
 rcases open_slice ht h with ⟨h0, _⟩ | ⟨a, len, cap, m, n, D, Pl, hcs, hb, hl, hm, hmm, rfl, hx⟩
 ·exact Or.inl (by simpa using h0)
 ·have hlm : len ≤ m := by rw [hmm]; split <;> omega
  have each : ∀ i, i < len → ∃ v : Value, W.cell? (a.add i) = some v ∧ DataW.trod enc Tryz.prog W 0 (fun _ => true) true n e [v] = some (D i, Pl i) := fun i hi => by
   obtain ⟨cs', h1, h2⟩ := hx i (by omega)
   rw [hc1, Nat.mul_one] at h1
   obtain ⟨_, hlen, hcell⟩ := World.cells?_some h1
   match cs', hlen with
   | [v], _ =>
    have := hcell 0 (by omega)
    rw [add_add, Nat.add_zero] at this
    exact ⟨v, by simpa using this, h2⟩
  obtain ⟨V, hV⟩ := choose_lt each
  refine Or.inr ⟨a, len, cap, n, V, D, Pl, by simpa using hcs, hl, ?_, fun i hi => ⟨?_, (hV i hi).2⟩⟩
  ·obtain ⟨l1, l2⟩ := FX ht hw
   rw [List.length_map, List.length_range] at l1
   exact ⟨l1, fun i hi => l2 _ (List.mem_map.2 ⟨i, List.mem_range.2 hi, rfl⟩)⟩
  ·obtain ⟨b, off, spot⟩ := a
   have h1 := (hV i hi).1
   have hspot : spot = none := by simpa [Addr.add] using World.cell?_spot (hV 0 (by omega)).1
   subst hspot
   rw [Fv] at h1
   exact ⟨b, off, rfl, h1⟩
theorem OQ {fuel : Nat} {c : Value} {x : DataW H × List MemPlace} (h : DataW.trod enc Tryz.prog W 0 (fun _ => true) true fuel 23 [c] = some x) (hb : EU 23 x.1) :
  ∃ (vs : List (List UInt8)) (a : Option Addr) (cap : Nat), c = .slice a vs.length cap ∧ Rd W a (AL vs) ∧ vs.length ≤ 8796093022200 ∧ ∀ v ∈ vs, v.length ≤ 140737488355328 := by
 rcases Iu Tryz.underlying23 Tryz.cellsS hb h with rfl | ⟨a, len, cap, n, V, D, Q, rfl, hl, hbk, hV⟩
 ·exact ⟨[], none, 0, rfl, fun k u hk => by simp [AL] at hk, by simp, by simp⟩
 ·have hs : ∀ i, i < len → ∃ l : List UInt8, V i = .string (str l) ∧ D i = .lit (.string l) := fun i hi => by
   obtain ⟨s, e0, x0, _⟩ := DataW.trod_string Tryz.underlying9 (hV i hi).2
   have e1 : V i = .string s := by simpa using e0
   exact ⟨s.data.toList, by rw [e1, ← Qi], congrArg Prod.fst x0⟩
  obtain ⟨f, hf⟩ := choose_lt hs
  have hlen : ((List.range len).map f).length = len := by simp
  obtain ⟨hll, hlt⟩ := hbk
  rw [Tryz.bytesS] at hll
  refine ⟨(List.range len).map f, some a, cap, by rw [hlen], ?_, by rw [hlen]; omega, ?_⟩
  ·intro k u hk
   have hkl : k < len := by
    have := (List.getElem?_eq_some_iff.1 hk).1
    simpa [AL] using this
   obtain ⟨⟨b, off, rfl, hc⟩, _⟩ := hV k hkl
   rw [(hf k hkl).1] at hc
   have : u = .string (str (f k)) := by
    simp [AL, List.getElem?_range hkl] at hk
    exact hk.symm
   rw [this]
   exact ⟨b, off, rfl, hc⟩
  ·intro v hv
   obtain ⟨i, hi, rfl⟩ := List.mem_map.1 hv
   have hi := List.mem_range.1 hi
   have h1 := hlt i hi
   rw [(hf i hi).2] at h1
   have := Oh h1
   omega
theorem PJ {fuel : Nat} {c : Value} {x : DataW H × List MemPlace} (h : DataW.trod enc Tryz.prog W 0 (fun _ => true) true fuel 31 [c] = some x) (hb : EU 31 x.1) :
  ∃ (q : List Int × Option Addr × Nat), c = .slice q.2.1 q.1.length q.2.2 ∧ Rd W q.2.1 (q.1.map (Value.int .i64)) ∧ q.1.length ≤ 17592186044416 ∧ ∀ z ∈ q.1, -9223372036854775808 ≤ z ∧ z ≤ 9223372036854775807 := by
 rcases Iu Tryz.underlying31 Tryz.cellsI hb h with rfl | ⟨a, len, cap, n, V, D, Q, rfl, hl, hbk, hV⟩
 ·exact ⟨([], none, 0), rfl, fun k u hk => by simp at hk, by simp, by simp⟩
 ·have hs : ∀ i, i < len → ∃ z : Int, V i = .int .i64 z ∧ -9223372036854775808 ≤ z ∧ z ≤ 9223372036854775807 := fun i hi => by
   obtain ⟨z, e0, _, hw⟩ := DataW.trod_int Tryz.underlying3 (hV i hi).2
   have e1 : IntKind.i64.min = -9223372036854775808 := by decide
   have e2 : IntKind.i64.max = 9223372036854775807 := by decide
   have hw : (decide (IntKind.i64.min ≤ z) && decide (z ≤ IntKind.i64.max)) = true := hw
   rw [e1, e2] at hw
   simp only [Bool.and_eq_true, decide_eq_true_eq] at hw
   exact ⟨z, by simpa using e0, hw.1, hw.2⟩
  obtain ⟨f, hf⟩ := choose_lt hs
  have hlen : ((List.range len).map f).length = len := by simp
  obtain ⟨hll, _⟩ := hbk
  rw [Tryz.bytesI] at hll
  refine ⟨((List.range len).map f, some a, cap), by rw [hlen], ?_, by rw [hlen]; omega, ?_⟩
  ·intro k u hk
   have hkl : k < len := by
    have := (List.getElem?_eq_some_iff.1 hk).1
    simpa using this
   obtain ⟨⟨b, off, rfl, hc⟩, _⟩ := hV k hkl
   rw [(hf k hkl).1] at hc
   have : u = .int .i64 (f k) := by
    simp [List.getElem?_range hkl] at hk
    exact hk.symm
   rw [this]
   exact ⟨b, off, rfl, hc⟩
  ·intro z hz
   obtain ⟨i, hi, rfl⟩ := List.mem_map.1 hz
   exact (hf i (List.mem_range.1 hi)).2
theorem LN {fuel : Nat} {c : Value} {x : DataW H × List MemPlace} (h : DataW.trod enc Tryz.prog W 0 (fun _ => true) true fuel 24 [c] = some x) (hb : EU 24 x.1) :
  ∃ (pk : List (List Int)) (a : Option Addr) (cap : Nat), c = .slice a pk.length cap ∧ RdPk W a pk ∧ (∀ ks ∈ pk, ks.length ≤ 17592186044416) ∧ ∀ ks ∈ pk, ∀ z ∈ ks, -9223372036854775808 ≤ z ∧ z ≤ 9223372036854775807 := by
 rcases Iu Tryz.underlying24 Tryz.cellsL hb h with rfl | ⟨a, len, cap, n, V, D, Q, rfl, hl, hbk, hV⟩
 ·exact ⟨[], none, 0, rfl, fun i ks hi => by simp at hi, by simp, by simp⟩
 ·have hs : ∀ i, i < len → ∃ q : List Int × Option Addr × Nat, V i = .slice q.2.1 q.1.length q.2.2 ∧ Rd W q.2.1 (q.1.map (Value.int .i64)) ∧ q.1.length ≤ 17592186044416 ∧ ∀ z ∈ q.1, -9223372036854775808 ≤ z ∧ z ≤ 9223372036854775807 := fun i hi =>
   PJ (hV i hi).2 (hbk.2 i hi)
  obtain ⟨f, hf⟩ := choose_lt hs
  have hlen : ((List.range len).map fun i => (f i).1).length = len := by simp
  refine ⟨(List.range len).map fun i => (f i).1, some a, cap, by rw [hlen], ?_, ?_, ?_⟩
  ·intro i ks hi
   have hkl : i < len := by
    have := (List.getElem?_eq_some_iff.1 hi).1
    simpa using this
   obtain ⟨⟨b, off, rfl, hc⟩, _⟩ := hV i hkl
   rw [(hf i hkl).1] at hc
   have : ks = (f i).1 := by
    simp [List.getElem?_range hkl] at hi
    exact hi.symm
   rw [this]
   exact ⟨b, off, _, _, rfl, hc, (hf i hkl).2.1⟩
  ·intro ks hks
   obtain ⟨i, hi, rfl⟩ := List.mem_map.1 hks
   exact (hf i (List.mem_range.1 hi)).2.2.1
  ·intro ks hks
   obtain ⟨i, hi, rfl⟩ := List.mem_map.1 hks
   exact (hf i (List.mem_range.1 hi)).2.2.2
theorem JO {fuel : Nat} {c : Value} {x : DataW H × List MemPlace} (h : DataW.trod enc Tryz.prog W 0 (fun _ => true) true fuel 22 [c] = some x) (hb : EU 22 x.1) :
  ∃ (fs : List Aj) (a : Option Addr) (cap : Nat), c = .slice a fs.length cap ∧ (a = none → cap = 0) ∧ fs.length + 8 ≤ 4398046511104 ∧ Handed W fs a cap := by
 rcases open_slice_pairs Tryz.underlying22 Tryz.underlying62 Tryz.cellsF rfl rfl Tryz.cellsS Tryz.cellsS h with ⟨hcs, _⟩ | ⟨a, len, cap, m, n, V0, V1, D0, D1, P0, P1, hcs, _, hl, hm, hmm, rfl, hcell⟩
 ·have hcs : c = .slice none 0 0 := by simpa using hcs
  subst hcs
  exact ⟨[], none, 0, rfl, fun _ => rfl, by simp, ⟨fun k u hk => by simp [Ar] at hk, by simp, by simp⟩⟩
 ·have hcs : c = .slice (some a) len cap := by simpa using hcs
  subst hcs
  have hlm : len ≤ m := by rw [hmm]; split <;> omega
  have hs : ∀ i, i < len → ∃ f : Aj, V0 i = .string (str f.1) ∧ V1 i = .string (str f.2) ∧ D0 i = .lit (.string f.1) ∧ D1 i = .lit (.string f.2) := fun i hi => by
   obtain ⟨_, _, t0, t1⟩ := hcell i (by omega)
   obtain ⟨s0, e0, x0, _⟩ := DataW.trod_string Tryz.underlying9 t0
   obtain ⟨s1, e1, x1, _⟩ := DataW.trod_string Tryz.underlying9 t1
   have e0' : V0 i = .string s0 := by simpa using e0
   have e1' : V1 i = .string s1 := by simpa using e1
   exact ⟨(s0.data.toList, s1.data.toList), by rw [e0', ← Qi], by rw [e1', ← Qi], congrArg Prod.fst x0, congrArg Prod.fst x1⟩
  obtain ⟨f, hf⟩ := choose_lt hs
  have hlen : ((List.range len).map f).length = len := by simp
  obtain ⟨hll, hlt⟩ := FX Tryz.underlying22 hb
  rw [List.length_map, List.length_range, Tryz.bytesF] at hll
  refine ⟨(List.range len).map f, some a, cap, by rw [hlen], fun h0 => (by cases h0), by rw [hlen]; omega, ⟨?_, by rw [hlen]; exact hl, ?_⟩⟩
  ·intro k u hk
   have hkl : k < 2 * len := by
    have := (List.getElem?_eq_some_iff.1 hk).1
    rw [EM] at this
    simpa using this
   obtain ⟨b, off, spot⟩ := a
   have hi : k / 2 < len := by omega
   have hspot : spot = none := by
    have h2 := (hcell 0 (by omega)).1
    rw [Nat.zero_mul] at h2
    simpa [Addr.add] using World.cell?_spot h2
   subst hspot
   refine ⟨b, off, rfl, ?_⟩
   obtain ⟨g1, g2⟩ := Ey ((List.range len).map f) (k / 2) (by rw [hlen]; exact hi)
   have e1 : ((List.range len).map f)[k / 2]'(by rw [hlen]; exact hi) = f (k / 2) := by simp
   rw [e1, ← (hf _ hi).1] at g1
   rw [e1, ← (hf _ hi).2.1] at g2
   rcases Nat.mod_two_eq_zero_or_one k with h | h
   ·rw [show 2 * (k / 2) = k from by omega, hk] at g1
    cases g1
    have := (hcell (k / 2) (by omega)).1
    rw [Fv, show k / 2 * 2 = k from by omega] at this
    exact this
   ·rw [show 2 * (k / 2) + 1 = k from by omega, hk] at g2
    cases g2
    have := (hcell (k / 2) (by omega)).2.1
    rw [Fv, show k / 2 * 2 + 1 = k from by omega] at this
    exact this
  ·intro g hg
   obtain ⟨i, hi, rfl⟩ := List.mem_map.1 hg
   have hi := List.mem_range.1 hi
   have h1 := hlt _ (List.mem_map.2 ⟨i, List.mem_range.2 hi, rfl⟩ : (.agg [D0 i, D1 i] : DataW H) ∈ (List.range len).map fun i => (.agg [D0 i, D1 i] : DataW H))
   rw [(hf i hi).2.2.1, (hf i hi).2.2.2] at h1
   unfold EU at h1
   simp [DataW.weights, DataW.weightsEach, Tryz.underlying62] at h1
   omega
end
end Go.Proofs.YtonjphollmdicaaGreatDoor
namespace Go.Proofs.YtonjphollmdicaaGreatDoor
open Go.ChangeShapes Go.WideShapes Go.ChangeAt Go.RowKit
open Go.Joins Go.Deep
structure OpD where
 kind : Int
 a : Nat
 b : Nat
 fs0 : List Aj
 fs : List Aj
 bx : Int
 ex : Int
 vs : List (List UInt8)
 pk : List (List Int)
 sa : Option Addr
 fa : Option Addr
 va : Option Addr
 pa : Option Addr
 sc : Nat
 fc : Nat
 vc : Nat
 pc : Nat
instance : Inhabited OpD := ⟨⟨0, 0, 0, [], [], 0, 0, [], [], none, none, none, none, 0, 0, 0, 0⟩⟩
def OpD.cells (o : OpD) : List Value := [.int .i64 o.kind, .int .u16 (o.a : Int), .int .u16 (o.b : Int), .slice o.sa o.fs0.length o.sc, .int .i64 o.bx, .int .i64 o.ex, .slice o.fa o.fs.length o.fc, .slice o.va o.vs.length o.vc, .slice o.pa o.pk.length o.pc]
structure OpD.ok (W : World) (o : OpD) : Prop where
 a : o.a < 65536
 b : o.b < 65536
 h0 : Handed W o.fs0 o.sa o.sc
 n0 : o.fs0.length + 8 ≤ 4398046511104
 e0 : o.sa = none → o.sc = 0
 h1 : Handed W o.fs o.fa o.fc
 n1 : o.fs.length + 8 ≤ 4398046511104
 e1 : o.fa = none → o.fc = 0
 vr : Rd W o.va (AL o.vs)
 vn : o.vs.length ≤ 8796093022200
 vl : ∀ v ∈ o.vs, v.length ≤ 140737488355328
 pr : RdPk W o.pa o.pk
 pl : ∀ ks ∈ o.pk, ks.length ≤ 17592186044416
 pn : ∀ ks ∈ o.pk, ∀ z ∈ ks, -9223372036854775808 ≤ z ∧ z ≤ 9223372036854775807
def Sp (W : World) (a : Option Addr) (l : List OpD) : Prop := ∀ (i : Nat) (o : OpD), l[i]? = some o → o.ok W ∧ ∃ b off, a = some ⟨b, off, none⟩ ∧ ∀ (k : Nat) (u : Value), o.cells[k]? = some u → W.cell? ⟨b, off + i * 9 + k, none⟩ = some u
theorem Tryz.cellsOp : Tryz.prog.cellsOf 82 = 9 := by kernel_rfl
theorem Tryz.bytesOp : Tryz.prog.bytesOf 82 = 128 := by kernel_rfl
section
variable {H : Type} {enc : TypeId × Value → H} {W : World}
theorem RS {fuel : Nat} {cs : List Value} {x : DataW H × List MemPlace} (h : DataW.trod enc Tryz.prog W 0 (fun _ => true) true fuel 82 cs = some x) (hb : EU 82 x.1) : ∃ o : OpD, cs = o.cells ∧ o.ok W := by
 obtain ⟨ys, k, _, hxy, hcl, hyl, hfl⟩ := DataW.trod_struct Tryz.underlying82 h
 rw [Tryz.cellsOp] at hcl
 have k2 : Tryz.prog.cellsOf 3 = 1 := by kernel_rfl
 have k5 : Tryz.prog.cellsOf 80 = 1 := by kernel_rfl
 have k6 : Tryz.prog.cellsOf 26 = 6 := by kernel_rfl
 match cs, hcl with
 | [d0, d1, d2, c0, c1, c2, c3, c4, c5], _ =>
  have g0 := hfl 0 _ rfl
  have g1 := hfl 1 _ rfl
  have g2 := hfl 2 _ rfl
  have g3 := hfl 3 _ rfl
  match ys, hyl with
  | [z0, z1, z2, z3], _ =>
   simp [k2, k5, k6] at g0 g1 g2 g3
   have hd : x.1 = .agg [z0.1, z1.1, z2.1, z3.1] := by simpa using congrArg Prod.fst hxy
   rw [hd] at hb
   have hb3 : EU 26 z3.1 := by
    unfold EU at hb
    simp only [DataW.weights, DataW.weightsEach, Tryz.underlying82, List.map_cons, List.map_nil, List.mem_append] at hb
    exact fun n hn => hb n (by simp [hn])
   clear hb hd hxy
   obtain ⟨kd, e0, _, _⟩ := DataW.trod_int Tryz.underlying3 g0
   obtain ⟨xa, e1, _, r1⟩ := DataW.trod_int Tryz.underlying80 g1
   obtain ⟨xb, e2, _, r2⟩ := DataW.trod_int Tryz.underlying80 g2
   have e0 : d0 = .int .i64 kd := by simpa using e0
   have e1 : d1 = .int .u16 xa := by simpa using e1
   have e2 : d2 = .int .u16 xb := by simpa using e2
   have m1 : IntKind.u16.min = 0 := by decide
   have m2 : IntKind.u16.max = 65535 := by decide
   have r1 : (decide (IntKind.u16.min ≤ xa) && decide (xa ≤ IntKind.u16.max)) = true := r1
   have r2 : (decide (IntKind.u16.min ≤ xb) && decide (xb ≤ IntKind.u16.max)) = true := r2
   rw [m1, m2] at r1 r2
   simp only [Bool.and_eq_true, decide_eq_true_eq] at r1 r2
   obtain ⟨na, rfl⟩ : ∃ n : Nat, xa = (n : Int) := ⟨xa.toNat, by omega⟩
   obtain ⟨nb, rfl⟩ : ∃ n : Nat, xb = (n : Int) := ⟨xb.toNat, by omega⟩
   subst e0 e1 e2
   obtain ⟨xs, k', _, hxy, _, hxl, hfl⟩ := DataW.trod_struct Tryz.underlying26 g3
   have f0 := hfl 0 _ rfl
   have f1 := hfl 1 _ rfl
   have f2 := hfl 2 _ rfl
   have f3 := hfl 3 _ rfl
   have f4 := hfl 4 _ rfl
   have f5 := hfl 5 _ rfl
   match xs, hxl with
   | [y0, y1, y2, y3, y4, y5], _ =>
    have k1 : Tryz.prog.cellsOf 22 = 1 := by kernel_rfl
    have k3 : Tryz.prog.cellsOf 23 = 1 := by kernel_rfl
    have k4 : Tryz.prog.cellsOf 24 = 1 := by kernel_rfl
    simp [k1, k2, k3, k4] at f0 f1 f2 f3 f4 f5
    have hd : z3.1 = .agg [y0.1, y1.1, y2.1, y3.1, y4.1, y5.1] := by simpa using congrArg Prod.fst hxy
    rw [hd] at hb3
    unfold EU at hb3
    simp only [DataW.weights, DataW.weightsEach, Tryz.underlying26, List.map_cons, List.map_nil, List.mem_append] at hb3
    obtain ⟨fs0, sa, sc, rfl, s1, s2, hh0⟩ := JO f0 (fun n hn => hb3 n (by simp [hn]))
    obtain ⟨bx, e1, _, _⟩ := DataW.trod_int Tryz.underlying3 f1
    obtain ⟨ex, e2, _, _⟩ := DataW.trod_int Tryz.underlying3 f2
    obtain ⟨fs, fa, fc, rfl, hn, hl, hh⟩ := JO f3 (fun n hn => hb3 n (by simp [hn]))
    obtain ⟨vs, va, vc, rfl, hvr, hvn, hvl⟩ := OQ f4 (fun n hn => hb3 n (by simp [hn]))
    obtain ⟨pk, pa, pc, rfl, hpk, hpl, hpr⟩ := LN f5 (fun n hn => hb3 n (by simp [hn]))
    have e1 : c1 = .int .i64 bx := by simpa using e1
    have e2 : c2 = .int .i64 ex := by simpa using e2
    subst e1 e2
    exact ⟨⟨kd, na, nb, fs0, fs, bx, ex, vs, pk, sa, fa, va, pa, sc, fc, vc, pc⟩, rfl, ⟨show na < 65536 by omega, show nb < 65536 by omega, hh0, s2, s1, hh, hl, hn, hvr, hvn, hvl, hpk, hpl, hpr⟩⟩
theorem QJ {t : TypeId} {fuel : Nat} {c : Value} {x : DataW H × List MemPlace} (ht : Tryz.prog.underlying t = some (.slice 82)) (h : DataW.trod enc Tryz.prog W 0 (fun _ => true) true fuel t [c] = some x) (hw : EU t x.1) :
  ∃ (l : List OpD) (a : Option Addr) (cap : Nat), c = .slice a l.length cap ∧ Sp W a l ∧ l.length * 128 ≤ 140737488351232 := by
 rcases open_slice ht h with ⟨h0, _⟩ | ⟨a, len, cap, m, n, D, Pl, hcs, hb, hl, hm, hmm, rfl, hx⟩
 ·have h0 : c = .slice none 0 0 := by simpa using h0
  exact ⟨[], none, 0, by rw [h0]; rfl, fun i o hi => by simp at hi, by simp⟩
 ·have hlm : len ≤ m := by rw [hmm]; split <;> omega
  obtain ⟨l1, l2⟩ := FX ht hw
  rw [List.length_map, List.length_range, Tryz.bytesOp] at l1
  have each : ∀ i, i < len → ∃ o : OpD, o.ok W ∧ ∀ k u, o.cells[k]? = some u → W.cell? ((a.add (i * 9)).add k) = some u := fun i hi => by
   obtain ⟨cs', h1, h2⟩ := hx i (by omega)
   rw [Tryz.cellsOp] at h1
   obtain ⟨_, hlen, hcell⟩ := World.cells?_some h1
   obtain ⟨o, rfl, ho⟩ := RS h2 (l2 _ (List.mem_map.2 ⟨i, List.mem_range.2 hi, rfl⟩))
   refine ⟨o, ho, fun k u hk => ?_⟩
   rw [hcell k (by have := (List.getElem?_eq_some_iff.1 hk).1; omega)]
   exact hk
  obtain ⟨f, hf⟩ := choose_lt each
  have hcs : c = .slice (some a) len cap := by simpa using hcs
  subst hcs
  have hlen : ((List.range len).map f).length = len := by simp
  refine ⟨(List.range len).map f, some a, cap, by rw [hlen], fun i o hi => ?_, by rw [hlen]; exact l1⟩
  have hil : i < len := by
   have := (List.getElem?_eq_some_iff.1 hi).1
   simpa using this
  have e : o = f i := by
   simp [List.getElem?_range hil] at hi
   exact hi.symm
  subst e
  refine ⟨(hf i hil).1, ?_⟩
  obtain ⟨b, off, spot⟩ := a
  have hspot : spot = none := by
   have h2 := (hf 0 (by omega)).2 0 _ rfl
   simpa [Addr.add] using World.cell?_spot h2
  subst hspot
  refine ⟨b, off, rfl, fun k u hk => ?_⟩
  have := (hf i hil).2 k u hk
  rw [Fv, Fv] at this
  exact this
end
end Go.Proofs.YtonjphollmdicaaGreatDoor
namespace Go.Proofs.YtonjphollmdicaaGreatDoor
open Go.ChangeShapes Go.WideShapes Go.ChangeAt Go.RowKit
theorem OpD.ok.later {o : OpD} {w w' : World} (h : o.ok w) (hb : Below w.heap.size w w') : o.ok w' :=
 ⟨h.a, h.b, h.h0.later hb, h.n0, h.e0, h.h1.later hb, h.n1, h.e1, h.vr.later (Nat.le_refl _) hb, h.vn, h.vl, h.pr.later hb, h.pl, h.pn⟩
theorem QP {w : World} {base B : Nat} {rs : Nat → Value} {T : Nat → List Value} {M : Nat → List Int} (hbk : BookI w base B (· < w.heap.size) rs T M) (hMs : ∀ j, j < 4 → (M j).length + 4 ≤ 4398046511104) (hK : Kinds w) (o : OpD) (ho : o.ok w) :
  Calls Tryz.prog 34 #[.pointer (some ⟨B, 0, none⟩), .agg #[.int .i64 o.kind, .int .u16 (o.a : Int), .int .u16 (o.b : Int), .slice o.sa o.fs0.length o.sc, .int .i64 o.bx, .int .i64 o.ex, .slice o.fa o.fs.length o.fc, .slice o.va o.vs.length o.vc, .slice o.pa o.pk.length o.pc]] w (Eo w base B M) := by
 by_cases k1 : o.kind = 1
 ·rw [k1]
  exact NZ hbk o.a o.b ho.a ho.b _ _ _ _ _ _
 ·by_cases k2 : o.kind = 2
  ·rw [k2]
   exact MT o.a o.b o.fs0 o.bx o.ex o.sa o.sc _ _ _ ho.e0 ho.n0 w hbk hMs ho.h0
  ·by_cases k3 : o.kind = 3
   ·rw [k3]
    exact Qd o.a o.b o.fs0 o.fs o.bx o.ex o.vs o.pk o.sa o.fa o.va o.pa o.sc o.fc o.vc o.pc ho.n1 ho.e1 ho.vn ho.vl ho.pl ho.pn w hbk hMs hK ho.h0 ho.h1 ho.vr ho.pr
   ·by_cases k4 : o.kind = 4
    ·rw [k4]
     exact Mm o.a o.b o.fs0 o.fs o.bx o.ex o.vs o.pk o.sa o.fa o.va o.pa o.sc o.fc o.vc o.pc ho.n1 ho.e1 ho.vn ho.vl ho.pl ho.pn w hbk hMs hK ho.h0 ho.h1 ho.vr ho.pr
    ·exact Pf hbk o.kind k1 k2 k3 k4 _ _ _ _ _ _ _ _
def LU : Array Value := #[.slice none 0 0, .slice none 0 0, .slice none 0 0, .slice none 0 0, .slice none 0 0, .slice none 0 0, .slice none 0 0, .slice none 0 0]
theorem Rn (w : World) : BookI (w.alloc (.cells LU 78)) w.heap.size w.heap.size (· < (w.alloc (.cells LU 78)).heap.size) (fun _ => .slice none 0 0) (fun _ => []) (fun _ => []) where
 blk := Blk.new w LU _
 lo := Nat.le_refl _
 hi := by simp
 le := fun _ h => h
 apart := fun i j k _ _ _ h => by cases h
 off := fun i k _ h => by cases h
 rowT := fun j _ => World.ownsRow_nil _ _ _ _
 rowM := fun j _ => World.ownsRow_nil _ _ _ _
 len := fun j _ => rfl
 rng := fun j m _ h => by cases h
 good := fun j i v m _ h => by simp at h
theorem QF (l : List OpD) (sa : Option Addr) (cap : Nat) (hl : l.length * 128 ≤ 140737488351232) (w : World) (hK : Kinds w) (hr : Sp w sa l) :
  Calls Tryz.prog 8 #[.slice sa l.length cap] w fun e w' => e = .returned (.bool true) ∧ Below w.heap.size w w' := by
 have HK := Aa hK
 have HR := Aa hr
 have h0 := hK.lt
 clear hK hr
 obtain ⟨N, hN⟩ : ∃ x, x = l.length := ⟨_, rfl⟩
 have HN := Aa hN
 rw [← hN] at hl ⊢
 clear hN
 have hsz0 : w.heap.size < (w.alloc (.cells LU 78)).heap.size := by simp
 have HB0 := Aa (show Below w.heap.size w (w.alloc (.cells LU 78)) from (Below.refl _ _).alloc (Nat.le_refl _) _)
 have HK0 := Aa (Rn w)
 go_enter Tryz.func8, Tryz.ntmps8
 go_wp2_with fail
 refine (Ob _).mono ?_
 rintro e w1 ⟨rfl, hb1⟩
 have HB1 := Aa (Below.next HB0.out hb1)
 have HK1 := Aa ((HK0.out.later (fun _ hk => hk) hb1).mono (F' := (· < w1.heap.size)) (fun k hk => Nat.lt_of_lt_of_le hk hb1.size) (fun _ hk => hk))
 clear hb1 HB0 HK0 hsz0
 go_wp2_with fail
 go_loopw [4, 5] (fun ok ii W => ∃ (k : Nat) (rs : Nat → Value) (T : Nat → List Value) (M : Nat → List Int), k ≤ N ∧ ok = .bool true ∧ ii = .int .i64 (k : Int) ∧ Hid (BookI W w.heap.size w.heap.size (· < W.heap.size) rs T M) ∧ Hid (∀ j, (M j).length ≤ 4 * k) ∧ Hid (Below w.heap.size w W))
  (fun _ ii _ => N - (intOf ii).toNat)
 case atStart => exact ⟨0, _, _, _, by omega, rfl, rfl, HK1, Aa (fun _ => by simp), HB1⟩
 case round =>
  clear HB1 HK1
  obtain ⟨k, rs, T, M, hk, rfl, rfl, HBK, HM, HB⟩ := hrel
  by_cases hlt : k < N
  ·have hkl : k < l.length := by rw [← HN.out]; exact hlt
   obtain ⟨ho, sb, off, rfl, hc⟩ := HR.out k l[k] (List.getElem?_eq_getElem hkl)
   have hst := QP HBK.out (fun j _ => by have := HM.out j; omega) (HK.out.later HB.out h0) l[k] (ho.later HB.out)
   have hcw : ∀ (q : Nat) (u : Value), (l[k]).cells[q]? = some u → wr.cell? ⟨sb, off + k * 9 + q, none⟩ = some u := fun q u hq => by
    rw [HB.out.cell (World.block_lt_of_cell? w _ (hc q u hq))]
    exact hc q u hq
   have d0 := hcw 0 _ rfl
   have d1 := hcw 1 _ rfl
   have d2 := hcw 2 _ rfl
   have d3 := hcw 3 _ rfl
   have d4 := hcw 4 _ rfl
   have d5 := hcw 5 _ rfl
   have d6 := hcw 6 _ rfl
   have d7 := hcw 7 _ rfl
   have d8 := hcw 8 _ rfl
   rw [Nat.add_zero] at d0
   have HST := Aa hst
   obtain ⟨o, hoe⟩ : ∃ o, o = l[k] := ⟨_, rfl⟩
   rw [← hoe] at d0 d1 d2 d3 d4 d5 d6 d7 d8 HST
   clear hc hcw hst ho hoe
   go_wp2_with fail
   refine HST.out.mono ?_
   rintro e w2 ⟨rfl, hb2, rs', T', M', hbk', hlen⟩
   have HB2 := Aa (HB.out.trans hb2)
   have HBK2 := Aa hbk'
   have HM2 : Hid (∀ j, (M' j).length ≤ 4 * (k + 1)) := Aa (fun j => by have := hlen j; have := HM.out j; omega)
   clear hb2 hbk' hlen HST HM HBK HB d0 d1 d2 d3 d4 d5 d6 d7 d8
   go_wp2_with fail
   refine (Dt HBK2.out (fun j _ => by have := HM2.out j; omega)).mono ?_
   rintro e w3 ⟨rfl, hb3⟩
   have HB3 := Aa (HB2.out.trans (hb3.mono HB2.out.size))
   have HBK3 := Aa ((HBK2.out.later (fun _ hk => hk) hb3).mono (F' := (· < w3.heap.size)) (fun k hk => Nat.lt_of_lt_of_le hk hb3.size) (fun _ hk => hk))
   clear hb3 HB2 HBK2
   go_wp2_with fail
   exact ⟨⟨k + 1, _, _, _, by omega, rfl, by go_num, HBK3, HM2, HB3⟩, by simp [intOf]; omega⟩
  ·obtain rfl : k = N := by omega
   go_wp2_with fail
   go_ret
   exact ⟨rfl, HB.out⟩
end Go.Proofs.YtonjphollmdicaaGreatDoor
namespace Go.Proofs.YtonjphollmdicaaGreatDoor.all
open Go.ChangeShapes Go.WideShapes Go.ChangeAt Go.RowKit
open Go.Joins Go.Deep
set_option linter.unusedVariables false
theorem own : ownKnob Tryz.prog.godebug = none := by kernel_rfl
theorem RR : laidOutB Tryz.prog = true := by kernel_rfl
noncomputable def Id (os : Os) : World :=
 { World.holding Tryz.prog os ⟨#[], #[], []⟩ with heap := (World.holding Tryz.prog os ⟨#[], #[], []⟩).heap.modify 0 fun
   | .cells _ t frozen => .cells #[.int .u8 77, .func (.func 185) #[] #[], .int .u8 70, .func (.func 186) #[] #[], .int .u8 82, .func (.func 187) #[] #[]] t frozen
   | o => o }
def NC : Value := .slice none 0 0
theorem QO (os : Os) : laidMetH Tryz.prog Rows.allRow.laid ((Id os).forCall (fun _ _ => 0) ⟨#[], #[NC], []⟩).memory :=
 laidMetH_of_parts3 (fuel := 8) (laidMet_of_run' 8 (by kernel_rfl) (by kernel_rfl)) (by kernel_rfl) (by kernel_rfl)
theorem S7 (os : Os) {H : Type} (enc : TypeId × Value → H) : ∃ places, DataW.whole enc Tryz.prog ((Id os).forCall (fun _ _ => 0) ⟨#[], #[NC], []⟩).memory Tryz.f8.params.toList Rows.allSpec.vars false #[NC].toList 8 = some ([.nil], [], places) :=
 ⟨[], by kernel_rfl⟩
theorem SA (os : Os) (started : os.Started) (H : Type) (enc : TypeId × Value → H) (F : Stop.Interp) :
  ReturnsInHanded {} Tryz.checked os 8 .any ((OpenSpec.ofChange Rows.allSpec).preRow enc Tryz.prog Tryz.f8 Rows.allRow.domain false Rows.allRow.laid) (((OpenSpec.ofChange Rows.allSpec).at F).post enc Tryz.prog Tryz.f8 false true false false) := by
 obtain ⟨places, hx⟩ := S7 os enc
 refine returnsInHanded_of_row (C := Tryz.checked) (s := OpenSpec.ofChange Rows.allSpec) own started (by kernel_rfl) Tryz.func8
  (witness_row_at (enc := enc) (C := Tryz.checked) false (Id os) #[NC] rfl (by kernel_rfl) (by kernel_rfl) (by kernel_rfl)
   (OpenSpec.preRow_of_cond 8 hx (by kernel_rfl) (fun k hk => by cases hk) (by kernel_rfl) (QO os))) ?_
 intro W base args ds gs before hval0 hW _ _ hsz0 hL _ _
 have hval : ∀ (j : Nat) t v, Tryz.f8.params[j]? = some t → args[j]? = some v → Value.okWide Tryz.prog W .any base t v := hval0
 have hsz : (DataW.weightsEach Tryz.prog (Tryz.f8.params.toList ++ Rows.allSpec.plain.varTypes Tryz.prog) (ds ++ gs)).all (· ≤ reachBytes) = true := hsz0
 have hW' := hW
 obtain ⟨p, q, hA0, hV, rfl, hfz, hnd⟩ := hW
 have hA : DataW.TrodAll enc Tryz.prog W 0 (fun _ => true) true Tryz.f8.params.toList args.toList ds p := hA0
 rw [Tryz.params8] at hA hval hsz
 obtain ⟨v0, vs0, d0, ds0, p0, q0, hargs, rfl, rfl, h0, r0⟩ := trodAll_cons hA
 obtain ⟨rfl, rfl, rfl⟩ := trodAll_nil r0
 obtain rfl : args = #[v0] := by cases args; simp_all
 obtain ⟨rfl, rfl⟩ := trodVars_none hV
 have k0 := h0
 have lt0 : ∀ x ∈ p0, x.block < W.heap.size := by obtain ⟨m, hm⟩ := k0; exact DataW.trod_lt m _ _ _ hm
 have hbulk : EU 71 d0 := fun n hn => by
  have := List.all_eq_true.1 hsz n (by
   simp only [List.cons_append, List.nil_append, DataW.weightsEach]
   exact List.mem_append_left _ hn)
  exact (of_decide_eq_true this : n ≤ reachBytes)
 obtain ⟨a0, len0, cap0, rfl⟩ := okWide_slice Tryz.underlying71 (hval 0 71 _ rfl rfl)
 obtain ⟨fuel, hf⟩ := h0
 obtain ⟨l, sa, cap, hcs, hrd, hll⟩ := QJ (c := .slice a0 len0 cap0) (x := (d0, p0)) Tryz.underlying71 (by simpa [Value.cells] using hf) hbulk
 cases hcs
 have hK : Kinds W := Rf hL
 clear hA0 hval0 hbulk hsz hsz0
 refine (QF l a0 cap0 hll W hK hrd).mono fun e W' ⟨he, bel⟩ => ?_
 subst he
 exact ⟨_, rfl, _, _, _, [], _, [], hW', trodAll_mk1 (shut_bool Tryz.underlying4 _), trodAll_mk1 (Below.trod RR (by kernel_rfl) (of_decide_eq_true (by kernel_rfl)) k0 bel lt0), rfl, bel.frame _, fun h => by cases h⟩
theorem said : Rows.AllSaid :=
 OpenClaim.holds_of_cond 8 Tryz.f8 rfl rfl rfl rfl rfl rfl rfl ⟨rfl, rfl, rfl, rfl, rfl⟩ rfl rfl rfl rfl rfl (by kernel_rfl) Tryz.func8 (by kernel_rfl)
  (of_decide_eq_true (by kernel_rfl)) (by unfold Func.isWrapper; first | (rw [if_pos (by decide +kernel)]; kernel_rfl) | (rw [if_neg (by decide +kernel)]; exact ⟨rfl, rfl⟩))
  (fun os started H enc _ F => by rw [OpenClaim.pre_eq_preRow]; exact SA os started H enc F)
theorem plain (f : FuncId) (fn : Func) (hf : Tryz.pinned.checked.prog.funcNamed "salvage/salvagelaw.All" = some f) (hfn : Tryz.pinned.checked.prog.funcs[f]? = some fn) :
  false = Tryz.pinned.checked.prog.looks [] ∧ ∀ (j : Nat) t, fn.params[j]? = some t → Tryz.pinned.checked.prog.wantsStandIn t = false := by
 obtain rfl : f = 8 := Option.some.inj ((show Tryz.prog.funcNamed "salvage/salvagelaw.All" = some 8 by kernel_rfl).symm.trans hf) |>.symm
 obtain rfl : fn = Tryz.f8 := (Option.some.inj (Tryz.func8.symm.trans hfn)).symm
 refine ⟨by kernel_rfl, fun j t ht => ?_⟩
 rw [Tryz.params8] at ht
 obtain rfl : t = 71 := by simpa using Array.mem_of_getElem? ht
 exact (show Tryz.prog.wantsStandIn 71 = false by kernel_rfl)
end Go.Proofs.YtonjphollmdicaaGreatDoor.all
namespace Go.Proofs.YtonjphollmdicaaGreatDoor
open Go
theorem all_holds : Rows.AllCardSaid :=
 Claim7.holds_tied_plain_at .later [] _ _ _ _ all.said (fun _ h => by cases h) (by kernel_rfl) (fun _ h => by cases h) all_row_tie rfl ⟨rfl, rfl⟩ (by kernel_rfl) rfl all.plain (by kernel_rfl)
#print axioms all_holds
end Go.Proofs.YtonjphollmdicaaGreatDoor
