import Derived.Test.YtonjphollmdicaaRows
import Derived.Test.YtonjphollmdicaaSized
import Derived.WalkKit
import Derived.ProofKit
import Derived.OpenShut
import Derived.ShutString
import Derived.ChangeOld
import Derived.Below
import Derived.SliceStrings
import Derived.Lib.SmallJoins
namespace Go.Proofs.Ytonjphollmdicaa.sized
open Go.ChangeShapes Go.WideShapes Go.ChangeAt Go.RowKit
open Go.Joins
set_option linter.unusedVariables false

theorem own : ownKnob Try.prog.godebug = none := by kernel_rfl
theorem laidOut : laidOutB Try.prog = true := by kernel_rfl
theorem Try.cells37 : Try.prog.cellsOf 37 = 3 := by kernel_rfl
theorem Try.cells9 : Try.prog.cellsOf 9 = 1 := by kernel_rfl

theorem rd_of {w : World} {a : Addr} {ss : List ByteArray} {len : Nat} (hl : len ≤ ss.length) (hc : ∀ i, i < ss.length → w.cell? (a.add i) = some (.string (ss.getD i ByteArray.empty))) :
    Rd w (some a) (strV ((ss.take len).map fun s => s.data.toList)) := by
  intro k u hk
  have hlt : k < len := by
    have := (List.getElem?_eq_some_iff.1 hk).1
    simp [strV] at this
    omega
  have h1 := hc k (by omega)
  obtain ⟨b, off, spot⟩ := a
  have h2 := hc 0 (by omega)
  have hspot : spot = none := by simpa [Addr.add] using World.cell?_spot h2
  subst hspot
  refine ⟨b, off, rfl, ?_⟩
  have hadd : (⟨b, off, none⟩ : Addr).add k = ⟨b, off + k, none⟩ := by unfold Addr.add; split <;> simp_all
  rw [hadd] at h1
  rw [h1]
  have hk2 : k < ss.length := by omega
  simp only [strV, List.getElem?_map] at hk
  rw [List.getElem?_take, if_pos hlt, List.getElem?_eq_getElem hk2] at hk
  simp only [Option.map_some, Option.some.injEq] at hk
  rw [← hk, ← str_of]
  simp [hk2]

set_option maxRecDepth 100000 in
theorem lifted (os : Os) (started : os.Started) (H : Type) (enc : TypeId × Value → H) :
    ReturnsInHanded {} Try.checked os 5 .any (Rows.sizedSpec.pre6 enc Try.prog Try.f5 Rows.sizedRow.domain false) (Rows.sizedSpec.post enc Try.prog Try.f5 false true false false) := by
  refine returnsInHanded_of_change (C := Try.checked) own started (by kernel_rfl) Try.func5
    (ChangeSpec.witness6 (enc := enc) (C := Try.checked) false ⟨#[], #[.agg #[.slice none 0 0, .int .i64 0, .int .i64 0]], []⟩ 8 (by kernel_rfl) (by kernel_rfl) (by kernel_rfl) (by kernel_rfl)) ?_
  intro W base args ds gs before hval0 hW hcnd _
  have hval : ∀ (j : Nat) t v, Try.f5.params[j]? = some t → args[j]? = some v → Value.okWide Try.prog W .any base t v := hval0
  have hW' := hW
  obtain ⟨p, q, hA0, hV, rfl, hfz, hnd⟩ := hW
  have hA : DataW.TrodAll enc Try.prog W 0 (fun _ => true) true Try.f5.params.toList args.toList ds p := hA0
  rw [Try.params5] at hA hval
  obtain ⟨v0, vs0, d0, ds0, p0, q0, hargs, rfl, rfl, h0, r0⟩ := trodAll_cons hA
  obtain ⟨rfl, rfl, rfl⟩ := trodAll_nil r0
  obtain rfl : args = #[v0] := by cases args; simp_all
  obtain ⟨rfl, rfl⟩ := trodVars_none hV
  have k0 := h0
  have lt0 : ∀ x ∈ p0, x.block < W.heap.size := by obtain ⟨m, hm⟩ := k0; exact DataW.trod_lt m _ _ _ hm
  obtain ⟨c0, c1, c2, y0, y1, y2, n, rfl, rfl, rfl, hy0, hy1, hy2⟩ := open_agg3 Try.underlying37 (by kernel_rfl) Try.cells37 (hval 0 37 v0 rfl rfl) h0
  obtain ⟨i1, e1, hd1, w1⟩ := DataW.trod_int Try.underlying3 hy1
  obtain ⟨i2, e2, hd2, w2⟩ := DataW.trod_int Try.underlying3 hy2
  obtain rfl : c1 = .int .i64 i1 := by simpa using e1
  obtain rfl : c2 = .int .i64 i2 := by simpa using e2
  have b1 := bounds_i64 w1
  have b2 := bounds_i64 w2
  have main : ∃ (D : List (List UInt8)) (a : Option Addr) (cp : Nat), c0 = .slice a D.length cp ∧ Rd W a (strV D) ∧ D.length ≤ 9223372036854775807 ∧ ∀ d ∈ D, d.length ≤ 9223372036854775807 := by
    rcases open_strings Try.underlying28 Try.underlying9 Try.cells9 hy0 with ⟨hcs, _⟩ | ⟨a, len, cp, ss, hcs, _, hl, hm, hz, _, hcell, hws⟩
    · refine ⟨[], none, 0, by simpa using hcs, fun k u hk => by simp [strV] at hk, by simp, by simp⟩
    · have hsl : ss.length = cp := by simpa using hz
      have hll : ((ss.take len).map fun s => s.data.toList).length = len := by simp; omega
      refine ⟨(ss.take len).map fun s => s.data.toList, some a, cp, ?_, rd_of (by omega) hcell, ?_, ?_⟩
      · rw [hll]; simpa using hcs
      · rw [hll]; unfold maxLen at hm; omega
      · intro d hd
        obtain ⟨x, hx, rfl⟩ := List.mem_map.1 hd
        have := hws x (List.mem_of_mem_take hx)
        unfold maxLen at this
        rw [Array.length_toList]
        exact this
  obtain ⟨D, a, cp, rfl, hrd, hDl, hDs⟩ := main
  clear hA0 hval0
  refine (sized_walk ⟨D, i1, i2⟩ a cp W ⟨hrd, hDl, hDs, b1.1, b1.2, b2.1, b2.2⟩).mono fun e W' ⟨he, bel⟩ => ?_
  subst he
  exact ⟨_, rfl, _, _, _, [], _, [], hW', trodAll_mk1 (shut_bool Try.underlying4 _), (trodAll_cons_mk (Below.trod laidOut (by kernel_rfl) (of_decide_eq_true (by kernel_rfl)) k0 bel lt0) trodAll_mk0), rfl, bel.frame _, fun h => by cases h⟩

theorem over : Rows.sizedRow.holds Try.pinned (OpenSpec.ofChange Rows.sizedSpec) :=
  OpenClaim.holds_of_wide 5 Try.f5 rfl rfl rfl rfl rfl rfl rfl ⟨rfl, rfl, rfl, rfl, rfl⟩ rfl rfl rfl rfl rfl (by kernel_rfl) Try.func5 (by kernel_rfl)
    (of_decide_eq_true (by kernel_rfl)) (by unfold Func.isWrapper; first | (rw [if_pos (by decide +kernel)]; kernel_rfl) | (rw [if_neg (by decide +kernel)]; exact ⟨rfl, rfl⟩))
    (fun os started H enc _ => lifted os started H enc)
end Go.Proofs.Ytonjphollmdicaa.sized
namespace Go.Proofs.Ytonjphollmdicaa
/-- THE STATEMENT -/
theorem sized_holds : Rows.SizedSaid :=
  sized.over
#print axioms sized_holds
end Go.Proofs.Ytonjphollmdicaa
