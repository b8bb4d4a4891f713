import Derived.Test.YtonjphollmdicaaRows
import Derived.Test.YtonjphollmdicaaLawCreates
import Derived.WalkKit
import Derived.ProofKit
import Derived.OpenShut
import Derived.ShutString
import Derived.ChangeOld
import Derived.Below
import Derived.SizedLaws
import Derived.Deep.SlicePairs
import Derived.Lib.SmallJoins
namespace Go.Proofs.Ytonjphollmdicaa.creates
open Go.ChangeShapes Go.WideShapes Go.ChangeAt Go.RowKit
open Go.Joins Go.Deep
set_option linter.unusedVariables false

theorem own : ownKnob Try.prog.godebug = none := by kernel_rfl
theorem laidOut : laidOutB Try.prog = true := by kernel_rfl
theorem Try.cellsF : Try.prog.cellsOf 43 = 2 := by kernel_rfl
theorem Try.cells9 : Try.prog.cellsOf 9 = 1 := by kernel_rfl
theorem Try.bytesF : Try.prog.bytesOf 43 = 32 := by kernel_rfl

theorem weights_all {H : Type} {P : Program} {e : TypeId} : ∀ {elems : List (DataW H)} {d : DataW H} {n : Nat}, d ∈ elems → n ∈ d.weights P e → n ∈ DataW.weightsAll P e elems
  | [], _, _, hd, _ => by cases hd
  | x :: r, d, n, hd, hn => by
    simp only [DataW.weightsAll, List.mem_append]
    rcases List.mem_cons.1 hd with rfl | hd
    · exact .inl hn
    · exact .inr (weights_all hd hn)

def bytesIn : Value → List UInt8
  | .string s => s.data.toList
  | _ => []

def filesIn (V0 V1 : Nat → Value) (len : Nat) : List FileL := (List.range len).map fun i => (bytesIn (V0 i), bytesIn (V1 i))

theorem add_flat (b off j : Nat) : (⟨b, off, none⟩ : Addr).add j = ⟨b, off + j, none⟩ := by unfold Addr.add; split <;> simp_all

theorem files_rd {w : World} {a : Addr} {V0 V1 : Nat → Value} {len : Nat} (h0 : ∀ i, i < len → V0 i = .string (str (bytesIn (V0 i))) ∧ V1 i = .string (str (bytesIn (V1 i)))) (hc : ∀ i, i < len → w.cell? (a.add (i * 2)) = some (V0 i) ∧ w.cell? (a.add (i * 2 + 1)) = some (V1 i)) :
    Rd w (some a) (filesV (filesIn V0 V1 len)) := by
  intro k u hk
  have hkl : k < 2 * len := by
    have := (List.getElem?_eq_some_iff.1 hk).1
    rw [filesV_length] at this
    simpa [filesIn] using this
  obtain ⟨b, off, spot⟩ := a
  have hs := (hc 0 (by omega)).1
  rw [Nat.zero_mul] at hs
  have hspot : spot = none := by simpa [Addr.add] using World.cell?_spot hs
  subst hspot
  refine ⟨b, off, rfl, ?_⟩
  have hadd := fun j => add_flat b off j
  have hl : k / 2 < (filesIn V0 V1 len).length := by simp [filesIn]; omega
  obtain ⟨g1, g2⟩ := filesV_get (filesIn V0 V1 len) (k / 2) hl
  have hi : k / 2 < len := by omega
  have e1 : (filesIn V0 V1 len)[k / 2].1 = bytesIn (V0 (k / 2)) := by simp [filesIn]
  have e2 : (filesIn V0 V1 len)[k / 2].2 = bytesIn (V1 (k / 2)) := by simp [filesIn]
  rw [e1, ← (h0 _ hi).1] at g1
  rw [e2, ← (h0 _ hi).2] at g2
  rcases Nat.mod_two_eq_zero_or_one k with h | h
  · rw [show 2 * (k / 2) = k from by omega, hk] at g1
    cases g1
    have := (hc _ hi).1
    rw [hadd, show k / 2 * 2 = k from by omega] at this
    exact this
  · rw [show 2 * (k / 2) + 1 = k from by omega, hk] at g2
    cases g2
    have := (hc _ hi).2
    rw [hadd, show k / 2 * 2 + 1 = k from by omega] at this
    exact this

set_option maxRecDepth 100000 in
theorem lifted (os : Os) (started : os.Started) (H : Type) (enc : TypeId × Value → H) :
    ReturnsInHanded {} Try.checked os 4 .any (Rows.createsSpec.pre6 enc Try.prog Try.f4 Rows.createsRow.domain false) (Rows.createsSpec.post enc Try.prog Try.f4 false true false false) := by
  refine returnsInHanded_of_change_sized (C := Try.checked) own started (by kernel_rfl) Try.func4
    (ChangeSpec.witness6 (enc := enc) (C := Try.checked) false ⟨#[], #[.slice none 0 0, .int .i64 0, .int .i64 0], []⟩ 8 (by kernel_rfl) (by kernel_rfl) (by kernel_rfl) (by kernel_rfl)) ?_
  intro W base args ds gs before hval0 hW hcnd hsz0 _
  have hsz : (DataW.weightsEach Try.prog (Try.f4.params.toList ++ Rows.createsSpec.plain.varTypes Try.prog) (ds ++ gs)).all (· ≤ reachBytes) = true := hsz0
  have hval : ∀ (j : Nat) t v, Try.f4.params[j]? = some t → args[j]? = some v → Value.okWide Try.prog W .any base t v := hval0
  have hW' := hW
  obtain ⟨p, q, hA0, hV, rfl, hfz, hnd⟩ := hW
  have hA : DataW.TrodAll enc Try.prog W 0 (fun _ => true) true Try.f4.params.toList args.toList ds p := hA0
  rw [Try.params4] at hA hval hsz
  obtain ⟨v0, v1, v2, d0, d1, d2, p0, p1, p2, rfl, rfl, rfl, h0, h1, h2⟩ := trodAll_three hA
  obtain ⟨rfl, rfl⟩ := trodVars_none hV
  obtain ⟨i1, rfl, rfl, rfl, w1⟩ := open_int Try.underlying3 (hval 1 3 v1 rfl rfl) h1
  obtain ⟨i2, rfl, rfl, rfl, w2⟩ := open_int Try.underlying3 (hval 2 3 v2 rfl rfl) h2
  obtain ⟨a0, len0, cap0, rfl⟩ := okWide_slice Try.underlying25 (hval 0 25 v0 rfl rfl)
  have k0 := h0
  have lt0 : ∀ x ∈ p0, x.block < W.heap.size := by obtain ⟨m, hm⟩ := k0; exact DataW.trod_lt m _ _ _ hm
  have main : ∃ (fs : List FileL), len0 = fs.length ∧ (a0 = none → cap0 = 0) ∧ fs.length + 8 ≤ 4398046511104 ∧ Handed W fs a0 cap0 := by
    obtain ⟨fuel, hf⟩ := h0
    rcases open_slice_pairs Try.underlying25 Try.underlying43 Try.cellsF rfl rfl Try.cells9 Try.cells9 hf with ⟨hcs, _⟩ | ⟨a, len, cap, m, n, V0, V1, D0, D1, P0, P1, hcs, _, hl, hm, hmm, hx, hcell⟩
    · simp [Value.cells] at hcs
      obtain ⟨rfl, rfl, rfl⟩ := hcs
      exact ⟨[], rfl, fun _ => rfl, by simp, ⟨fun k u hk => by simp [filesV] at hk, by simp, by simp⟩⟩
    · simp [Value.cells] at hcs
      obtain ⟨rfl, rfl, rfl⟩ := hcs
      simp only [if_true] at hmm
      subst hmm
      simp only [Prod.mk.injEq] at hx
      obtain ⟨rfl, rfl⟩ := hx
      have hstr : ∀ i, i < m → (V0 i = .string (str (bytesIn (V0 i))) ∧ V1 i = .string (str (bytesIn (V1 i)))) ∧ D0 i = .lit (.string (bytesIn (V0 i))) ∧ D1 i = .lit (.string (bytesIn (V1 i))) := by
        intro i hi
        obtain ⟨_, _, t0, t1⟩ := hcell i hi
        obtain ⟨s0, e0, x0, _⟩ := DataW.trod_string Try.underlying9 t0
        obtain ⟨s1, e1, x1, _⟩ := DataW.trod_string Try.underlying9 t1
        have e0' : V0 i = .string s0 := by simpa using e0
        have e1' : V1 i = .string s1 := by simpa using e1
        rw [e0', e1']
        exact ⟨⟨by rw [bytesIn, ← str_of], by rw [bytesIn, ← str_of]⟩, by simpa [bytesIn] using congrArg Prod.fst x0, by simpa [bytesIn] using congrArg Prod.fst x1⟩
      have hreach : m * 32 ≤ 140737488351232 := by
        have := sized_slice hsz (j := 0) (t := 25) (e := 43) rfl rfl Try.underlying25
        rw [Try.bytesF] at this
        simp only [List.length_map, List.length_range, reachBytes] at this
        omega
      have hlen : (filesIn V0 V1 len0).length = len0 := by simp [filesIn]
      refine ⟨filesIn V0 V1 len0, hlen.symm, fun h => (by cases h), by rw [hlen]; omega, ⟨files_rd (fun i hi => (hstr i (by omega)).1) (fun i hi => ⟨(hcell i (by omega)).1, (hcell i (by omega)).2.1⟩), by rw [hlen]; exact hl, ?_⟩⟩
      intro f hf
      simp only [filesIn, List.mem_map, List.mem_range] at hf
      obtain ⟨i, hi, rfl⟩ := hf
      have key : ∀ n, n ∈ (DataW.agg [D0 i, D1 i] : DataW H).weights Try.prog 43 → n ≤ reachBytes := by
        intro n hn
        have := List.all_eq_true.1 hsz _ (DataW.weights_mem_each (j := 0) (t := 25) rfl rfl n (by
          simp only [DataW.weights, Try.underlying25]
          refine List.mem_cons_of_mem _ (List.mem_append_left _ (weights_all ?_ hn))
          exact List.mem_map.2 ⟨i, by simpa using hi, rfl⟩))
        simpa using this
      have b0 := key (bytesIn (V0 i)).length (by
        rw [(hstr i (by omega)).2.1, (hstr i (by omega)).2.2]
        simp [DataW.weights, DataW.weightsEach, Try.underlying43])
      have b1 := key (bytesIn (V1 i)).length (by
        rw [(hstr i (by omega)).2.1, (hstr i (by omega)).2.2]
        simp [DataW.weights, DataW.weightsEach, Try.underlying43])
      simp only [reachBytes] at b0 b1
      exact ⟨by simp only; omega, by simp only; omega⟩
  obtain ⟨fs, rfl, hnil, hfl, hh⟩ := main
  clear hA0 hval0
  refine (creates_walk fs i1 i2 a0 cap0 hnil hfl W hh).mono fun e W' ⟨he, bel⟩ => ?_
  subst he
  exact ⟨_, rfl, _, _, _, [], _, [], hW', trodAll_mk1 (shut_bool Try.underlying4 _), trodAll_mk3 (Below.trod laidOut (by kernel_rfl) (of_decide_eq_true (by kernel_rfl)) k0 bel lt0) (shut_int Try.underlying3 w1) (shut_int Try.underlying3 w2), rfl, bel.frame _, fun h => by cases h⟩

theorem over : Rows.createsRow.holds Try.pinned (OpenSpec.ofChange Rows.createsSpec) :=
  OpenClaim.holds_of_wide 4 Try.f4 rfl rfl rfl rfl rfl rfl rfl ⟨rfl, rfl, rfl, rfl, rfl⟩ rfl rfl rfl rfl rfl (by kernel_rfl) Try.func4 (by kernel_rfl)
    (of_decide_eq_true (by kernel_rfl)) (by unfold Func.isWrapper; first | (rw [if_pos (by decide +kernel)]; kernel_rfl) | (rw [if_neg (by decide +kernel)]; exact ⟨rfl, rfl⟩))
    (fun os started H enc _ => lifted os started H enc)
end Go.Proofs.Ytonjphollmdicaa.creates
namespace Go.Proofs.Ytonjphollmdicaa
/-- THE STATEMENT -/
theorem creates_holds : Rows.CreatesSaid :=
  creates.over
#print axioms creates_holds
end Go.Proofs.Ytonjphollmdicaa
