import Derived.Test.YtonjphollmdicaaGreatDoorB19
import Derived.Test.YtonjphollmdicaaGreatDoorB35
import Derived.Test.YtonjphollmdicaaGreatDoorB45
import Derived.Test.YtonjphollmdicaaGreatDoorRows
import Derived.WalkKit
import Derived.ProofKit
import Derived.OpenShut
import Derived.ShutString
import Derived.ChangeOld
import Derived.Below
import Derived.LaidMore
import Derived.Stop.Joined
import Derived.Deep.SlicePairs
import Derived.Lib.SmallJoins
import Derived.Lib.LaidTab
import Derived.SliceStrings
import Derived.ChangeMaps5
import Derived.Test.YtonjphollmdicaaGreatDoorCards
import Derived.Test.YtonjphollmdicaaGreatDoorTie
import Derived.Deep.DeepHandedRow
namespace Go.Proofs.YtonjphollmdicaaGreatDoor
open Go.ChangeShapes Go.WideShapes Go.ChangeAt Go.RowKit
open Go.Joins Go.Deep

theorem Tryz.gKinds : Tryz.prog.globalNamed "salvage/volume.kinds" = some 0 := by kernel_rfl
theorem Tryz.tKinds : (Tryz.prog.globals[0]?).map (·.type) = some 179 := by kernel_rfl
theorem Tryz.cellsK : Tryz.prog.cellsOf 179 = 6 := by kernel_rfl
theorem Tryz.cellsE : Tryz.prog.cellsOf 178 = 2 := by kernel_rfl
theorem Tryz.cellsB : Tryz.prog.cellsOf 5 = 1 := by kernel_rfl
theorem Tryz.cellsR : Tryz.prog.cellsOf 177 = 1 := by kernel_rfl
/-- an array of three pairs -/
theorem open_tab3 {H : Type} {enc : TypeId × Value → H} {W : World} {fuel : Nat} {t e : TypeId} {f0 f1 : Field} {cs : List Value} {a0 b0 a1 b1 a2 b2 : DataW H} {p : List MemPlace} (ht : Tryz.prog.underlying t = some (.array 3 e)) (he : Tryz.prog.underlying e = some (.struct #[f0, f1]))
    (ce : Tryz.prog.cellsOf e = 2) (ct : Tryz.prog.cellsOf t = 6) (o0 : f0.offset = 0) (o1 : f1.offset = 1) (k0 : Tryz.prog.cellsOf f0.type = 1) (k1 : Tryz.prog.cellsOf f1.type = 1)
    (h : DataW.trod enc Tryz.prog W 0 (fun _ => true) true fuel t cs = some (.agg [.agg [a0, b0], .agg [a1, b1], .agg [a2, b2]], p)) :
    ∃ (c0 c1 c2 c3 c4 c5 : Value) (n0 n1 n2 : Nat) (q0 q1 q2 q3 q4 q5 : List MemPlace), cs = [c0, c1, c2, c3, c4, c5] ∧
      DataW.trod enc Tryz.prog W 0 (fun _ => true) true n0 f0.type [c0] = some (a0, q0) ∧ DataW.trod enc Tryz.prog W 0 (fun _ => true) true n0 f1.type [c1] = some (b0, q1) ∧
      DataW.trod enc Tryz.prog W 0 (fun _ => true) true n1 f0.type [c2] = some (a1, q2) ∧ DataW.trod enc Tryz.prog W 0 (fun _ => true) true n1 f1.type [c3] = some (b1, q3) ∧
      DataW.trod enc Tryz.prog W 0 (fun _ => true) true n2 f0.type [c4] = some (a2, q4) ∧ DataW.trod enc Tryz.prog W 0 (fun _ => true) true n2 f1.type [c5] = some (b2, q5) := by
  cases fuel with
  | zero => simp [DataW.trod] at h
  | succ fuel =>
    simp only [DataW.trod, ht, ce, ct] at h
    split at h
    · rename_i hl
      obtain ⟨xs, hm, hx⟩ := Option.map_eq_some_iff.1 h
      have hxs : xs.map (·.1) = [.agg [a0, b0], .agg [a1, b1], .agg [a2, b2]] := by
        have := congrArg Prod.fst hx
        simpa using this
      match cs, hl with
      | [c0, c1, c2, c3, c4, c5], _ =>
        obtain ⟨y0, hy0, h0⟩ := Lib.mapM_at hm 0 0 rfl
        obtain ⟨y1, hy1, h1⟩ := Lib.mapM_at hm 1 1 rfl
        obtain ⟨y2, hy2, h2⟩ := Lib.mapM_at hm 2 2 rfl
        have z0 : y0.1 = .agg [a0, b0] := by
          have : (xs.map (·.1))[0]? = some y0.1 := by simp [hy0]
          rw [hxs] at this
          simpa using this.symm
        have z1 : y1.1 = .agg [a1, b1] := by
          have : (xs.map (·.1))[1]? = some y1.1 := by simp [hy1]
          rw [hxs] at this
          simpa using this.symm
        have z2 : y2.1 = .agg [a2, b2] := by
          have : (xs.map (·.1))[2]? = some y2.1 := by simp [hy2]
          rw [hxs] at this
          simpa using this.symm
        have key : ∀ (c c' : Value) (a b : DataW H) (y : DataW H × List MemPlace), y.1 = .agg [a, b] → DataW.trod enc Tryz.prog W 0 (fun _ => true) true fuel e [c, c'] = some y → ∃ n q q', DataW.trod enc Tryz.prog W 0 (fun _ => true) true n f0.type [c] = some (a, q) ∧ DataW.trod enc Tryz.prog W 0 (fun _ => true) true n f1.type [c'] = some (b, q') := by
          intro c c' a b y hy hh
          obtain ⟨ys, n, _, hxy, _, hyl, hfl⟩ := DataW.trod_struct he hh
          match ys, hyl with
          | [u0, u1], _ =>
            have g0 := hfl 0 f0 rfl
            have g1 := hfl 1 f1 rfl
            simp [o0, o1, k0, k1] at g0 g1
            rw [hxy] at hy
            simp at hy
            obtain ⟨rfl, rfl⟩ := hy
            exact ⟨n, u0.2, u1.2, g0, g1⟩
        obtain ⟨n0, q0, q1, r0, r1⟩ := key c0 c1 a0 b0 y0 z0 (by simpa using h0)
        obtain ⟨n1, q2, q3, r2, r3⟩ := key c2 c3 a1 b1 y1 z1 (by simpa using h1)
        obtain ⟨n2, q4, q5, r4, r5⟩ := key c4 c5 a2 b2 y2 z2 (by simpa using h2)
        exact ⟨c0, c1, c2, c3, c4, c5, n0, n1, n2, q0, q1, q2, q3, q4, q5, rfl, r0, r1, r2, r3, r4, r5⟩
    · cases h
set_option maxRecDepth 100000 in
theorem kinds_of {W : World} (h : laidMetH Tryz.prog [("salvage/volume.kinds", Rows.laid_salvage_volume_kinds)] W) : Kinds W := by
  obtain ⟨g, t, cs, fuel, p, hg, ht, hv, hd⟩ := h.funcs (List.mem_singleton.2 rfl)
  obtain rfl := Option.some.inj (Tryz.gKinds.symm.trans hg)
  obtain rfl := Option.some.inj (Tryz.tKinds.symm.trans ht)
  have hd' : DataW.trod (funcToken Tryz.prog) Tryz.prog W 0 (fun _ => true) true fuel 179 cs.toList = some (.agg [.agg [.lit (.int .u8 77), .held [40, 42, 115, 97, 108, 118, 97, 103, 101, 47, 118, 111, 108, 117, 109, 101, 46, 83, 101, 116, 41, 46, 114, 101, 97, 100, 77, 97, 105, 110]], .agg [.lit (.int .u8 70), .held [40, 42, 115, 97, 108, 118, 97, 103, 101, 47, 118, 111, 108, 117, 109, 101, 46, 83, 101, 116, 41, 46, 114, 101, 97, 100, 70, 105, 108, 101]], .agg [.lit (.int .u8 82), .held [40, 42, 115, 97, 108, 118, 97, 103, 101, 47, 118, 111, 108, 117, 109, 101, 46, 83, 101, 116, 41, 46, 114, 101, 97, 100, 69, 120, 116, 114, 97]]], p) := hd
  obtain ⟨c0, c1, c2, c3, c4, c5, n0, n1, n2, q0, q1, q2, q3, q4, q5, hcs, r0, r1, r2, r3, r4, r5⟩ := open_tab3 Tryz.underlying179 Tryz.underlying178 Tryz.cellsE Tryz.cellsK rfl rfl Tryz.cellsB Tryz.cellsR hd'
  obtain ⟨z0, e0, x0, _⟩ := DataW.trod_int Tryz.underlying5 r0
  obtain ⟨z2, e2, x2, _⟩ := DataW.trod_int Tryz.underlying5 r2
  obtain ⟨z4, e4, x4, _⟩ := DataW.trod_int Tryz.underlying5 r4
  have f1 := func_of_trod (f0 := 185) Tryz.underlying177 (by kernel_rfl) r1
  have f3 := func_of_trod (f0 := 186) Tryz.underlying177 (by kernel_rfl) r3
  have f5 := func_of_trod (f0 := 187) Tryz.underlying177 (by kernel_rfl) r5
  have hcell : ∀ i, W.cell? ⟨0, i, none⟩ = cs[i]? := fun i => World.var?_cell hg hv i
  have hci : ∀ i, cs[i]? = [c0, c1, c2, c3, c4, c5][i]? := fun i => by rw [← hcs, Array.getElem?_toList]
  simp at e0 e2 e4 x0 x2 x4
  subst e0 e2 e4
  obtain ⟨rfl, _⟩ := x0
  obtain ⟨rfl, _⟩ := x2
  obtain ⟨rfl, _⟩ := x4
  exact ⟨by rw [hcell, hci]; rfl, by rw [hcell, hci, f1]; rfl, by rw [hcell, hci]; rfl, by rw [hcell, hci, f3]; rfl, by rw [hcell, hci]; rfl, by rw [hcell, hci, f5]; rfl⟩
end Go.Proofs.YtonjphollmdicaaGreatDoor
namespace Go.Proofs.YtonjphollmdicaaGreatDoor
open Go.ChangeShapes Go.WideShapes Go.ChangeAt Go.RowKit
open Go.Joins

theorem Tryz.cellsKSet : Tryz.prog.cellsOf 54 = 3 := by kernel_rfl
theorem Tryz.cellsStr : Tryz.prog.cellsOf 9 = 1 := by kernel_rfl
theorem rd_of {w : World} {a : Addr} {ss : List ByteArray} {len : Nat} (hl : len ≤ ss.length) (hc : ∀ i, i < ss.length → w.cell? (a.add i) = some (.string (ss.getD i ByteArray.empty))) :
    Rd w (some a) (strV ((ss.take len).map fun s => s.data.toList)) := by
  intro k u hk
  have hlt : k < len := by
    have := (List.getElem?_eq_some_iff.1 hk).1
    simp [strV] at this
    omega
  have h1 := hc k (by omega)
  obtain ⟨b, off, spot⟩ := a
  have h2 := hc 0 (by omega)
  have hspot : spot = none := by simpa [Addr.add] using World.cell?_spot h2
  subst hspot
  refine ⟨b, off, rfl, ?_⟩
  have hadd : (⟨b, off, none⟩ : Addr).add k = ⟨b, off + k, none⟩ := by unfold Addr.add; split <;> simp_all
  rw [hadd] at h1
  rw [h1]
  have hk2 : k < ss.length := by omega
  simp only [strV, List.getElem?_map] at hk
  rw [List.getElem?_take, if_pos hlt, List.getElem?_eq_getElem hk2] at hk
  simp only [Option.map_some, Option.some.injEq] at hk
  rw [← hk, ← str_of]
  simp [hk2]

section
variable {H : Type} {enc : TypeId × Value → H} {W : World}
set_option maxRecDepth 100000 in
theorem open_i64 {v : Value} {b0 : Nat} {d : DataW H} {p : List MemPlace} (hv : Value.okWide Tryz.prog W .any b0 3 v) (h : DataW.Trod enc Tryz.prog W 0 (fun _ => true) true 3 v d p) : ∃ i : Int, v = .int .i64 i ∧ (-9223372036854775808 ≤ i ∧ i ≤ 9223372036854775807) := by
  obtain ⟨i, rfl, _, _, hw⟩ := open_int Tryz.underlying3 hv h
  have b := bounds_i64 hw
  exact ⟨i, rfl, b.1, b.2⟩
set_option maxRecDepth 100000 in
theorem open_kset {v : Value} {b0 : Nat} {d : DataW H} {p : List MemPlace} (hv : Value.okWide Tryz.prog W .any b0 54 v) (h : DataW.Trod enc Tryz.prog W 0 (fun _ => true) true 54 v d p) : ∃ (s : KSet) (a : Option Addr) (cp : Nat), v = kV s a cp ∧ KOk W s a cp := by
  obtain ⟨c0, c1, c2, y0, y1, y2, n, rfl, rfl, rfl, hy0, hy1, hy2⟩ := open_agg3 Tryz.underlying54 (by kernel_rfl) Tryz.cellsKSet hv h
  obtain ⟨i1, e1, hd1, w1⟩ := DataW.trod_int Tryz.underlying3 hy1
  obtain ⟨i2, e2, hd2, w2⟩ := DataW.trod_int Tryz.underlying3 hy2
  obtain rfl : c1 = .int .i64 i1 := by simpa using e1
  obtain rfl : c2 = .int .i64 i2 := by simpa using e2
  have b1 := bounds_i64 w1
  have b2 := bounds_i64 w2
  have main : ∃ (D : List (List UInt8)) (a : Option Addr) (cp : Nat), c0 = .slice a D.length cp ∧ Rd W a (strV D) ∧ D.length ≤ 9223372036854775807 ∧ ∀ d ∈ D, d.length ≤ 9223372036854775807 := by
    rcases open_strings Tryz.underlying23 Tryz.underlying9 Tryz.cellsStr hy0 with ⟨hcs, _⟩ | ⟨a, len, cp, ss, hcs, _, hl, hm, hz, _, hcell, hws⟩
    · refine ⟨[], none, 0, by simpa using hcs, fun k u hk => by simp [strV] at hk, by simp, by simp⟩
    · have hsl : ss.length = cp := by simpa using hz
      have hll : ((ss.take len).map fun s => s.data.toList).length = len := by simp; omega
      refine ⟨(ss.take len).map fun s => s.data.toList, some a, cp, ?_, rd_of (by omega) hcell, ?_, ?_⟩
      · rw [hll]; simpa using hcs
      · rw [hll]; unfold maxLen at hm; omega
      · intro d hd
        obtain ⟨x, hx, rfl⟩ := List.mem_map.1 hd
        have := hws x (List.mem_of_mem_take hx)
        unfold maxLen at this
        rw [Array.length_toList]
        exact this
  obtain ⟨D, a, cp, rfl, hrd, hDl, hDs⟩ := main
  exact ⟨⟨D, i1, i2⟩, a, cp, rfl, ⟨hrd, hDl, hDs, b1.1, b1.2, b2.1, b2.2⟩⟩
end
end Go.Proofs.YtonjphollmdicaaGreatDoor
namespace Go.Proofs.YtonjphollmdicaaGreatDoor
open Go.ChangeShapes Go.WideShapes Go.ChangeAt Go.RowKit
open Go.Joins
section
variable {H : Type} {enc : TypeId × Value → H} {W : World}
set_option maxRecDepth 100000 in
theorem open_text {v : Value} {b0 : Nat} {d : DataW H} {p : List MemPlace} (hv : Value.okWide Tryz.prog W .any b0 9 v) (h : DataW.Trod enc Tryz.prog W 0 (fun _ => true) true 9 v d p) : ∃ l : List UInt8, v = .string (str l) ∧ l.length ≤ 9223372036854775807 := by
  obtain ⟨s, rfl, _, _, hs⟩ := Go.ChangeMaps.open_string Tryz.underlying9 hv h
  refine ⟨s.data.toList, by rw [← str_of], ?_⟩
  unfold maxLen at hs
  have : s.data.toList.length = s.size := by rw [Array.length_toList]; rfl
  omega
end
end Go.Proofs.YtonjphollmdicaaGreatDoor
namespace Go.Proofs.YtonjphollmdicaaGreatDoor.intact
open Go.ChangeShapes Go.WideShapes Go.ChangeAt Go.RowKit
open Go.Joins Go.Deep
set_option linter.unusedVariables false

theorem own : ownKnob Tryz.prog.godebug = none := by kernel_rfl
theorem laidOut : laidOutB Tryz.prog = true := by kernel_rfl

noncomputable def laidWorld (os : Os) : World :=
  { World.holding Tryz.prog os ⟨#[], #[], []⟩ with heap := (World.holding Tryz.prog os ⟨#[], #[], []⟩).heap.modify 0 fun
      | .cells _ t frozen => .cells #[.int .u8 77, .func (.func 185) #[] #[], .int .u8 70, .func (.func 186) #[] #[], .int .u8 82, .func (.func 187) #[] #[]] t frozen
      | o => o }
def noArgs : Array Value := #[.agg #[.slice none 0 0, .int .i64 0, .int .i64 0], .int .i64 0, .string ByteArray.empty]
set_option maxRecDepth 100000 in
theorem laid_met (os : Os) : laidMetH Tryz.prog Rows.intactRow.laid ((laidWorld os).forCall (fun _ _ => 0) ⟨#[], noArgs, []⟩).memory :=
  laidMetH_of_parts3 (fuel := 8) (laidMet_of_run' 8 (by kernel_rfl) (by kernel_rfl)) (by kernel_rfl) (by kernel_rfl)
set_option maxRecDepth 100000 in
theorem reads (os : Os) {H : Type} (enc : TypeId × Value → H) : ∃ places, DataW.whole enc Tryz.prog ((laidWorld os).forCall (fun _ _ => 0) ⟨#[], noArgs, []⟩).memory Tryz.f5.params.toList Rows.intactSpec.vars false noArgs.toList 8 = some ([.agg [.nil, .lit (.int .i64 0), .lit (.int .i64 0)], .lit (.int .i64 0), .lit (.string [])], [], places) :=
  ⟨[], by kernel_rfl⟩

set_option maxRecDepth 100000 in
theorem lifted (os : Os) (started : os.Started) (H : Type) (enc : TypeId × Value → H) (F : Stop.Interp) :
    ReturnsInHanded {} Tryz.checked os 5 .any ((OpenSpec.ofChange Rows.intactSpec).preRow enc Tryz.prog Tryz.f5 Rows.intactRow.domain false Rows.intactRow.laid) (((OpenSpec.ofChange Rows.intactSpec).at F).post enc Tryz.prog Tryz.f5 false true false false) := by
  obtain ⟨places, hx⟩ := reads os enc
  refine returnsInHanded_of_row (C := Tryz.checked) (s := OpenSpec.ofChange Rows.intactSpec) own started (by kernel_rfl) Tryz.func5
    (witness_row_at (enc := enc) (C := Tryz.checked) false (laidWorld os) noArgs rfl (by kernel_rfl) (by kernel_rfl) (by kernel_rfl)
      (OpenSpec.preRow_of_cond 8 hx (by kernel_rfl) (fun k hk => by cases hk) (by kernel_rfl) (laid_met os))) ?_
  intro W base args ds gs before hval0 hW _ _ hsz0 hL _ _
  have hval : ∀ (j : Nat) t v, Tryz.f5.params[j]? = some t → args[j]? = some v → Value.okWide Tryz.prog W .any base t v := hval0
  have hW' := hW
  obtain ⟨p, q, hA0, hV, rfl, hfz, hnd⟩ := hW
  have hA : DataW.TrodAll enc Tryz.prog W 0 (fun _ => true) true Tryz.f5.params.toList args.toList ds p := hA0
  rw [Tryz.params5] at hA hval
  obtain ⟨v0, vs0, d0, ds0, p0, q0, hargs, rfl, rfl, h0, r0⟩ := trodAll_cons hA
  obtain ⟨v1, vs1, d1, ds1, p1, q1, rfl, rfl, rfl, h1, r1⟩ := trodAll_cons r0
  obtain ⟨v2, vs2, d2, ds2, p2, q2, rfl, rfl, rfl, h2, r2⟩ := trodAll_cons r1
  obtain ⟨rfl, rfl, rfl⟩ := trodAll_nil r2
  obtain rfl : args = #[v0, v1, v2] := by cases args; simp_all
  obtain ⟨rfl, rfl⟩ := trodVars_none hV
  have lt0 : ∀ x ∈ p0, x.block < W.heap.size := by obtain ⟨m, hm⟩ := h0; exact DataW.trod_lt m _ _ _ hm
  have lt1 : ∀ x ∈ p1, x.block < W.heap.size := by obtain ⟨m, hm⟩ := h1; exact DataW.trod_lt m _ _ _ hm
  have lt2 : ∀ x ∈ p2, x.block < W.heap.size := by obtain ⟨m, hm⟩ := h2; exact DataW.trod_lt m _ _ _ hm
  obtain ⟨s, a, cp, hs, hok⟩ := open_kset (hval 0 54 v0 rfl rfl) h0
  obtain ⟨i1, e1, b1⟩ := open_i64 (hval 1 3 v1 rfl rfl) h1
  obtain ⟨l2, e2, b2⟩ := open_text (hval 2 9 v2 rfl rfl) h2
  subst hs e1 e2
  have hK : Kinds W := kinds_of hL
  clear hA0 hval0
  refine (intact_walk s a cp i1 l2 b1 b2 W hK hok).mono fun e W' ⟨he, bel⟩ => ?_
  subst he
  exact ⟨_, rfl, _, _, _, [], _, [], hW', trodAll_mk1 (shut_bool Tryz.underlying4 _), trodAll_cons_mk (Below.trod laidOut (by kernel_rfl) (of_decide_eq_true (by kernel_rfl)) h0 bel lt0) (trodAll_cons_mk (Below.trod laidOut (by kernel_rfl) (of_decide_eq_true (by kernel_rfl)) h1 bel lt1) (trodAll_cons_mk (Below.trod laidOut (by kernel_rfl) (of_decide_eq_true (by kernel_rfl)) h2 bel lt2) trodAll_mk0)), rfl, bel.frame _, fun h => by cases h⟩

theorem said : Rows.IntactSaid :=
  OpenClaim.holds_of_cond 5 Tryz.f5 rfl rfl rfl rfl rfl rfl rfl ⟨rfl, rfl, rfl, rfl, rfl⟩ rfl rfl rfl rfl rfl (by kernel_rfl) Tryz.func5 (by kernel_rfl)
    (of_decide_eq_true (by kernel_rfl)) (by unfold Func.isWrapper; first | (rw [if_pos (by decide +kernel)]; kernel_rfl) | (rw [if_neg (by decide +kernel)]; exact ⟨rfl, rfl⟩))
    (fun os started H enc _ F => by rw [OpenClaim.pre_eq_preRow]; exact lifted os started H enc F)

theorem plain (f : FuncId) (fn : Func) (hf : Tryz.pinned.checked.prog.funcNamed "salvage/salvagekeep.Intact" = some f) (hfn : Tryz.pinned.checked.prog.funcs[f]? = some fn) :
    false = Tryz.pinned.checked.prog.looks [] ∧ ∀ (j : Nat) t, fn.params[j]? = some t → Tryz.pinned.checked.prog.wantsStandIn t = false := by
  obtain rfl : f = 5 := Option.some.inj ((show Tryz.prog.funcNamed "salvage/salvagekeep.Intact" = some 5 by kernel_rfl).symm.trans hf) |>.symm
  obtain rfl : fn = Tryz.f5 := (Option.some.inj (Tryz.func5.symm.trans hfn)).symm
  refine ⟨by kernel_rfl, fun j t ht => ?_⟩
  rw [Tryz.params5] at ht
  have hm := Array.mem_of_getElem? ht
  have key : ∀ t ∈ #[54, 3, 9], Tryz.prog.wantsStandIn t = false := by
    intro t ht
    simp only [List.mem_toArray, List.mem_cons, List.not_mem_nil, or_false] at ht
    rcases ht with rfl | rfl | rfl <;> kernel_rfl
  exact key t hm
end Go.Proofs.YtonjphollmdicaaGreatDoor.intact
namespace Go.Proofs.YtonjphollmdicaaGreatDoor
open Go
/-- THE STATEMENT -/
theorem intact_holds : Rows.IntactCardSaid :=
  Claim7.holds_tied_plain_at .later [] _ _ _ _ intact.said (fun _ h => by cases h) (by kernel_rfl) (fun _ h => by cases h) intact_row_tie rfl ⟨rfl, rfl⟩ (by kernel_rfl) rfl intact.plain (by kernel_rfl)
#print axioms intact_holds
end Go.Proofs.YtonjphollmdicaaGreatDoor
