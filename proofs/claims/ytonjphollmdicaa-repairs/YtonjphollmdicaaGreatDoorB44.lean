import Derived.Test.YtonjphollmdicaaGreatDoorB03
import Derived.Test.YtonjphollmdicaaGreatDoorB08
import Derived.Test.YtonjphollmdicaaGreatDoorB27
import Derived.Test.YtonjphollmdicaaGreatDoorB34
import Derived.Test.YtonjphollmdicaaGreatDoorB42
import Derived.Test.YtonjphollmdicaaGreatDoorB43
import Derived.Test.YtonjphollmdicaaGreatDoorRows
import Derived.WalkKit
import Derived.ProofKit
import Derived.OpenShut
import Derived.ShutString
import Derived.ChangeOld
import Derived.Below
import Derived.LaidMore
import Derived.Stop.Joined
import Derived.Deep.SlicePairs
import Derived.Lib.SmallJoins
import Derived.Lib.LaidTab
namespace Go.Proofs.YtonjphollmdicaaGreatDoor
open Go.ChangeShapes Go.WideShapes Go.ChangeAt Go.RowKit
set_option linter.unusedSimpArgs false in
set_option maxRecDepth 100000 in
set_option maxHeartbeats 1000000 in
theorem lsameFiles_walk (l : List FileL) (a b : Option Addr) (c d : Nat) (hl : l.length ≤ 1000000) (w : World) (ha : Rd w a (filesV l)) (hb : Rd w b (filesV l)) :
  Calls Tryz.prog 22 #[.slice a l.length c, .slice b l.length d] w fun e w' => e = .returned (.bool true) ∧ Below w.heap.size w w' := by
 have hne' : ((l.length : Int) != (l.length : Int)) = false := by simp
 have HA := hid_of ha
 have HB := hid_of hb
 clear ha hb
 go_enter Tryz.func22, Tryz.ntmps22
 go_wp2_with fail
 go_loopw [5, 6] (fun i _ wr => ∃ k : Nat, k ≤ l.length ∧ i = .int .i64 (k : Int) ∧ Below w.heap.size w wr)
  (fun i _ _ => l.length - (intOf i).toNat)
 case atStart => exact ⟨0, by omega, rfl, Below.refl _ _⟩
 case round =>
  obtain ⟨k, hk, rfl, hbl⟩ := hrel
  have hszr := hbl.size
  by_cases hlt : k < l.length
  ·obtain ⟨b1, o1, rfl, x1, x2⟩ := fileCells HA.out (Nat.le_refl _) hbl k hlt
   obtain ⟨b2, o2, rfl, y1, y2⟩ := fileCells HB.out (Nat.le_refl _) hbl k hlt
   obtain ⟨nm, hnm⟩ : ∃ x, x = l[k].1 := ⟨_, rfl⟩
   obtain ⟨dt, hdt⟩ : ∃ x, x = l[k].2 := ⟨_, rfl⟩
   rw [← hnm] at x1 y1
   rw [← hdt] at x2 y2
   have hS : ∀ W, Below wr.heap.size wr W → W.cell? ⟨b1, o1 + k * 2, none⟩ = some (.string (str nm)) ∧ W.cell? ⟨b1, o1 + k * 2 + 1, none⟩ = some (.string (str dt)) ∧ W.cell? ⟨b2, o2 + k * 2, none⟩ = some (.string (str nm)) ∧ W.cell? ⟨b2, o2 + k * 2 + 1, none⟩ = some (.string (str dt)) := fun W hW =>
    ⟨(hW.cell (World.block_lt_of_cell? wr _ x1)).trans x1, (hW.cell (World.block_lt_of_cell? wr _ x2)).trans x2, (hW.cell (World.block_lt_of_cell? wr _ y1)).trans y1, (hW.cell (World.block_lt_of_cell? wr _ y2)).trans y2⟩
   have HS := hid_of hS
   have hsf := fun W => lsameFile_walk (nm, dt) (nm, dt) W
   rw [beq_self_eq_true] at hsf
   have HSF := hid_of hsf
   have HBL := hid_of hbl
   have hcur : Below wr.heap.size wr wr := Below.refl _ _
   clear hS hsf hbl hnm hdt x1 x2 y1 y2
   go_wp2_with fail
   refine wp_region_held_drew (S := fun W => W.cell? ⟨b1, o1 + k * 2, none⟩ = some (.string (str nm)) ∧ W.cell? ⟨b1, o1 + k * 2 + 1, none⟩ = some (.string (str dt)) ∧ W.cell? ⟨b2, o2 + k * 2, none⟩ = some (.string (str nm)) ∧ W.cell? ⟨b2, o2 + k * 2 + 1, none⟩ = some (.string (str dt))) (by kernel_rfl) (HS.out _ hcur.drew) (fun hHeld => ?_)
   first | (refine take_yes' (i := 0) (d := (some 18)) (v := ?tv1) (a' := ?ta1) rfl (by kernel_rfl) (by kernel_rfl) (by kernel_rfl) (by rfl) (fun _ _ _ h => h) ?thy1 (by assumption) rfl ?tha1 ?_; (case thy1 => (intro w hSw; (try dsimp only at hSw); simp only [List.getElem?_toArray, List.getElem?_cons_succ, List.getElem?_cons_zero, Option.map_some, Option.some.injEq]; go_simp; (try with_reducible rfl))); (case tha1 => (simp only [Act.put, List.setIfInBounds_toArray, List.set_cons_zero, List.set_cons_succ]; try rfl))) | (refine take_no' (i := 0) (d := (some 18)) (a' := ?ta1) rfl (by kernel_rfl) (by kernel_rfl) (by kernel_rfl) (by rfl) (fun _ _ _ h => h) (by assumption) rfl ?tha1 ?_; (case tha1 => (simp only [Act.put, List.setIfInBounds_toArray, List.set_cons_zero, List.set_cons_succ]; try rfl)))
   first | (refine take_yes' (i := 1) (d := (some 19)) (v := ?tv2) (a' := ?ta2) rfl (by kernel_rfl) (by kernel_rfl) (by kernel_rfl) (by rfl) (fun _ _ _ h => h) ?thy2 (by assumption) rfl ?tha2 ?_; (case thy2 => (intro w hSw; (try dsimp only at hSw); simp only [List.getElem?_toArray, List.getElem?_cons_succ, List.getElem?_cons_zero, Option.map_some, Option.some.injEq]; go_simp; (try with_reducible rfl))); (case tha2 => (simp only [Act.put, List.setIfInBounds_toArray, List.set_cons_zero, List.set_cons_succ]; try rfl))) | (refine take_no' (i := 1) (d := (some 19)) (a' := ?ta2) rfl (by kernel_rfl) (by kernel_rfl) (by kernel_rfl) (by rfl) (fun _ _ _ h => h) (by assumption) rfl ?tha2 ?_; (case tha2 => (simp only [Act.put, List.setIfInBounds_toArray, List.set_cons_zero, List.set_cons_succ]; try rfl)))
   first | (refine take_yes' (i := 2) (d := (some 20)) (v := ?tv3) (a' := ?ta3) rfl (by kernel_rfl) (by kernel_rfl) (by kernel_rfl) (by rfl) (fun _ _ _ h => h) ?thy3 (by assumption) rfl ?tha3 ?_; (case thy3 => (intro w hSw; (try dsimp only at hSw); simp only [List.getElem?_toArray, List.getElem?_cons_succ, List.getElem?_cons_zero, Option.map_some, Option.some.injEq]; go_simp; (try with_reducible rfl))); (case tha3 => (simp only [Act.put, List.setIfInBounds_toArray, List.set_cons_zero, List.set_cons_succ]; try rfl))) | (refine take_no' (i := 2) (d := (some 20)) (a' := ?ta3) rfl (by kernel_rfl) (by kernel_rfl) (by kernel_rfl) (by rfl) (fun _ _ _ h => h) (by assumption) rfl ?tha3 ?_; (case tha3 => (simp only [Act.put, List.setIfInBounds_toArray, List.set_cons_zero, List.set_cons_succ]; try rfl)))
   first | (refine take_yes' (i := 3) (d := (some 21)) (v := ?tv4) (a' := ?ta4) rfl (by kernel_rfl) (by kernel_rfl) (by kernel_rfl) (by rfl) (fun _ _ _ h => h) ?thy4 (by assumption) rfl ?tha4 ?_; (case thy4 => (intro w hSw; (try dsimp only at hSw); simp only [List.getElem?_toArray, List.getElem?_cons_succ, List.getElem?_cons_zero, Option.map_some, Option.some.injEq]; go_simp; (try with_reducible rfl))); (case tha4 => (simp only [Act.put, List.setIfInBounds_toArray, List.set_cons_zero, List.set_cons_succ]; try rfl))) | (refine take_no' (i := 3) (d := (some 21)) (a' := ?ta4) rfl (by kernel_rfl) (by kernel_rfl) (by kernel_rfl) (by rfl) (fun _ _ _ h => h) (by assumption) rfl ?tha4 ?_; (case tha4 => (simp only [Act.put, List.setIfInBounds_toArray, List.set_cons_zero, List.set_cons_succ]; try rfl)))
   first | (refine take_yes' (i := 4) (d := (some 22)) (v := ?tv5) (a' := ?ta5) rfl (by kernel_rfl) (by kernel_rfl) (by kernel_rfl) (by rfl) (fun _ _ _ h => h) ?thy5 (by assumption) rfl ?tha5 ?_; (case thy5 => (intro w hSw; (try dsimp only at hSw); simp only [List.getElem?_toArray, List.getElem?_cons_succ, List.getElem?_cons_zero, Option.map_some, Option.some.injEq]; go_simp; (try with_reducible rfl))); (case tha5 => (simp only [Act.put, List.setIfInBounds_toArray, List.set_cons_zero, List.set_cons_succ]; try rfl))) | (refine take_no' (i := 4) (d := (some 22)) (a' := ?ta5) rfl (by kernel_rfl) (by kernel_rfl) (by kernel_rfl) (by rfl) (fun _ _ _ h => h) (by assumption) rfl ?tha5 ?_; (case tha5 => (simp only [Act.put, List.setIfInBounds_toArray, List.set_cons_zero, List.set_cons_succ]; try rfl)))
   first | (refine take_yes' (i := 5) (d := (some 23)) (v := ?tv6) (a' := ?ta6) rfl (by kernel_rfl) (by kernel_rfl) (by kernel_rfl) (by rfl) (fun _ _ _ h => h) ?thy6 (by assumption) rfl ?tha6 ?_; (case thy6 => (intro w hSw; (try dsimp only at hSw); simp only [List.getElem?_toArray, List.getElem?_cons_succ, List.getElem?_cons_zero, Option.map_some, Option.some.injEq]; go_simp; (try with_reducible rfl))); (case tha6 => (simp only [Act.put, List.setIfInBounds_toArray, List.set_cons_zero, List.set_cons_succ]; try rfl))) | (refine take_no' (i := 5) (d := (some 23)) (a' := ?ta6) rfl (by kernel_rfl) (by kernel_rfl) (by kernel_rfl) (by rfl) (fun _ _ _ h => h) (by assumption) rfl ?tha6 ?_; (case tha6 => (simp only [Act.put, List.setIfInBounds_toArray, List.set_cons_zero, List.set_cons_succ]; try rfl)))
   first | (refine take_yes' (i := 6) (d := (some 24)) (v := ?tv7) (a' := ?ta7) rfl (by kernel_rfl) (by kernel_rfl) (by kernel_rfl) (by rfl) (fun _ _ _ h => h) ?thy7 (by assumption) rfl ?tha7 ?_; (case thy7 => (intro w hSw; (try dsimp only at hSw); simp only [List.getElem?_toArray, List.getElem?_cons_succ, List.getElem?_cons_zero, Option.map_some, Option.some.injEq]; go_simp; (try with_reducible rfl))); (case tha7 => (simp only [Act.put, List.setIfInBounds_toArray, List.set_cons_zero, List.set_cons_succ]; try rfl))) | (refine take_no' (i := 6) (d := (some 24)) (a' := ?ta7) rfl (by kernel_rfl) (by kernel_rfl) (by kernel_rfl) (by rfl) (fun _ _ _ h => h) (by assumption) rfl ?tha7 ?_; (case tha7 => (simp only [Act.put, List.setIfInBounds_toArray, List.set_cons_zero, List.set_cons_succ]; try rfl)))
   first | (refine take_yes' (i := 7) (d := (some 25)) (v := ?tv8) (a' := ?ta8) rfl (by kernel_rfl) (by kernel_rfl) (by kernel_rfl) (by rfl) (fun _ _ _ h => h) ?thy8 (by assumption) rfl ?tha8 ?_; (case thy8 => (intro w hSw; (try dsimp only at hSw); simp only [List.getElem?_toArray, List.getElem?_cons_succ, List.getElem?_cons_zero, Option.map_some, Option.some.injEq]; go_simp; (try with_reducible rfl))); (case tha8 => (simp only [Act.put, List.setIfInBounds_toArray, List.set_cons_zero, List.set_cons_succ]; try rfl))) | (refine take_no' (i := 7) (d := (some 25)) (a' := ?ta8) rfl (by kernel_rfl) (by kernel_rfl) (by kernel_rfl) (by rfl) (fun _ _ _ h => h) (by assumption) rfl ?tha8 ?_; (case tha8 => (simp only [Act.put, List.setIfInBounds_toArray, List.set_cons_zero, List.set_cons_succ]; try rfl)))
   refine step_one (i := 8) (by kernel_rfl) (fun K o ho hK => ?_)
   simp only [List.getElem?_toArray, List.getElem?_cons_succ, List.getElem?_cons_zero, Option.some.injEq] at ho
   subst ho
   go_simp
   refine (HSF.out _).mono ?_
   rintro e w9 ⟨rfl, hb9⟩
   have hb10 : Below wr.heap.size wr w9 := Below.next hcur.drew hb9
   have HB10 := hid_of hb10
   clear hb9 hb10
   refine hK.out _ _ ?_ (fun hHeld => ?_)
   focus exact HS.out _ HB10.out
   clear hK K
   try simp only [Act.put, List.setIfInBounds_toArray, List.set_cons_zero, List.set_cons_succ]
   refine step_one (i := 9) (by kernel_rfl) (fun K o ho hK => ?_)
   simp only [List.getElem?_toArray, List.getElem?_cons_succ, List.getElem?_cons_zero, Option.some.injEq] at ho
   subst ho
   go_simp
   refine hK.out _ _ ?_ (fun hHeld => ?_)
   focus exact HS.out _ HB10.out
   clear hK K
   try simp only [Act.put, List.setIfInBounds_toArray, List.set_cons_zero, List.set_cons_succ]
   refine wpAnyH_done (by kernel_rfl) ?_ _
   go_wp2_with fail
   exact ⟨⟨k + 1, by omega, by go_num, HBL.out.trans (HB10.out.mono hszr)⟩, by simp [intOf]; omega⟩
  ·obtain rfl : k = l.length := by omega
   have HBL := hid_of hbl
   clear hbl
   go_wp2_with fail
   go_ret
   exact ⟨rfl, HBL.out⟩
end Go.Proofs.YtonjphollmdicaaGreatDoor
namespace Go.Proofs.YtonjphollmdicaaGreatDoor
open Go.ChangeShapes Go.WideShapes Go.ChangeAt Go.RowKit
def outR : List FileL ⊕ Nat → List FileL | .inl l => l | .inr _ => []
def outRN : List FileL ⊕ Nat → Nat | .inl _ => 0 | .inr n => n
theorem outR_len (fs : List FileL) (vs : List (List UInt8)) : (outR (repairL fs vs)).length ≤ 1000 := by
 unfold repairL
 rcases looked_cases (fs := fs) (vs := vs) with ⟨n, hlk, _⟩ | ⟨s, hrd, hlk⟩
 ·rw [hlk]
  simp [outR]
 ·rw [hlk]
  simp only
  split
  ·simp [outR]
  ·split
   ·have := (readL_yes hrd).2.2.1
    show (madeL fs s).length ≤ 1000
    unfold madeL
    rw [joinD_len']
    omega
   ·simp [outR]
theorem repair_out {r : List FileL ⊕ Nat} {w w' : World} {e : Ending} (h : RepRes r w e w') : Below w.heap.size w w' ∧ ∃ (a : Option Addr) (c : Nat), e = .returned (.tuple #[.slice a (outR r).length c, .int .i64 ((outRN r : Nat) : Int)]) ∧ w'.ownsRow w.heap.size 62 2 (.slice a (outR r).length c) (outR r).length (filesV (outR r)) := by
 obtain ⟨hb, h⟩ := h
 refine ⟨hb, ?_⟩
 cases r with
 | inr n => exact ⟨none, 0, h, World.ownsRow_nil _ _ _ _⟩
 | inl fl =>
  obtain ⟨v, rfl, ho⟩ := h
  obtain ⟨a, c, rfl, _⟩ := row_rd ho
  exact ⟨a, c, rfl, ho⟩
theorem LentT.later {w w' : World} {base : Nat} {v : Value} {l : List (List UInt8)} (h : LentT w base v l) (hb : Below w.heap.size w w') : LentT w' base v l := by
 obtain ⟨g, c, hv, hc, ho⟩ := h
 exact ⟨g, c, hv, hc, ownsRow_later ho (Nat.le_refl _) hb⟩
theorem LentT.rd {w : World} {base : Nat} {v : Value} {l : List (List UInt8)} (h : LentT w base v l) : ∃ a c, v = .slice a l.length c ∧ Rd w a (strV l) := by
 obtain ⟨g, c, hv, hc, ho⟩ := h
 refine ⟨some ⟨g, 0, none⟩, c, hv, fun k u hk => ?_⟩
 have hkl : k < (strV l).length := (List.getElem?_eq_some_iff.1 hk).1
 have := ho.cells (g := g) rfl k u (by
  unfold lentT
  unfold strV at hk hkl ⊢
  rw [List.map_append, List.getElem?_append_left hkl]
  exact hk)
 have hadd : (⟨g, 0, none⟩ : Addr).add k = ⟨g, 0 + k, none⟩ := by unfold Addr.add; split <;> simp_all
 rw [hadd] at this
 exact ⟨g, 0, rfl, this⟩
theorem Lent.rd {w : World} {base : Nat} {v : Value} {fs : List FileL} (h : Lent w base v fs) : ∃ a c, v = .slice a fs.length c ∧ Rd w a (filesV fs) := by
 obtain ⟨g, c, hv, hc, ho⟩ := h
 refine ⟨some ⟨g, 0, none⟩, c, hv, fun k u hk => ?_⟩
 have hkl : k < (filesV fs).length := (List.getElem?_eq_some_iff.1 hk).1
 have := ho.cells (g := g) rfl k u (by
  unfold lentL
  rw [filesV_append, List.getElem?_append_left hkl]
  exact hk)
 have hadd : (⟨g, 0, none⟩ : Addr).add k = ⟨g, 0 + k, none⟩ := by unfold Addr.add; split <;> simp_all
 rw [hadd] at this
 exact ⟨g, 0, rfl, this⟩
set_option linter.unusedSimpArgs false in
set_option maxRecDepth 100000 in
set_option maxHeartbeats 4000000 in
theorem repairs_walk (fs0 fs : List FileL) (bx ex : Int) (vs : List (List UInt8)) (pk : List (List Int)) (sa fa va pa : Option Addr) (sc fc vc pc : Nat) (hfn : fs.length + 8 ≤ 4398046511104) (hfa : fa = none → fc = 0)
  (hvn : vs.length ≤ 8796093022200) (hvl : ∀ v ∈ vs, v.length ≤ 140737488355328) (hpl : ∀ ks ∈ pk, ks.length ≤ 17592186044416) (hpr : ∀ ks ∈ pk, ∀ c ∈ ks, -9223372036854775808 ≤ c ∧ c ≤ 9223372036854775807) (w : World) (hK : Kinds w) (hh0 : Handed w fs0 sa sc) (hh : Handed w fs fa fc) (hvr : Rd w va (strV vs)) (hpk : RdPk w pa pk) :
  Calls Tryz.prog 4 #[.agg #[.slice sa fs0.length sc, .int .i64 bx, .int .i64 ex, .slice fa fs.length fc, .slice va vs.length vc, .slice pa pk.length pc]] w fun e w' => e = .returned (.bool true) ∧ Below w.heap.size w w' := by
 obtain ⟨L, hL⟩ : ∃ L, L = laidL (resL fs0 bx ex).1 vs pk := ⟨_, rfl⟩
 have hLn : L.length = vs.length := by rw [hL, laidL_len]
 have hLd := hid_of (fun W (hW : Below w.heap.size w W) => laid_walk fs0 bx ex vs pk sa va pa sc vc pc (.slice fa fs.length fc) hvn hvl hpl hpr W (hh0.later hW) (hvr.later (Nat.le_refl _) hW) (hpk.later hW))
 rw [← hL] at hLd
 have hLe := hid_of (fun W (hW : Below w.heap.size w W) => lentFiles_walk fs fa fc hfa hfn W (hh.rd.later (Nat.le_refl _) hW))
 have hLT := hid_of (fun W a c (ha : a = none → c = 0) (hr : Rd W a (strV L)) => lentTexts_walk L a c ha (by omega) W hr)
 have hLK0 := fun W a b ca cb (hK : Kinds W) (h1 : Rd W a (filesV fs)) (h2 : Rd W b (strV L)) => Repair_walk fs L a b ca cb W hK h1 h2
 simp only [repairP_eq] at hLK0
 have hLK := hid_of hLK0
 have hRL := hid_of (fun W b cb (hW : Below w.heap.size w W) (h2 : Rd W b (strV L)) => rRepair_walk fs L fa b fc cb (by omega) (by omega) W (hh.rd.later (Nat.le_refl _) hW) h2)
 have hWF := hid_of (fun v w0 W (h0 : Below w.heap.size w w0) (h1 : Below w0.heap.size w0 W) (h2 : Lent W w0.heap.size v fs) => wholeFiles_walk fs fa fc v w0 W hfn hh.short (hh.rd.later (Nat.le_refl _) h0) h1 h2)
 have hWT := hid_of (fun v a c w0 W (h0 : Rd w0 a (strV L)) (h1 : Below w0.heap.size w0 W) (h2 : LentT W w0.heap.size v L) => wholeTexts_walk L a c v w0 W (by omega) h0 h1 h2)
 have ol1 := outR_len fs L
 have hLO := hid_of (fun w w' e (h : RepRes (repairL fs L) w e w') => repair_out h)
 obtain ⟨S, hS⟩ : ∃ x, x = outR (repairL fs L) := ⟨_, rfl⟩
 obtain ⟨en, hen⟩ : ∃ x, x = outRN (repairL fs L) := ⟨_, rfl⟩
 rw [← hS, ← hen] at hLO
 rw [← hS] at ol1
 have HK := hid_of hK
 have h0 := hK.lt
 obtain ⟨n0, hn0⟩ : ∃ x, x = fs0.length := ⟨_, rfl⟩
 obtain ⟨nf, hnf⟩ : ∃ x, x = fs.length := ⟨_, rfl⟩
 obtain ⟨nv, hnv⟩ : ∃ x, x = vs.length := ⟨_, rfl⟩
 obtain ⟨np, hnp⟩ : ∃ x, x = pk.length := ⟨_, rfl⟩
 obtain ⟨nS, hnS⟩ : ∃ x, x = S.length := ⟨_, rfl⟩
 have HNS := hid_of hnS
 have HNFS := hid_of hnf
 have HLN := hid_of (hLn.trans hnv.symm)
 rw [← hn0, ← hnf, ← hnv, ← hnp] at hLd ⊢
 rw [← hnf] at hLe hLK hRL hWF
 rw [hLn, ← hnv] at hLT hLK hRL hWT
 rw [← hnS] at hLO
 rw [← hnS] at ol1
 clear hK hh0 hh hvr hpk hvl hpl hpr hL hLn hS hen hn0 hnf hnv hnp hnS hfn hfa hvn hLK0
 go_enter Tryz.func4, Tryz.ntmps4
 go_wp2_with fail
 refine (begun_walk _).mono ?_
 rintro e w1 ⟨rfl, hb1⟩
 have hpb1 := (Blk.new w #[.slice sa n0 sc, .int .i64 bx, .int .i64 ex, .slice fa nf fc, .slice va nv vc, .slice pa np pc] 26).touch (Touch.of_below hb1 []) (by simp)
 have hbw1 : Below w.heap.size w w1 := Below.trans ((Below.refl _ _).alloc (Nat.le_refl _) _) (hb1.mono (by simp))
 have hsz1 : w.heap.size < w1.heap.size := hpb1.lt (by simp)
 have p0 := (hpb1 0 _ rfl).1
 have p1 := (hpb1 1 _ rfl).1
 have p2 := (hpb1 2 _ rfl).1
 have p3 := (hpb1 3 _ rfl).1
 have p4 := (hpb1 4 _ rfl).1
 have p5 := (hpb1 5 _ rfl).1
 have HPB1 := hid_of hpb1
 have HBW1 := hid_of hbw1
 clear hpb1 hbw1 hb1
 go_wp2_with fail
 refine (hLd.out w1 HBW1.out).mono ?_
 rintro e w2 ⟨v2, rfl, hr2, hb2⟩
 have hal : ∃ al cl, v2 = .slice al nv cl ∧ (al = none → cl = 0) := by
  rcases hr2.2 with ⟨h1, h2⟩ | ⟨g, c, cur, h1, _⟩
  ·exact ⟨none, 0, by rw [h1, h2], fun _ => rfl⟩
  ·exact ⟨_, _, h1, fun h => by cases h⟩
 obtain ⟨al, cl, rfl, hal⟩ := hal
 obtain ⟨al', cl', ee, hrd2⟩ := row_rd hr2
 cases ee
 have hpb2 := HPB1.out.touch (Touch.of_below hb2 []) (by simp)
 have hbw2 : Below w.heap.size w w2 := Below.next HBW1.out hb2
 have hsz2 : w.heap.size < w2.heap.size := Nat.lt_of_lt_of_le hsz1 hb2.size
 have p3 := (hpb2 3 _ rfl).1
 have HPB2 := hid_of hpb2
 have HBW2 := hid_of hbw2
 have HRD2 := hid_of hrd2
 have HAL := hid_of hal
 clear hpb2 hbw2 hb2 hr2 hrd2 hal HPB1 HBW1 p0 p1 p2 p4 p5 hLd
 go_wp2_with fail
 refine (hLe.out w2 HBW2.out).mono ?_
 rintro e w3 ⟨g, rfl, hl3, hb3⟩
 have HBW3 := hid_of (Below.next HBW2.out hb3)
 have HB23 := hid_of hb3
 have HPB3 := hid_of (HPB2.out.touch (Touch.of_below hb3 []) (by simp))
 have HRD3 := hid_of (HRD2.out.later (Nat.le_refl _) hb3)
 have HL3 := hid_of hl3
 clear hl3 hb3 HPB2 hLe
 have hgl : ∀ k, g.ownBlock = some k → w2.heap.size ≤ k ∧ k < w3.heap.size := fun k hk => by
  obtain ⟨gg, c, rfl, _, ho⟩ := HL3.out
  exact ho.lt k hk
 have HGL := hid_of hgl
 clear hgl
 obtain ⟨ga, gc, hgv, hgr⟩ := HL3.out.rd
 rw [← HNFS.out] at hgv
 subst hgv
 go_wp2_with fail
 refine (hLT.out w3 al cl HAL.out HRD3.out).mono ?_
 rintro e w4 ⟨h, rfl, hl4, hb4⟩
 have hhl : ∀ k, h.ownBlock = some k → w3.heap.size ≤ k ∧ k < w4.heap.size := fun k hk => by
  obtain ⟨gg, c, rfl, _, ho⟩ := hl4
  exact ho.lt k hk
 have HHL := hid_of hhl
 clear hhl
 obtain ⟨ha, hc, hhv, hhr⟩ := hl4.rd
 rw [HLN.out] at hhv
 subst hhv
 have HBW4 := hid_of (Below.next HBW3.out hb4)
 have HB24 := hid_of (Below.next HB23.out hb4)
 have HB34 := hid_of hb4
 have HPB4 := hid_of (HPB3.out.touch (Touch.of_below hb4 []) (by simp))
 have HRD4 := hid_of (HRD3.out.later (Nat.le_refl _) hb4)
 have HL34 := hid_of (HL3.out.later hb4)
 have HL4 := hid_of hl4
 have HGR := hid_of (hgr.later (Nat.le_refl _) hb4)
 have HHR := hid_of hhr
 clear hl4 hb4 hgr hhr HPB3 HL3 hLT HAL
 go_wp2_with fail
 refine (hLK.out w4 ga ha gc hc (HK.out.later HBW4.out h0) HGR.out HHR.out).mono ?_
 rintro e w5 hres5
 obtain ⟨hb5, s5a, s5c, rfl, hs5⟩ := hLO.out _ _ _ hres5
 have HBW5 := hid_of (Below.next HBW4.out hb5)
 have HB25 := hid_of (Below.next HB24.out hb5)
 have HPB5 := hid_of (HPB4.out.touch (Touch.of_below hb5 []) (by simp))
 have HRD5 := hid_of (HRD4.out.later (Nat.le_refl _) hb5)
 have HL5 := hid_of (HL34.out.later hb5)
 have HT5 := hid_of (HL4.out.later hb5)
 have HS5 := hid_of hs5
 have p3 := (HPB5.out 3 _ rfl).1
 have hsz5 : w.heap.size < w5.heap.size := HPB5.out.lt (by simp)
 have hsz45 : w4.heap.size ≤ w5.heap.size := hb5.size
 have hsz34 : w3.heap.size ≤ w4.heap.size := HB34.out.size
 have hsz23 : w2.heap.size ≤ w3.heap.size := HB23.out.size
 clear hres5 hb5 hs5 HPB4 HRD4 HL34 HL4 HGR HHR hLK HBW4 HB24 HB34
 go_wp2_with fail
 refine (hRL.out w5 al cl HBW5.out HRD5.out).mono ?_
 rintro e w6 hres6
 obtain ⟨hb6, s6a, s6c, rfl, hs6⟩ := hLO.out _ _ _ hres6
 have HBW6 := hid_of (Below.next HBW5.out hb6)
 have HB26 := hid_of (Below.next HB25.out hb6)
 have HPB6 := hid_of (HPB5.out.touch (Touch.of_below hb6 []) (by simp))
 have HL6 := hid_of (HL5.out.later hb6)
 have HT6 := hid_of (HT5.out.later hb6)
 have HS56 := hid_of (ownsRow_later HS5.out (Nat.le_refl _) hb6)
 have HS6 := hid_of hs6
 have p3 := (HPB6.out 3 _ rfl).1
 have hsz6 : w.heap.size < w6.heap.size := HPB6.out.lt (by simp)
 have hsz56 : w5.heap.size ≤ w6.heap.size := hb6.size
 clear hres6 hb6 hs6 HPB5 HRD5 HL5 HT5 HS5 HBW5 HB25 hRL
 go_wp2_with fail
 refine (hWF.out _ w2 w6 HBW2.out HB26.out HL6.out).mono ?_
 rintro e w7 ⟨rfl, hg7⟩
 have t7 : Touch (blkL (.slice ga nf gc)) w6 w7 := Touch.of_row hg7
 have m7 : ∀ x ∈ blkL (.slice ga nf gc), w2.heap.size ≤ x ∧ x < w3.heap.size := fun x hx => HGL.out x (blkL_mem.1 hx)
 have HBW7 := hid_of (HBW6.out.trans (t7.below (by omega) (fun x hx => by have := m7 x hx; omega)))
 have hb27 : Below w2.heap.size w2 w7 := HB26.out.trans (t7.below (by omega) (fun x hx => (m7 x hx).1))
 have HS57 := hid_of (owns_touch HS56.out t7 (fun x hx => by have := m7 x hx; omega))
 have HS67 := hid_of (owns_touch HS6.out t7 (fun x hx => by have := m7 x hx; omega))
 have hT7 : LentT w7 w2.heap.size (.slice ha nv hc) L := by
  obtain ⟨gg, c, hv, hcc, ho⟩ := HT6.out
  exact ⟨gg, c, hv, hcc, ownsRow_base hsz23 (owns_touch ho t7 (fun x hx => (m7 x hx).2))⟩
 have hsz7 : w6.heap.size ≤ w7.heap.size := t7.size
 have HWT := hid_of (hWT.out (.slice ha nv hc) al cl w2 w7 HRD2.out hb27 hT7)
 clear hg7 t7 m7 hb27 hT7 HPB6 HL6 HT6 HS56 HS6 HBW6 HB26 hWF hWT HGL
 go_wp2_with fail
 refine HWT.out.mono ?_
 rintro e w8 ⟨rfl, hg8⟩
 have t8 : Touch (blkL (.slice ha nv hc)) w7 w8 := Touch.of_row hg8
 have m8 : ∀ x ∈ blkL (.slice ha nv hc), w3.heap.size ≤ x ∧ x < w4.heap.size := fun x hx => HHL.out x (blkL_mem.1 hx)
 have HBW8 := hid_of (HBW7.out.trans (t8.below (by omega) (fun x hx => by have := m8 x hx; omega)))
 have hs58 := owns_touch HS57.out t8 (fun x hx => by have := m8 x hx; omega)
 have hs68 := owns_touch HS67.out t8 (fun x hx => by have := m8 x hx; omega)
 obtain ⟨_, _, e1, hd1⟩ := row_rd hs58
 cases e1
 obtain ⟨_, _, e2, hd2⟩ := row_rd hs68
 cases e2
 have hSN := lsameFiles_walk S s5a s6a s5c s6c (by rw [← HNS.out]; omega) w8 hd1 hd2
 rw [← HNS.out] at hSN
 have HSN := hid_of hSN
 clear hSN hs58 hs68 hd1 hd2 t8 m8 hg8 HS57 HS67 HBW7 HWT HHL
 go_wp2_with fail
 refine HSN.out.mono ?_
 rintro e wA ⟨rfl, hb9⟩
 have HBWA := hid_of (Below.next HBW8.out hb9)
 clear hb9 HSN HBW8
 go_wp2_with fail
 refine (lnum_walk _ wA).mono ?_
 rintro e wB ⟨rfl, hwB⟩
 have hwB := hwB.symm
 subst hwB
 go_wp2_with fail
 refine (lnum_walk _ wA).mono ?_
 rintro e wB ⟨rfl, hwB⟩
 have hwB := hwB.symm
 subst hwB
 go_wp2_with fail
 go_ret
 exact ⟨rfl, HBWA.out⟩
end Go.Proofs.YtonjphollmdicaaGreatDoor
namespace Go.Proofs.YtonjphollmdicaaGreatDoor
open Go.ChangeShapes Go.WideShapes Go.ChangeAt Go.RowKit
open Go.Joins Go.Deep
theorem Tryz.gKinds : Tryz.prog.globalNamed "salvage/volume.kinds" = some 0 := by kernel_rfl
theorem Tryz.tKinds : (Tryz.prog.globals[0]?).map (·.type) = some 179 := by kernel_rfl
theorem Tryz.cellsK : Tryz.prog.cellsOf 179 = 6 := by kernel_rfl
theorem Tryz.cellsE : Tryz.prog.cellsOf 178 = 2 := by kernel_rfl
theorem Tryz.cellsB : Tryz.prog.cellsOf 5 = 1 := by kernel_rfl
theorem Tryz.cellsR : Tryz.prog.cellsOf 177 = 1 := by kernel_rfl
theorem open_tab3 {H : Type} {enc : TypeId × Value → H} {W : World} {fuel : Nat} {t e : TypeId} {f0 f1 : Field} {cs : List Value} {a0 b0 a1 b1 a2 b2 : DataW H} {p : List MemPlace} (ht : Tryz.prog.underlying t = some (.array 3 e)) (he : Tryz.prog.underlying e = some (.struct #[f0, f1]))
  (ce : Tryz.prog.cellsOf e = 2) (ct : Tryz.prog.cellsOf t = 6) (o0 : f0.offset = 0) (o1 : f1.offset = 1) (k0 : Tryz.prog.cellsOf f0.type = 1) (k1 : Tryz.prog.cellsOf f1.type = 1)
  (h : DataW.trod enc Tryz.prog W 0 (fun _ => true) true fuel t cs = some (.agg [.agg [a0, b0], .agg [a1, b1], .agg [a2, b2]], p)) :
  ∃ (c0 c1 c2 c3 c4 c5 : Value) (n0 n1 n2 : Nat) (q0 q1 q2 q3 q4 q5 : List MemPlace), cs = [c0, c1, c2, c3, c4, c5] ∧
   DataW.trod enc Tryz.prog W 0 (fun _ => true) true n0 f0.type [c0] = some (a0, q0) ∧ DataW.trod enc Tryz.prog W 0 (fun _ => true) true n0 f1.type [c1] = some (b0, q1) ∧
   DataW.trod enc Tryz.prog W 0 (fun _ => true) true n1 f0.type [c2] = some (a1, q2) ∧ DataW.trod enc Tryz.prog W 0 (fun _ => true) true n1 f1.type [c3] = some (b1, q3) ∧
   DataW.trod enc Tryz.prog W 0 (fun _ => true) true n2 f0.type [c4] = some (a2, q4) ∧ DataW.trod enc Tryz.prog W 0 (fun _ => true) true n2 f1.type [c5] = some (b2, q5) := by
 cases fuel with
 | zero => simp [DataW.trod] at h
 | succ fuel =>
  simp only [DataW.trod, ht, ce, ct] at h
  split at h
  ·rename_i hl
   obtain ⟨xs, hm, hx⟩ := Option.map_eq_some_iff.1 h
   have hxs : xs.map (·.1) = [.agg [a0, b0], .agg [a1, b1], .agg [a2, b2]] := by
    have := congrArg Prod.fst hx
    simpa using this
   match cs, hl with
   | [c0, c1, c2, c3, c4, c5], _ =>
    obtain ⟨y0, hy0, h0⟩ := Lib.mapM_at hm 0 0 rfl
    obtain ⟨y1, hy1, h1⟩ := Lib.mapM_at hm 1 1 rfl
    obtain ⟨y2, hy2, h2⟩ := Lib.mapM_at hm 2 2 rfl
    have z0 : y0.1 = .agg [a0, b0] := by
     have : (xs.map (·.1))[0]? = some y0.1 := by simp [hy0]
     rw [hxs] at this
     simpa using this.symm
    have z1 : y1.1 = .agg [a1, b1] := by
     have : (xs.map (·.1))[1]? = some y1.1 := by simp [hy1]
     rw [hxs] at this
     simpa using this.symm
    have z2 : y2.1 = .agg [a2, b2] := by
     have : (xs.map (·.1))[2]? = some y2.1 := by simp [hy2]
     rw [hxs] at this
     simpa using this.symm
    have key : ∀ (c c' : Value) (a b : DataW H) (y : DataW H × List MemPlace), y.1 = .agg [a, b] → DataW.trod enc Tryz.prog W 0 (fun _ => true) true fuel e [c, c'] = some y → ∃ n q q', DataW.trod enc Tryz.prog W 0 (fun _ => true) true n f0.type [c] = some (a, q) ∧ DataW.trod enc Tryz.prog W 0 (fun _ => true) true n f1.type [c'] = some (b, q') := by
     intro c c' a b y hy hh
     obtain ⟨ys, n, _, hxy, _, hyl, hfl⟩ := DataW.trod_struct he hh
     match ys, hyl with
     | [u0, u1], _ =>
      have g0 := hfl 0 f0 rfl
      have g1 := hfl 1 f1 rfl
      simp [o0, o1, k0, k1] at g0 g1
      rw [hxy] at hy
      simp at hy
      obtain ⟨rfl, rfl⟩ := hy
      exact ⟨n, u0.2, u1.2, g0, g1⟩
    obtain ⟨n0, q0, q1, r0, r1⟩ := key c0 c1 a0 b0 y0 z0 (by simpa using h0)
    obtain ⟨n1, q2, q3, r2, r3⟩ := key c2 c3 a1 b1 y1 z1 (by simpa using h1)
    obtain ⟨n2, q4, q5, r4, r5⟩ := key c4 c5 a2 b2 y2 z2 (by simpa using h2)
    exact ⟨c0, c1, c2, c3, c4, c5, n0, n1, n2, q0, q1, q2, q3, q4, q5, rfl, r0, r1, r2, r3, r4, r5⟩
  ·cases h
set_option maxRecDepth 100000 in
theorem kinds_of {W : World} (h : laidMetH Tryz.prog [("salvage/volume.kinds", Rows.laid_salvage_volume_kinds)] W) : Kinds W := by
 obtain ⟨g, t, cs, fuel, p, hg, ht, hv, hd⟩ := h.funcs (List.mem_singleton.2 rfl)
 obtain rfl := Option.some.inj (Tryz.gKinds.symm.trans hg)
 obtain rfl := Option.some.inj (Tryz.tKinds.symm.trans ht)
 have hd' : DataW.trod (funcToken Tryz.prog) Tryz.prog W 0 (fun _ => true) true fuel 179 cs.toList = some (.agg [.agg [.lit (.int .u8 77), .held [40, 42, 115, 97, 108, 118, 97, 103, 101, 47, 118, 111, 108, 117, 109, 101, 46, 83, 101, 116, 41, 46, 114, 101, 97, 100, 77, 97, 105, 110]], .agg [.lit (.int .u8 70), .held [40, 42, 115, 97, 108, 118, 97, 103, 101, 47, 118, 111, 108, 117, 109, 101, 46, 83, 101, 116, 41, 46, 114, 101, 97, 100, 70, 105, 108, 101]], .agg [.lit (.int .u8 82), .held [40, 42, 115, 97, 108, 118, 97, 103, 101, 47, 118, 111, 108, 117, 109, 101, 46, 83, 101, 116, 41, 46, 114, 101, 97, 100, 69, 120, 116, 114, 97]]], p) := hd
 obtain ⟨c0, c1, c2, c3, c4, c5, n0, n1, n2, q0, q1, q2, q3, q4, q5, hcs, r0, r1, r2, r3, r4, r5⟩ := open_tab3 Tryz.underlying179 Tryz.underlying178 Tryz.cellsE Tryz.cellsK rfl rfl Tryz.cellsB Tryz.cellsR hd'
 obtain ⟨z0, e0, x0, _⟩ := DataW.trod_int Tryz.underlying5 r0
 obtain ⟨z2, e2, x2, _⟩ := DataW.trod_int Tryz.underlying5 r2
 obtain ⟨z4, e4, x4, _⟩ := DataW.trod_int Tryz.underlying5 r4
 have f1 := func_of_trod (f0 := 185) Tryz.underlying177 (by kernel_rfl) r1
 have f3 := func_of_trod (f0 := 186) Tryz.underlying177 (by kernel_rfl) r3
 have f5 := func_of_trod (f0 := 187) Tryz.underlying177 (by kernel_rfl) r5
 have hcell : ∀ i, W.cell? ⟨0, i, none⟩ = cs[i]? := fun i => World.var?_cell hg hv i
 have hci : ∀ i, cs[i]? = [c0, c1, c2, c3, c4, c5][i]? := fun i => by rw [← hcs, Array.getElem?_toList]
 simp at e0 e2 e4 x0 x2 x4
 subst e0 e2 e4
 obtain ⟨rfl, _⟩ := x0
 obtain ⟨rfl, _⟩ := x2
 obtain ⟨rfl, _⟩ := x4
 exact ⟨by rw [hcell, hci]; rfl, by rw [hcell, hci, f1]; rfl, by rw [hcell, hci]; rfl, by rw [hcell, hci, f3]; rfl, by rw [hcell, hci]; rfl, by rw [hcell, hci, f5]; rfl⟩
end Go.Proofs.YtonjphollmdicaaGreatDoor
