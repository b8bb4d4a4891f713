import Derived.Test.YtonjphollmdicaaGreatDoorB09
import Derived.Test.YtonjphollmdicaaGreatDoorB32
namespace Go.Proofs.YtonjphollmdicaaGreatDoor
open Go.ChangeShapes Go.WideShapes Go.ChangeAt Go.RowKit
open Go.Maps

def noReport : Value := .agg #[.slice none 0 0, .slice none 0 0, .int .i64 0, .int .i64 0]
/-- a report as it lies -/
def ReportAt (w : World) (base : Nat) (v : Value) (states : List Nat) (flags : List Bool) (lost extra : Nat) : Prop := ∃ sv pv, v = .agg #[sv, pv, .int .i64 (lost : Int), .int .i64 (extra : Int)] ∧
  w.ownsRow base 3 1 sv states.length (natsV states) ∧ w.ownsRow base 4 1 pv flags.length (flagsV flags)
/-- the document's report -/
structure ReportL where
  states : List Nat
  flags : List Bool
  lost : Nat
  extra : Nat
def reportP (fs : List FileL) (l : List FoundL) (m : MainL) : ReportL :=
  ⟨(listedL l m).map (stOf fs), presL (allPieces m.size fs) (sliceHs (listedL l m)), (sliceHs (listedL l m)).length - presN (allPieces m.size fs) (sliceHs (listedL l m)), (extraKeys l m).length⟩
def lookP (fs : List FileL) (vs : List (List UInt8)) : ReportL ⊕ Nat :=
  if handable fs vs = false then .inr 1 else match chiefL (findL vs) with
    | none => .inr 3
    | some f => if isListed (findL vs) (mainOf f) = false then .inr 4 else .inl (reportP fs (findL vs) (mainOf f))
def LookRes (r : ReportL ⊕ Nat) (w : World) (e : Ending) (w' : World) : Prop := Below w.heap.size w w' ∧ match r with
  | .inr n => e = .returned (.tuple #[noReport, .int .i64 (n : Int)])
  | .inl p => ∃ v, e = .returned (.tuple #[v, .int .i64 0]) ∧ ReportAt w' w.heap.size v p.states p.flags p.lost p.extra

theorem gather_cases {fs : List FileL} {vs : List (List UInt8)} {w w' : World} {e : Ending} (h : GatherRes fs vs w e w') : Below w.heap.size w w' ∧ ((∃ n : Nat, lookP fs vs = .inr n ∧ n ≠ 0 ∧ n < 10 ∧ e = .returned (.tuple #[noRemains, .int .i64 (n : Int)])) ∨
    (∃ f, handable fs vs = true ∧ chiefL (findL vs) = some f ∧ isListed (findL vs) (mainOf f) = true ∧ lookP fs vs = .inl (reportP fs (findL vs) (mainOf f)) ∧
      ∃ (fa : Option Addr) (fc N base : Nat) (ev : Value), w.heap.size ≤ base ∧ base ≤ w'.heap.size ∧ e = .returned (.tuple #[.agg #[.int .i64 (mainSize f.body : Int), .slice fa (listedL (findL vs) (mainOf f)).length fc, .int .i64 ((sliceHs (listedL (findL vs) (mainOf f))).length : Int), .map (some N), ev], .int .i64 0]) ∧
        FRow w' base fa (listedL (findL vs) (mainOf f)) ∧ (∃ M b, FState w' M N b (sliceHs (listedL (findL vs) (mainOf f))) (allPieces (mainSize f.body) fs)) ∧
        (∃ D b0, w'.ownsRow b0 192 2 ev (extraKeys (findL vs) (mainOf f)).length (valsAt D (extraKeys (findL vs) (mainOf f))) ∧ KMap D (takesE (mainOf f)) ((findL vs).filter (·.kind == 82)) 20 (fun v g => v = extraV (mainSize f.body) g)))) := by
  obtain ⟨hb, h⟩ := h
  refine ⟨hb, ?_⟩
  unfold lookP
  cases hh : handable fs vs with
  | false =>
    rw [if_pos hh] at h
    exact .inl ⟨1, by rw [if_pos rfl], by decide, by decide, h⟩
  | true =>
    rw [if_neg (by rw [hh]; simp)] at h
    rw [if_neg (by simp)]
    cases hc : chiefL (findL vs) with
    | none =>
      rw [hc] at h
      exact .inl ⟨3, rfl, by decide, by decide, h⟩
    | some f =>
      rw [hc] at h
      simp only at h ⊢
      cases hl : isListed (findL vs) (mainOf f) with
      | false =>
        rw [if_pos hl] at h
        exact .inl ⟨4, by rw [if_pos rfl], by decide, by decide, h⟩
      | true =>
        rw [if_neg (by rw [hl]; simp)] at h
        exact .inr ⟨f, trivial, rfl, hl, by rw [if_neg (by simp)], h⟩

set_option linter.unusedSimpArgs false in
set_option maxRecDepth 100000 in
set_option maxHeartbeats 4000000 in
theorem Look_walk (fs : List FileL) (vs : List (List UInt8)) (a b : Option Addr) (ca cb : Nat) (w : World) (hK : Kinds w) (hfa : Rd w a (filesV fs)) (hvb : Rd w b (strV vs)) :
    Calls Tryz.prog 13 #[.slice a fs.length ca, .slice b vs.length cb] w fun e w' => LookRes (lookP fs vs) w e w' := by
  have hG := hid_of (fun W (hW : Below w.heap.size w W) => gather_walk fs vs a b ca cb W (hK.later hW hK.lt) (hfa.later (Nat.le_refl _) hW) (hvb.later (Nat.le_refl _) hW))
  have h0 := hK.lt
  have HFA := hid_of hfa
  clear hfa hvb hK
  go_enter Tryz.func13, Tryz.ntmps13
  go_wp2_with fail
  refine (hG.out _ ((Below.refl _ _).alloc (Nat.le_refl _) _)).mono ?_
  rintro e w1 hg
  obtain ⟨hb1, hor⟩ := gather_cases hg
  have hkq := (Blk.new w #[.slice none 0 0, .slice none 0 0, .int .i64 0, .int .i64 0] 34).touch (Touch.of_below hb1 []) (by simp)
  have hsz1 : w.heap.size + 1 ≤ w1.heap.size := by have := hb1.size; simpa using this
  have hbw : Below w.heap.size w w1 := Below.trans ((Below.refl _ _).alloc (Nat.le_refl _) _) (hb1.mono (by simp))
  have HBW := hid_of hbw
  have HKQ := hid_of hkq
  clear hg hb1 hkq hbw hG
  rcases hor with ⟨n, hlp, hn0, hn10, rfl⟩ | ⟨f, hha, hch, hil, hlp, fa, fc, N, base, ev, hwb, hbw, rfl, hFR, ⟨M, b9, hFS⟩, ⟨DE, b0, hev, hKE⟩⟩
  · have HE : Hid (∀ w', Below w.heap.size w w' → LookRes (lookP fs vs) w (.returned (.tuple #[noReport, .int .i64 (n : Int)])) w') := hid_of (fun w' h => by rw [hlp]; exact ⟨h, rfl⟩)
    clear hlp
    have e1 : ((n : Int) != 0) = true := by simp; omega
    have e2 : ((n : Int) == 0) = false := by simp; omega
    have hkq := HKQ.out.alloc (Obj.cells #[.int .i64 0, .slice none 0 0, .int .i64 0, .map none, .slice none 0 0] 92)
    have HBA := hid_of (HBW.out.alloc (by omega) (Obj.cells #[.int .i64 0, .slice none 0 0, .int .i64 0, .map none, .slice none 0 0] 92))
    have q0 := (hkq 0 _ rfl).1
    have q1 := (hkq 1 _ rfl).1
    have q2 := (hkq 2 _ rfl).1
    have q3 := (hkq 3 _ rfl).1
    have z0 := (hkq 0 _ rfl).2
    have z1 := (hkq 1 _ rfl).2
    have z2 := (hkq 2 _ rfl).2
    have z3 := (hkq 3 _ rfl).2
    unfold noRemains
    clear hkq
    go_wp2_with fail
    refine bodyPost_ret (v := .tuple #[noReport, .int .i64 (n : Int)]) (by simp [results, Tryz.results13, go_sem, noReport, q0, q1, q2, q3]) rfl ?_
    exact HE.out _ ((((HBA.out.setCell (show w.heap.size ≤ (⟨w.heap.size, 0, none⟩ : Addr).block from Nat.le_refl _) _).setCell (show w.heap.size ≤ (⟨w.heap.size, 1, none⟩ : Addr).block from Nat.le_refl _) _).setCell (show w.heap.size ≤ (⟨w.heap.size, 2, none⟩ : Addr).block from Nat.le_refl _) _).setCell (show w.heap.size ≤ (⟨w.heap.size, 3, none⟩ : Addr).block from Nat.le_refl _) _)
  · obtain ⟨_, _, hn1, hn6, hz2, hz32⟩ := chief_bounds hch
    have hbnd : fs.length ≤ 12 ∧ (∀ f ∈ fs, f.2.length ≤ 400) := by
      unfold handable at hha
      simp only [Bool.and_eq_true, decide_eq_true_eq, List.all_eq_true] at hha
      exact ⟨hha.1.1.1, hha.1.2⟩
    have hLn : (listedL (findL vs) (mainOf f)).length ≤ 6 ∧ (sliceHs (listedL (findL vs) (mainOf f))).length ≤ 60 := by
      unfold isListed at hil
      simp only [Bool.and_eq_true, decide_eq_true_eq] at hil
      refine ⟨?_, hil.2⟩
      rw [hil.1.1.1]
      exact hn6
    obtain ⟨ea, ec, rfl, _⟩ := row_rd hev
    obtain ⟨_, c, D, _, hfm, q1, q2⟩ := hFS
    have hrp : reportP fs (findL vs) (mainOf f) = ⟨(listedL (findL vs) (mainOf f)).map (stOf fs), presL (allPieces (mainSize f.body) fs) (sliceHs (listedL (findL vs) (mainOf f))), (sliceHs (listedL (findL vs) (mainOf f))).length - presN (allPieces (mainSize f.body) fs) (sliceHs (listedL (findL vs) (mainOf f))), (extraKeys (findL vs) (mainOf f)).length⟩ := rfl
    rw [hrp] at hlp
    obtain ⟨L, hL⟩ : ∃ L, L = listedL (findL vs) (mainOf f) := ⟨_, rfl⟩
    obtain ⟨HS, hHS⟩ : ∃ x, x = sliceHs L := ⟨_, rfl⟩
    obtain ⟨en, hen⟩ : ∃ x, x = (extraKeys (findL vs) (mainOf f)).length := ⟨_, rfl⟩
    rw [← hL] at hFR hLn hlp q1 q2 ⊢
    rw [← hHS] at hLn hlp q1 q2 ⊢
    rw [← hen] at hlp ⊢
    obtain ⟨Q, hQ⟩ : ∃ Q, Q = allPieces (mainSize f.body) fs := ⟨_, rfl⟩
    rw [← hQ] at q1 hlp
    have hFM : FoundM w1 N c D HS Q := ⟨hfm, q1, q2⟩
    obtain ⟨sz, hsz⟩ : ∃ x, x = mainSize f.body := ⟨_, rfl⟩
    rw [← hsz]
    have hRP := hid_of (fun W (hW : Touch [] w1 W) => report_walk sz fa fc L HS N base c D Q ea en ec fs a ca (by omega) (by omega) (by omega) (fun g hg => by have := hbnd.2 g hg; omega) W (hFR.touch hW (by simp) (by simp)) ⟨ownsMap_touch hFM.own hW (by simp), hFM.at', hFM.keys⟩ (HFA.out.later (Nat.le_refl _) (HBW.out.trans (hW.below HBW.out.size (by simp)))))
    have HLP := hid_of hlp
    clear hlp hrp hbnd hFM hev hKE hfm q1 q2 hFR hch hha hil hL hHS hen hQ hsz
    go_wp2_with fail
    refine (hRP.out _ ((Touch.refl [] w1).alloc _)).mono ?_
    rintro e w2 ⟨sv, pv, rfl, hsv, hpv, hb2⟩
    obtain ⟨sa, sc, rfl, _⟩ := row_rd hsv
    obtain ⟨pa, pc, rfl, _⟩ := row_rd hpv
    have ht2 := ((Touch.refl [] w1).alloc (Obj.cells #[Value.int .i64 (sz : Int), .slice fa L.length fc, .int .i64 (HS.length : Int), .map (some N), .slice ea en ec] 92)).trans (Touch.of_below hb2 [])
    have hkq := HKQ.out.touch ht2 (by simp)
    have hs2 : w1.heap.size ≤ w2.heap.size := ht2.size
    have hfin : ∀ X : World, X = (((w2.setCell ⟨w.heap.size, 0, none⟩ (.slice sa L.length sc)).setCell ⟨w.heap.size, 1, none⟩ (.slice pa HS.length pc)).setCell ⟨w.heap.size, 2, none⟩ (.int .i64 ((HS.length - presN Q HS : Nat) : Int))).setCell ⟨w.heap.size, 3, none⟩ (.int .i64 (en : Int)) →
        LookRes (lookP fs vs) w (.returned (.tuple #[.agg #[.slice sa L.length sc, .slice pa HS.length pc, .int .i64 ((HS.length - presN Q HS : Nat) : Int), .int .i64 (en : Int)], .int .i64 0])) X := by
      rintro X rfl
      have ht : Touch [w.heap.size] w2 _ := ((((Touch.refl [w.heap.size] w2).setCell (x := ⟨w.heap.size, 0, none⟩) (.inl (by simp)) (.slice sa L.length sc)).setCell (x := ⟨w.heap.size, 1, none⟩) (.inl (by simp)) (.slice pa HS.length pc)).setCell (x := ⟨w.heap.size, 2, none⟩) (.inl (by simp)) (.int .i64 ((HS.length - presN Q HS : Nat) : Int))).setCell (x := ⟨w.heap.size, 3, none⟩) (.inl (by simp)) (.int .i64 (en : Int))
      rw [HLP.out]
      have hx : w.heap.size < (w1.alloc (Obj.cells #[Value.int .i64 (sz : Int), .slice fa L.length fc, .int .i64 (HS.length : Int), .map (some N), .slice ea en ec] 92)).heap.size + 2 := by simp; omega
      have e1 : statesV fs L = natsV (L.map (stOf fs)) := by simp [statesV, natsV]
      have l2 : (presL Q HS).length = HS.length := by simp [presL]
      refine ⟨(HBW.out.trans (ht2.below HBW.out.size (by simp))).trans (ht.below (by omega) (by simp)), _, rfl, _, _, rfl, ?_, ?_⟩
      · rw [List.length_map, ← e1]
        exact owns_lower (owns_touch hsv ht (by intro x hx'; simp only [List.mem_singleton] at hx'; omega)) (by omega)
      · rw [l2]
        exact owns_lower (owns_touch hpv ht (by intro x hx'; simp only [List.mem_singleton] at hx'; omega)) (by omega)
    have HFIN := hid_of hfin
    clear hfin hsv hpv hb2 ht2
    have q0 := (hkq 0 _ rfl).1
    have q1 := (hkq 1 _ rfl).1
    have q2 := (hkq 2 _ rfl).1
    have q3 := (hkq 3 _ rfl).1
    have z0 := (hkq 0 _ rfl).2
    have z1 := (hkq 1 _ rfl).2
    have z2 := (hkq 2 _ rfl).2
    have z3 := (hkq 3 _ rfl).2
    clear hkq
    go_wp2_with fail
    refine bodyPost_ret (v := .tuple #[.agg #[.slice sa L.length sc, .slice pa HS.length pc, .int .i64 ((HS.length - presN Q HS : Nat) : Int), .int .i64 (en : Int)], .int .i64 0]) (by simp [results, Tryz.results13, go_sem, q0, q1, q2, q3]) rfl ?_
    exact HFIN.out _ rfl
end Go.Proofs.YtonjphollmdicaaGreatDoor
namespace Go.Proofs.YtonjphollmdicaaGreatDoor
open Go.ChangeShapes Go.WideShapes Go.ChangeAt Go.RowKit

/-! the program's words against the reference's -/
theorem firstPiece_eq (fs : List FileL) (b h : Nat) : firstPiece fs b h = foundIn (allPieces b fs) h := by
  unfold firstPiece foundIn allPieces
  induction fs with
  | nil => rfl
  | cons f r ih =>
    rw [List.findSome?_cons, List.flatMap_cons, List.find?_append, ← ih]
    have e : pieceIn b h f.2 0 = (piecesL b f).find? (fun p => hashL p == h) := by
      unfold pieceIn piecesL
      rw [List.drop_zero]
      induction (List.range f.2.length) with
      | nil => rfl
      | cons j t ih2 =>
        rw [List.findSome?_cons, List.map_cons, List.find?_cons]
        by_cases c : hashL (pieceAt f.2 b j) = h
        · rw [if_pos c, beq_iff_eq.2 c]
        · rw [if_neg c, beq_eq_false_iff_ne.2 c]
          exact ih2
    rw [e]
    cases (piecesL b f).find? (fun p => hashL p == h) <;> rfl

theorem filter_len_all {α : Type} (p : α → Bool) (l : List α) : (l.filter p).length = l.length ↔ l.all p = true := by
  rw [List.length_filter_eq_length_iff, List.all_eq_true]

theorem diffs_twice (l : List (List UInt8)) (fs : List FileL) (h : fs.map (·.1) = l) : decide (diffs l < l.length) = twiceL fs := by
  have hlen : fs.length = l.length := by rw [← h, List.length_map]
  have hd : ∀ i, i < l.length → dupAt fs i = !decide (l.getD i [] ∉ l.take i) := fun i hi => by
    unfold dupAt
    rw [List.getElem?_eq_getElem (by omega)]
    simp only
    unfold hasNameL
    have h1 : l.getD i [] = (fs[i]'(by omega)).1 := by subst h; simp [List.getD_eq_getElem?_getD, List.getElem?_eq_getElem (show i < fs.length by omega)]
    have h2 : l.take i = (fs.take i).map (·.1) := by rw [← h, List.map_take]
    rw [h1, h2, Bool.eq_iff_iff]
    simp only [List.any_eq_true, beq_iff_eq, Bool.not_eq_true', decide_eq_false_iff_not, Decidable.not_not, List.mem_map]
  have hle : diffs l ≤ l.length := by unfold diffs; exact Nat.le_trans (List.length_filter_le _ _) (by simp)
  have hall : diffs l = l.length ↔ ∀ i, i < l.length → l.getD i [] ∉ l.take i := by
    unfold diffs
    have := filter_len_all (fun i => decide (l.getD i [] ∉ l.take i)) (List.range l.length)
    rw [List.length_range] at this
    rw [this, List.all_eq_true]
    simp
  unfold twiceL
  rw [hlen, Bool.eq_iff_iff, decide_eq_true_iff, List.any_eq_true]
  constructor
  · intro hlt
    have hne : ¬ diffs l = l.length := by omega
    rw [hall] at hne
    obtain ⟨i, hi⟩ := Classical.not_forall.1 hne
    obtain ⟨hi1, hi2⟩ := Classical.not_imp.1 hi
    exact ⟨i, List.mem_range.2 hi1, by rw [hd i hi1]; simpa using hi2⟩
  · rintro ⟨i, hi, hi2⟩
    have hi := List.mem_range.1 hi
    have hne : ¬ diffs l = l.length := by
      rw [hall]
      intro hh
      have := hh i hi
      rw [hd i hi, decide_eq_true this] at hi2
      cases hi2
    omega

theorem listed_of {l : List FoundL} {f : FoundL} (hc : chiefL l = some f) :
    (decide ((listedL l (mainOf f)).length = (mainOf f).files.length) = allDesc l f (chiefN f)) ∧ (mainOf f).size = chiefSize f ∧
    (allDesc l f (chiefN f) = true → descsN l f (chiefN f) = (listedL l (mainOf f)).map fun g => ⟨fName g.body, fLong g.body, fHash g.body, fSlices g.body⟩) := by
  have hm := (chief_bounds hc).2.1
  obtain ⟨e1, e2, _, _, _, _⟩ := mainFiles_eq hm
  have hsz : (mainOf f).size = chiefSize f := e1
  have hfl : (mainOf f).files = (List.range (chiefN f)).map (chiefHash f) := e2
  have hln : (mainOf f).files.length = chiefN f := by rw [hfl]; simp
  have hdesc : ∀ i, i < chiefN f → (firstOf (takesF (mainOf f)) (l.filter (·.kind == 70)) i).map (fun g => formAt g.body (mainOf f).size) = descAt l f i := fun i hi => by
    rw [described_of_pile (mainOf f) i (by rw [hln]; exact hi) l]
    unfold descAt
    rw [hsz]
    congr 1
    rw [hfl]
    simp [List.getD_eq_getElem?_getD, List.getElem?_range hi]
  have hsome : ∀ i, i < chiefN f → (firstOf (takesF (mainOf f)) (l.filter (·.kind == 70)) i).isSome = (descAt l f i).isSome := fun i hi => by rw [← hdesc i hi, Option.isSome_map]
  have hall : (keysOf (takesF (mainOf f)) (l.filter (·.kind == 70)) (chiefN f)).length = chiefN f ↔ allDesc l f (chiefN f) = true := by
    unfold keysOf allDesc
    have := filter_len_all (fun i => (firstOf (takesF (mainOf f)) (l.filter (·.kind == 70)) i).isSome) (List.range (chiefN f))
    rw [List.length_range] at this
    rw [this, List.all_eq_true, List.all_eq_true]
    constructor
    · intro h i hi
      rw [← hsome i (List.mem_range.1 hi)]
      exact h i hi
    · intro h i hi
      rw [hsome i (List.mem_range.1 hi)]
      exact h i hi
  refine ⟨?_, hsz, fun ha => ?_⟩
  · unfold listedL
    rw [takenL_len, hln, Bool.eq_iff_iff, decide_eq_true_iff]
    exact hall
  · have hk : keysOf (takesF (mainOf f)) (l.filter (·.kind == 70)) (chiefN f) = List.range (chiefN f) := by
      unfold keysOf
      rw [List.filter_eq_self]
      intro i hi
      rw [hsome i (List.mem_range.1 hi)]
      unfold allDesc at ha
      exact List.all_eq_true.1 ha i hi
    unfold listedL takenL descsN
    rw [hln, hk, List.map_map]
    refine List.map_congr_left (fun i hi => ?_)
    have hi := List.mem_range.1 hi
    have hs : (descAt l f i).isSome = true := by
      unfold allDesc at ha
      exact List.all_eq_true.1 ha i (List.mem_range.2 hi)
    rw [← hsome i hi] at hs
    rw [← hdesc i hi]
    cases hf : firstOf (takesF (mainOf f)) (l.filter (·.kind == 70)) i with
    | none => rw [hf] at hs; cases hs
    | some g =>
      simp only [Option.map_some, Option.getD_some, Function.comp]
      have hg := (firstOf_some hf).2
      rw [hf]
      simp only [Option.getD_some]
      have hr : fRight g.body (mainOf f).size = true := by
        unfold takesF at hg
        split at hg
        · rename_i hcc; exact hcc.2.1
        · cases hg
      rw [fRight_eq] at hr
      exact (fInfo_eq hr).1

theorem presN_lost (fs : List FileL) (b : Nat) (hs : List Nat) : hs.length - presN (allPieces b fs) hs = lostN fs b hs := by
  have key : presN (allPieces b fs) hs = (hs.filter fun h => (firstPiece fs b h).isSome).length := by
    unfold presN
    have e : hs = (List.range hs.length).map (fun i => hs.getD i 0) := by
      refine List.ext_getElem (by simp) (fun i h1 h2 => ?_)
      simp [List.getD_eq_getElem?_getD, List.getElem?_eq_getElem h1]
    conv => rhs; rw [e, List.filter_map, List.length_map]
    congr 1
    refine List.filter_congr (fun i _ => ?_)
    simp only [Function.comp]
    rw [firstPiece_eq]
  rw [key]
  unfold lostN
  induction hs with
  | nil => rfl
  | cons h t ih =>
    have h1 : (t.filter fun h => (firstPiece fs b h).isSome).length ≤ t.length := List.length_filter_le _ _
    have key' : presN (allPieces b fs) t = (t.filter fun h => (firstPiece fs b h).isSome).length := by
      unfold presN
      have e : t = (List.range t.length).map (fun i => t.getD i 0) := by
        refine List.ext_getElem (by simp) (fun i h1 h2 => ?_)
        simp [List.getD_eq_getElem?_getD, List.getElem?_eq_getElem h1]
      conv => rhs; rw [e, List.filter_map, List.length_map]
      congr 1
      refine List.filter_congr (fun i _ => ?_)
      simp only [Function.comp]
      rw [firstPiece_eq]
    have ih := ih key'
    rw [List.filter_cons, List.filter_cons]
    cases hf : firstPiece fs b h with
    | none => simp at ih ⊢; omega
    | some x => simp at ih ⊢; omega

theorem extra_count {l : List FoundL} {f : FoundL} (hb : 0 < chiefSize f) (hsz : (mainOf f).size = chiefSize f) : (extraKeys l (mainOf f)).length = exN (exsL l f) := by
  unfold extraKeys keysOf exN exsL
  rw [List.filter_map, List.length_map]
  congr 1
  refine List.filter_congr (fun j hj => ?_)
  have hj := List.mem_range.1 hj
  have he := extra_of_pile (mainOf f) j hj l
  simp only [Function.comp]
  unfold exAt
  rw [hsz] at he
  have hset : (mainOf f).set = f.set := rfl
  rw [hset] at he
  rw [← he]
  cases hf : firstOf (takesE (mainOf f)) (l.filter (·.kind == 82)) j with
  | none => simp
  | some g =>
    rw [hf] at he
    have : (eSlice g.body (chiefSize f)).length = chiefSize f := exL_len he.symm
    simp only [Option.isSome_some, Option.map_some, Option.getD_some, ne_eq]
    symm
    rw [decide_eq_true_iff]
    intro e0
    rw [e0] at this
    simp at this
    omega

theorem lookP_eq (fs : List FileL) (vs : List (List UInt8)) : lookP fs vs = match lookedL fs vs with | .inr n => .inr n | .inl p => .inl ⟨p.states, p.flags, p.lost, p.extra⟩ := by
  unfold lookP lookedL
  have hh : handable fs vs = handedL fs vs := rfl
  rw [hh]
  cases handedL fs vs with
  | false => rfl
  | true =>
    simp only [Bool.true_eq_false, if_false, if_true]
    unfold readL
    cases hc : chiefL (findL vs) with
    | none => rfl
    | some f =>
      simp only
      obtain ⟨h1, h2, h3⟩ := listed_of hc
      have hpos : 2 ≤ chiefSize f := by rw [← h2]; exact (chief_bounds hc).2.2.2.2.1
      unfold isListed isList
      rw [h1]
      cases ha : allDesc (findL vs) f (chiefN f) with
      | false => simp
      | true =>
        have h3 := h3 ha
        have hnm : (namesL (descsN (findL vs) f (chiefN f))).map (·.1) = (listedL (findL vs) (mainOf f)).map fun g => fName g.body := by
          rw [h3]
          simp [namesL, Function.comp_def]
        have htw := diffs_twice _ _ hnm
        rw [List.length_map] at htw
        rw [htw]
        have hhs : dHashes (descsN (findL vs) f (chiefN f)) = sliceHs (listedL (findL vs) (mainOf f)) := by
          rw [h3]
          unfold dHashes sliceHs
          rw [List.flatMap_map]
        have hsum : hashSum (descsN (findL vs) f (chiefN f)) = (sliceHs (listedL (findL vs) (mainOf f))).length := by rw [← hhs]; rfl
        rw [hsum]
        cases hb : (true && !twiceL (namesL (descsN (findL vs) f (chiefN f))) && decide (1 ≤ (sliceHs (listedL (findL vs) (mainOf f))).length) && decide ((sliceHs (listedL (findL vs) (mainOf f))).length ≤ 60)) with
        | false => simp
        | true =>
          simp only [Bool.true_eq_false, if_false, if_true]
          unfold reportP leftOf
          simp only
          rw [hhs, h2, presN_lost, extra_count (by omega) h2]
          congr 2
          · rw [h3, List.map_map]
            rfl
          · unfold presL flagsOf
            refine List.map_congr_left (fun h _ => ?_)
            rw [firstPiece_eq]
end Go.Proofs.YtonjphollmdicaaGreatDoor
