import Derived.Test.YtonjphollmdicaaGreatDoorB21
import Derived.Test.YtonjphollmdicaaGreatDoorB23
import Derived.Test.YtonjphollmdicaaGreatDoorB25
import Derived.Test.YtonjphollmdicaaGreatDoorB26
import Derived.Outline
import Derived.Deep.RegionWith
namespace Go.Proofs.YtonjphollmdicaaGreatDoor
open Go.ChangeShapes Go.WideShapes Go.ChangeAt Go.RowKit
open Go.Maps
def exOf (l : List FoundL) (m : MainL) : List (Nat × List UInt8) := (extraKeys l m).map fun j => (j, ((firstOf (takesE m) (l.filter (·.kind == 82)) j).map fun g => eSlice g.body m.size).getD [])
theorem exOf_len (l : List FoundL) (m : MainL) : (exOf l m).length = (extraKeys l m).length := by simp [exOf]
theorem takesE_some {m : MainL} {f : FoundL} {j : Nat} (h : takesE m f = some j) : eRight f.body m.size = true ∧ eNumber f.body = j := by
 unfold takesE at h
 split at h
 ·rename_i hc
  cases h
  exact ⟨hc.2, rfl⟩
 ·cases h
theorem exOf_ok (l : List FoundL) (m : MainL) : ∀ e ∈ exOf l m, e.1 < 20 ∧ e.2.length = m.size := by
 intro e he
 unfold exOf at he
 obtain ⟨j, hj, rfl⟩ := List.mem_map.1 he
 obtain ⟨h20, f, hf⟩ := keysOf_some hj
 refine ⟨h20, ?_⟩
 rw [hf]
 have hg : takesE m f = some j := by
  have := List.find?_some hf
  simpa using this
 obtain ⟨h1, _⟩ := takesE_some hg
 rw [eRight_eq] at h1
 simp only [Bool.and_eq_true, decide_eq_true_eq] at h1
 show (eSlice f.body m.size).length = m.size
 rw [(eInfo_eq h1.1).2, List.length_drop, h1.1]
 omega
theorem exOf_vals {l : List FoundL} {m : MainL} {D : DataW Value} (hK : KMap D (takesE m) (l.filter (·.kind == 82)) 20 (fun v g => v = extraV m.size g)) : valsAt D (extraKeys l m) = exV (exOf l m) := by
 unfold valsAt exV exOf
 rw [List.flatMap_map]
 have key : ∀ j ∈ extraKeys l m, cellsL ((atM D (numK j)).getD undef) = [.int .i64 (j : Int), .string (str (((firstOf (takesE m) (l.filter (·.kind == 82)) j).map fun g => eSlice g.body m.size).getD []))] := by
  intro j hj
  obtain ⟨_, f, hf⟩ := keysOf_some hj
  obtain ⟨v, h1, h2⟩ := hK.there j f hf
  have hg : takesE m f = some j := by
   have := List.find?_some hf
   simpa using this
  obtain ⟨_, hn⟩ := takesE_some hg
  rw [h1, h2, hf]
  unfold extraV
  rw [hn]
  rfl
 have cong : ∀ (ks : List Nat), (∀ j ∈ ks, j ∈ extraKeys l m) → (ks.flatMap fun k => cellsL ((atM D (numK k)).getD undef)) = ks.flatMap fun (j : Nat) => [Value.int .i64 (j : Int), .string (str (((firstOf (takesE m) (l.filter (·.kind == 82)) j).map fun g => eSlice g.body m.size).getD []))] := by
  intro ks
  induction ks with
  | nil => intro _; rfl
  | cons k r ih =>
   intro h
   rw [List.flatMap_cons, List.flatMap_cons, key k (h k (List.mem_cons_self ..)), ih (fun j hj => h j (List.mem_cons_of_mem _ hj))]
 exact cong _ (fun j hj => hj)
theorem piece_len {b : Nat} {fs : List FileL} {p : List UInt8} (hb : 0 < b) (h : p ∈ allPieces b fs) : p.length = b := by
 unfold allPieces at h
 obtain ⟨f, _, h⟩ := List.mem_flatMap.1 h
 unfold piecesL at h
 obtain ⟨j, hj, rfl⟩ := List.mem_map.1 h
 have := List.mem_range.1 hj
 unfold pieceAt fillL
 rw [List.length_take, List.length_drop, List.length_append, List.length_replicate]
 omega
theorem listed_long {l : List FoundL} {m : MainL} (h0 : 0 < m.size) : ∀ f ∈ listedL l m, fLong f.body ≤ (fSlices f.body).length * m.size ∧ (fName f.body).length ≤ 100 ∧ fLong f.body ≤ 400 := by
 intro f hf
 obtain ⟨_, i, _, hg⟩ := takenL_mem hf
 unfold takesF at hg
 split at hg
 ·rename_i hc
  have := hc.2.1
  unfold fRight at this
  simp only [Bool.and_eq_true, decide_eq_true_eq] at this
  obtain ⟨⟨⟨⟨_, _⟩, h2⟩, h3⟩, h4⟩ := this
  refine ⟨?_, by omega, h3⟩
  rw [h4]
  exact slices_ge _ _ h0
 ·cases hg
def repairP (fs : List FileL) (vs : List (List UInt8)) : List FileL ⊕ Nat :=
 if handable fs vs = false then .inr 1 else match chiefL (findL vs) with
  | none => .inr 3
  | some f => if isListed (findL vs) (mainOf f) = false then .inr 4 else repairQ (mainSize f.body) (listedL (findL vs) (mainOf f)) (sliceHs (listedL (findL vs) (mainOf f))) (allPieces (mainSize f.body) fs) (exOf (findL vs) (mainOf f))
theorem gather_rep {fs : List FileL} {vs : List (List UInt8)} {w w' : World} {e : Ending} (h : GatherRes fs vs w e w') : Below w.heap.size w w' ∧ ((∃ n : Nat, repairP fs vs = .inr n ∧ n ≠ 0 ∧ n < 10 ∧ e = .returned (.tuple #[noRemains, .int .i64 (n : Int)])) ∨
  (∃ f, handable fs vs = true ∧ chiefL (findL vs) = some f ∧ isListed (findL vs) (mainOf f) = true ∧ repairP fs vs = repairQ (mainSize f.body) (listedL (findL vs) (mainOf f)) (sliceHs (listedL (findL vs) (mainOf f))) (allPieces (mainSize f.body) fs) (exOf (findL vs) (mainOf f)) ∧
   ∃ (fa : Option Addr) (fc N base c ec : Nat) (ea : Option Addr) (D : DataW Value), e = .returned (.tuple #[.agg #[.int .i64 (mainSize f.body : Int), .slice fa (listedL (findL vs) (mainOf f)).length fc, .int .i64 ((sliceHs (listedL (findL vs) (mainOf f))).length : Int), .map (some N), .slice ea (exOf (findL vs) (mainOf f)).length ec], .int .i64 0]) ∧
    FRow w' base fa (listedL (findL vs) (mainOf f)) ∧ FoundM w' N c D (sliceHs (listedL (findL vs) (mainOf f))) (allPieces (mainSize f.body) fs) ∧ (exOf (findL vs) (mainOf f)).length ≤ ec ∧ Rd w' ea (exV (exOf (findL vs) (mainOf f))))) := by
 obtain ⟨hb, h⟩ := h
 refine ⟨hb, ?_⟩
 unfold repairP
 cases hh : handable fs vs with
 | false =>
  rw [if_pos hh] at h
  exact .inl ⟨1, by rw [if_pos rfl], by decide, by decide, h⟩
 | true =>
  rw [if_neg (by rw [hh]; simp)] at h
  rw [if_neg (by simp)]
  cases hc : chiefL (findL vs) with
  | none =>
   rw [hc] at h
   exact .inl ⟨3, rfl, by decide, by decide, h⟩
  | some f =>
   rw [hc] at h
   simp only at h ⊢
   cases hl : isListed (findL vs) (mainOf f) with
   | false =>
    rw [if_pos hl] at h
    exact .inl ⟨4, by rw [if_pos rfl], by decide, by decide, h⟩
   | true =>
    rw [if_neg (by rw [hl]; simp)] at h
    obtain ⟨fa, fc, N, base, ev, _, _, rfl, hFR, ⟨M, b9, hFS⟩, ⟨DE, b0, hev, hKE⟩⟩ := h
    obtain ⟨_, c, D, _, hfm, q1, q2⟩ := hFS
    rw [exOf_vals hKE, ← exOf_len] at hev
    obtain ⟨ea, ec, rfl, hec, hre⟩ := row_full hev
    exact .inr ⟨f, trivial, rfl, hl, by rw [if_neg (by simp)], fa, fc, N, base, c, ec, ea, D, rfl, hFR, ⟨hfm, q1, q2⟩, by omega, hre⟩
set_option linter.unusedSimpArgs false in
set_option maxRecDepth 100000 in
set_option maxHeartbeats 4000000 in
theorem Repair_walk (fs : List FileL) (vs : List (List UInt8)) (a b : Option Addr) (ca cb : Nat) (w : World) (hK : Kinds w) (hfa : Rd w a (filesV fs)) (hvb : Rd w b (strV vs)) :
  Calls Tryz.prog 20 #[.slice a fs.length ca, .slice b vs.length cb] w fun e w' => RepRes (repairP fs vs) w e w' := by
 have hG := hid_of (gather_walk fs vs a b ca cb w hK hfa hvb)
 clear hfa hvb hK
 go_enter Tryz.func20, Tryz.ntmps20
 go_wp2_with fail
 refine hG.out.mono ?_
 rintro e w1 hg
 obtain ⟨hb1, hor⟩ := gather_rep hg
 have HBW := hid_of hb1
 have hs1 := hb1.size
 clear hg hb1 hG
 rcases hor with ⟨n, hlp, hn0, hn10, rfl⟩ | ⟨f, hha, hch, hil, hlp, fa, fc, N, base, c, ec, ea, D, rfl, hFR, hFM, hec, hre⟩
 ·have HE : Hid (∀ w', Below w.heap.size w w' → RepRes (repairP fs vs) w (.returned (.tuple #[.slice none 0 0, .int .i64 (n : Int)])) w') := hid_of (fun w' h => by rw [hlp]; exact ⟨h, rfl⟩)
  clear hlp
  have e1 : ((n : Int) != 0) = true := by simp; omega
  have e2 : ((n : Int) == 0) = false := by simp; omega
  unfold noRemains
  have hfin := HBW.out.alloc hs1 (.cells #[.int .i64 0, .slice none 0 0, .int .i64 0, .map none, .slice none 0 0] 92)
  have HF := hid_of hfin
  clear hfin
  go_wp2_with fail
  go_ret2
  exact HE.out _ HF.out
 ·obtain ⟨_, _, hn1, hn6, hz2, hz32⟩ := chief_bounds hch
  have hev : mainSize f.body % 2 = 0 := by
   have h1 := (chief_bounds hch).2.1
   obtain ⟨_, _, _, _, _, h6⟩ := mainFiles_eq h1
   unfold sliceSize at h6
   simp only [decide_eq_true_eq] at h6
   omega
  have hLn : (listedL (findL vs) (mainOf f)).length ≤ 6 ∧ 1 ≤ (sliceHs (listedL (findL vs) (mainOf f))).length ∧ (sliceHs (listedL (findL vs) (mainOf f))).length ≤ 60 := by
   unfold isListed at hil
   simp only [Bool.and_eq_true, decide_eq_true_eq] at hil
   refine ⟨?_, hil.1.2, hil.2⟩
   rw [hil.1.1.1]
   exact hn6
  have hmo : (mainOf f).size = mainSize f.body := rfl
  have hex := exOf_ok (findL vs) (mainOf f)
  have hll := listed_long (l := findL vs) (m := mainOf f) (by rw [hmo]; omega)
  rw [hmo] at hex hll
  have hpc : ∀ i p, pieceI (allPieces (mainSize f.body) fs) (sliceHs (listedL (findL vs) (mainOf f))) i = some p → p.length = mainSize f.body := by
   intro i p hp
   unfold pieceI foundIn at hp
   exact piece_len (by omega) (List.mem_of_find?_eq_some hp)
  have hRep := fun W (hW : Below w1.heap.size w1 W) => repair_walk (mainSize f.body) fa fc (listedL (findL vs) (mainOf f)) (sliceHs (listedL (findL vs) (mainOf f))) N c D (allPieces (mainSize f.body) fs) ea (exOf (findL vs) (mainOf f)) ec base hz2 hz32 hev hLn.1 hLn.2.1 hLn.2.2 hec rfl hex hpc hll W (hFR.later hW) ⟨ownsMap_touch hFM.own (Touch.of_below hW []) (by simp), hFM.at', hFM.keys⟩ (hre.later (Nat.le_refl _) hW)
  rw [← hlp] at hRep
  obtain ⟨sz, hsz⟩ : ∃ x, x = mainSize f.body := ⟨mainSize f.body, rfl⟩
  obtain ⟨nl, hnl⟩ : ∃ x, x = (listedL (findL vs) (mainOf f)).length := ⟨_, rfl⟩
  obtain ⟨nh, hnh⟩ : ∃ x, x = (sliceHs (listedL (findL vs) (mainOf f))).length := ⟨_, rfl⟩
  obtain ⟨ne, hne⟩ : ∃ x, x = (exOf (findL vs) (mainOf f)).length := ⟨_, rfl⟩
  rw [← hsz, ← hnl, ← hnh, ← hne] at hRep ⊢
  have HR := hid_of hRep
  obtain ⟨R, hR⟩ : ∃ x, x = repairP fs vs := ⟨_, rfl⟩
  rw [← hR] at HR
  have HRE := hid_of hR
  clear hRep hsz hnl hnh hne hR hpc hex hll hmo hLn hev hlp hch hha hil hFR hFM hre hec hn1 hn6 hz2 hz32
  go_wp2_with fail
  refine (HR.out _ ((Below.refl _ _).alloc (Nat.le_refl _) _)).mono ?_
  rintro e w2 ⟨hb2, h2⟩
  have hbf : Below w.heap.size w w2 := (HBW.out.alloc hs1 _).trans (hb2.mono (by simp; omega))
  have HBF := hid_of hbf
  cases R with
  | inr n =>
   obtain rfl := h2
   clear hb2 hbf
   go_wp2_with fail
   go_ret2
   rw [← HRE.out]
   exact ⟨HBF.out, rfl⟩
  | inl fl =>
   obtain ⟨v, rfl, hov⟩ := h2
   obtain ⟨va, vc, rfl, _⟩ := row_rd hov
   have hbase := ownsRow_base (base' := w.heap.size) (by simp; omega) hov
   have HO := hid_of hbase
   clear hb2 hbf hov hbase
   go_wp2_with fail
   go_ret2
   rw [← HRE.out]
   exact ⟨HBF.out, _, rfl, HO.out⟩
end Go.Proofs.YtonjphollmdicaaGreatDoor
namespace Go.Proofs.YtonjphollmdicaaGreatDoor
open Go.ChangeShapes Go.WideShapes Go.ChangeAt Go.RowKit
theorem firstPiece_eq (fs : List FileL) (b h : Nat) : firstPiece fs b h = foundIn (allPieces b fs) h := by
 unfold firstPiece foundIn allPieces
 induction fs with
 | nil => rfl
 | cons f r ih =>
  rw [List.findSome?_cons, List.flatMap_cons, List.find?_append, ← ih]
  have e : pieceIn b h f.2 0 = (piecesL b f).find? (fun p => hashL p == h) := by
   unfold pieceIn piecesL
   rw [List.drop_zero]
   induction (List.range f.2.length) with
   | nil => rfl
   | cons j t ih2 =>
    rw [List.findSome?_cons, List.map_cons, List.find?_cons]
    by_cases c : hashL (pieceAt f.2 b j) = h
    ·rw [if_pos c, beq_iff_eq.2 c]
    ·rw [if_neg c, beq_eq_false_iff_ne.2 c]
     exact ih2
  rw [e]
  cases (piecesL b f).find? (fun p => hashL p == h) <;> rfl
theorem filter_len_all {α : Type} (p : α → Bool) (l : List α) : (l.filter p).length = l.length ↔ l.all p = true := by
 rw [List.length_filter_eq_length_iff, List.all_eq_true]
theorem diffs_twice (l : List (List UInt8)) (fs : List FileL) (h : fs.map (·.1) = l) : decide (diffs l < l.length) = twiceL fs := by
 have hlen : fs.length = l.length := by rw [← h, List.length_map]
 have hd : ∀ i, i < l.length → dupAt fs i = !decide (l.getD i [] ∉ l.take i) := fun i hi => by
  unfold dupAt
  rw [List.getElem?_eq_getElem (by omega)]
  simp only
  unfold hasNameL
  have h1 : l.getD i [] = (fs[i]'(by omega)).1 := by subst h; simp [List.getD_eq_getElem?_getD, List.getElem?_eq_getElem (show i < fs.length by omega)]
  have h2 : l.take i = (fs.take i).map (·.1) := by rw [← h, List.map_take]
  rw [h1, h2, Bool.eq_iff_iff]
  simp only [List.any_eq_true, beq_iff_eq, Bool.not_eq_true', decide_eq_false_iff_not, Decidable.not_not, List.mem_map]
 have hle : diffs l ≤ l.length := by unfold diffs; exact Nat.le_trans (List.length_filter_le _ _) (by simp)
 have hall : diffs l = l.length ↔ ∀ i, i < l.length → l.getD i [] ∉ l.take i := by
  unfold diffs
  have := filter_len_all (fun i => decide (l.getD i [] ∉ l.take i)) (List.range l.length)
  rw [List.length_range] at this
  rw [this, List.all_eq_true]
  simp
 unfold twiceL
 rw [hlen, Bool.eq_iff_iff, decide_eq_true_iff, List.any_eq_true]
 constructor
 ·intro hlt
  have hne : ¬ diffs l = l.length := by omega
  rw [hall] at hne
  obtain ⟨i, hi⟩ := Classical.not_forall.1 hne
  obtain ⟨hi1, hi2⟩ := Classical.not_imp.1 hi
  exact ⟨i, List.mem_range.2 hi1, by rw [hd i hi1]; simpa using hi2⟩
 ·rintro ⟨i, hi, hi2⟩
  have hi := List.mem_range.1 hi
  have hne : ¬ diffs l = l.length := by
   rw [hall]
   intro hh
   have := hh i hi
   rw [hd i hi, decide_eq_true this] at hi2
   cases hi2
  omega
theorem listed_of {l : List FoundL} {f : FoundL} (hc : chiefL l = some f) :
  (decide ((listedL l (mainOf f)).length = (mainOf f).files.length) = allDesc l f (chiefN f)) ∧ (mainOf f).size = chiefSize f ∧
  (allDesc l f (chiefN f) = true → descsN l f (chiefN f) = (listedL l (mainOf f)).map fun g => ⟨fName g.body, fLong g.body, fHash g.body, fSlices g.body⟩) := by
 have hm := (chief_bounds hc).2.1
 obtain ⟨e1, e2, _, _, _, _⟩ := mainFiles_eq hm
 have hsz : (mainOf f).size = chiefSize f := e1
 have hfl : (mainOf f).files = (List.range (chiefN f)).map (chiefHash f) := e2
 have hln : (mainOf f).files.length = chiefN f := by rw [hfl]; simp
 have hdesc : ∀ i, i < chiefN f → (firstOf (takesF (mainOf f)) (l.filter (·.kind == 70)) i).map (fun g => formAt g.body (mainOf f).size) = descAt l f i := fun i hi => by
  rw [described_of_pile (mainOf f) i (by rw [hln]; exact hi) l]
  unfold descAt
  rw [hsz]
  congr 1
  rw [hfl]
  simp [List.getD_eq_getElem?_getD, List.getElem?_range hi]
 have hsome : ∀ i, i < chiefN f → (firstOf (takesF (mainOf f)) (l.filter (·.kind == 70)) i).isSome = (descAt l f i).isSome := fun i hi => by rw [← hdesc i hi, Option.isSome_map]
 have hall : (keysOf (takesF (mainOf f)) (l.filter (·.kind == 70)) (chiefN f)).length = chiefN f ↔ allDesc l f (chiefN f) = true := by
  unfold keysOf allDesc
  have := filter_len_all (fun i => (firstOf (takesF (mainOf f)) (l.filter (·.kind == 70)) i).isSome) (List.range (chiefN f))
  rw [List.length_range] at this
  rw [this, List.all_eq_true, List.all_eq_true]
  constructor
  ·intro h i hi
   rw [← hsome i (List.mem_range.1 hi)]
   exact h i hi
  ·intro h i hi
   rw [hsome i (List.mem_range.1 hi)]
   exact h i hi
 refine ⟨?_, hsz, fun ha => ?_⟩
 ·unfold listedL
  rw [takenL_len, hln, Bool.eq_iff_iff, decide_eq_true_iff]
  exact hall
 ·have hk : keysOf (takesF (mainOf f)) (l.filter (·.kind == 70)) (chiefN f) = List.range (chiefN f) := by
   unfold keysOf
   rw [List.filter_eq_self]
   intro i hi
   rw [hsome i (List.mem_range.1 hi)]
   unfold allDesc at ha
   exact List.all_eq_true.1 ha i hi
  unfold listedL takenL descsN
  rw [hln, hk, List.map_map]
  refine List.map_congr_left (fun i hi => ?_)
  have hi := List.mem_range.1 hi
  have hs : (descAt l f i).isSome = true := by
   unfold allDesc at ha
   exact List.all_eq_true.1 ha i (List.mem_range.2 hi)
  rw [← hsome i hi] at hs
  rw [← hdesc i hi]
  cases hf : firstOf (takesF (mainOf f)) (l.filter (·.kind == 70)) i with
  | none => rw [hf] at hs; cases hs
  | some g =>
   simp only [Option.map_some, Option.getD_some, Function.comp]
   have hg := (firstOf_some hf).2
   rw [hf]
   simp only [Option.getD_some]
   have hr : fRight g.body (mainOf f).size = true := by
    unfold takesF at hg
    split at hg
    ·rename_i hcc; exact hcc.2.1
    ·cases hg
   rw [fRight_eq] at hr
   exact (fInfo_eq hr).1
theorem presN_lost (fs : List FileL) (b : Nat) (hs : List Nat) : hs.length - presN (allPieces b fs) hs = lostN fs b hs := by
 have key : presN (allPieces b fs) hs = (hs.filter fun h => (firstPiece fs b h).isSome).length := by
  unfold presN
  have e : hs = (List.range hs.length).map (fun i => hs.getD i 0) := by
   refine List.ext_getElem (by simp) (fun i h1 h2 => ?_)
   simp [List.getD_eq_getElem?_getD, List.getElem?_eq_getElem h1]
  conv => rhs; rw [e, List.filter_map, List.length_map]
  congr 1
  refine List.filter_congr (fun i _ => ?_)
  simp only [Function.comp]
  rw [firstPiece_eq]
 rw [key]
 unfold lostN
 induction hs with
 | nil => rfl
 | cons h t ih =>
  have h1 : (t.filter fun h => (firstPiece fs b h).isSome).length ≤ t.length := List.length_filter_le _ _
  have key' : presN (allPieces b fs) t = (t.filter fun h => (firstPiece fs b h).isSome).length := by
   unfold presN
   have e : t = (List.range t.length).map (fun i => t.getD i 0) := by
    refine List.ext_getElem (by simp) (fun i h1 h2 => ?_)
    simp [List.getD_eq_getElem?_getD, List.getElem?_eq_getElem h1]
   conv => rhs; rw [e, List.filter_map, List.length_map]
   congr 1
   refine List.filter_congr (fun i _ => ?_)
   simp only [Function.comp]
   rw [firstPiece_eq]
  have ih := ih key'
  rw [List.filter_cons, List.filter_cons]
  cases hf : firstPiece fs b h with
  | none => simp at ih ⊢; omega
  | some x => simp at ih ⊢; omega
theorem extra_count {l : List FoundL} {f : FoundL} (hb : 0 < chiefSize f) (hsz : (mainOf f).size = chiefSize f) : (extraKeys l (mainOf f)).length = exN (exsL l f) := by
 unfold extraKeys keysOf exN exsL
 rw [List.filter_map, List.length_map]
 congr 1
 refine List.filter_congr (fun j hj => ?_)
 have hj := List.mem_range.1 hj
 have he := extra_of_pile (mainOf f) j hj l
 simp only [Function.comp]
 unfold exAt
 rw [hsz] at he
 have hset : (mainOf f).set = f.set := rfl
 rw [hset] at he
 rw [← he]
 cases hf : firstOf (takesE (mainOf f)) (l.filter (·.kind == 82)) j with
 | none => simp
 | some g =>
  rw [hf] at he
  have : (eSlice g.body (chiefSize f)).length = chiefSize f := exL_len he.symm
  simp only [Option.isSome_some, Option.map_some, Option.getD_some, ne_eq]
  symm
  rw [decide_eq_true_iff]
  intro e0
  rw [e0] at this
  simp at this
  omega
end Go.Proofs.YtonjphollmdicaaGreatDoor
namespace Go.Proofs.YtonjphollmdicaaGreatDoor
theorem exOf_pairs {l : List FoundL} {f : FoundL} (hb : 0 < chiefSize f) (hsz : (mainOf f).size = chiefSize f) : exOf l (mainOf f) = exPairs (exsL l f) := by
 unfold exOf exPairs extraKeys keysOf
 have hg : ∀ j, j < 20 → (exsL l f).getD j [] = exAt l f j := fun j hj => by
  unfold exsL
  simp [hj]
 have he : ∀ j, j < 20 → (firstOf (takesE (mainOf f)) (l.filter (·.kind == 82)) j).map (fun g => eSlice g.body (mainOf f).size) = exL l f.set (chiefSize f) j := fun j hj => by
  have h := extra_of_pile (mainOf f) j hj l
  have hset : (mainOf f).set = f.set := rfl
  rw [hset] at h
  rw [hsz] at h ⊢
  exact h
 have e1 : (List.range 20).filter (fun i => (firstOf (takesE (mainOf f)) (l.filter (·.kind == 82)) i).isSome) = (List.range 20).filter fun j => decide ((exsL l f).getD j [] ≠ []) := by
  refine List.filter_congr (fun j hj => ?_)
  have hj := List.mem_range.1 hj
  have h := he j hj
  rw [hg j hj]
  unfold exAt
  rw [← h]
  cases hf : firstOf (takesE (mainOf f)) (l.filter (·.kind == 82)) j with
  | none => simp
  | some g =>
   rw [hf] at h
   have hl : (eSlice g.body (mainOf f).size).length = chiefSize f := exL_len h.symm
   simp only [Option.isSome_some, Option.map_some, Option.getD_some, ne_eq]
   symm
   rw [decide_eq_true_iff]
   intro e0
   rw [e0] at hl
   simp at hl
   omega
 rw [e1]
 refine List.map_congr_left (fun j hj => ?_)
 have hj := List.mem_range.1 (List.mem_filter.1 hj).1
 rw [hg j hj]
 unfold exAt
 rw [← he j hj]
theorem repairP_eq (fs : List FileL) (vs : List (List UInt8)) : repairP fs vs = repairL fs vs := by
 unfold repairP repairL lookedL
 have hh : handable fs vs = handedL fs vs := rfl
 rw [hh]
 cases handedL fs vs with
 | false => rfl
 | true =>
  simp only [Bool.true_eq_false, if_false, if_true]
  unfold readL
  cases hc : chiefL (findL vs) with
  | none => rfl
  | some f =>
   simp only
   obtain ⟨h1, h2, h3⟩ := listed_of hc
   have hpos : 2 ≤ chiefSize f := by rw [← h2]; exact (chief_bounds hc).2.2.2.2.1
   unfold isListed isList
   rw [h1]
   cases ha : allDesc (findL vs) f (chiefN f) with
   | false => simp
   | true =>
    have h3 := h3 ha
    have hnm : (namesL (descsN (findL vs) f (chiefN f))).map (·.1) = (listedL (findL vs) (mainOf f)).map fun g => fName g.body := by
     rw [h3]
     simp [namesL, Function.comp_def]
    have htw := diffs_twice _ _ hnm
    rw [List.length_map] at htw
    rw [htw]
    have hhs : dHashes (descsN (findL vs) f (chiefN f)) = sliceHs (listedL (findL vs) (mainOf f)) := by
     rw [h3]
     unfold dHashes sliceHs
     rw [List.flatMap_map]
    have hsum : hashSum (descsN (findL vs) f (chiefN f)) = (sliceHs (listedL (findL vs) (mainOf f))).length := by rw [← hhs]; rfl
    rw [hsum]
    cases hb : (true && !twiceL (namesL (descsN (findL vs) f (chiefN f))) && decide (1 ≤ (sliceHs (listedL (findL vs) (mainOf f))).length) && decide ((sliceHs (listedL (findL vs) (mainOf f))).length ≤ 60)) with
    | false => simp
    | true =>
     simp only [Bool.true_eq_false, if_false, if_true]
     have hms : mainSize f.body = chiefSize f := h2
     have hds : (listedL (findL vs) (mainOf f)).map descF = descsN (findL vs) f (chiefN f) := by
      rw [h3]
      exact List.map_congr_left (fun g _ => by unfold descF; with_reducible rfl)
     unfold repairQ leftOf madeL
     simp only
     rw [hds, hms, hhs, exOf_pairs (by omega) h2]
     have hpi : pieceI (allPieces (chiefSize f) fs) (sliceHs (listedL (findL vs) (mainOf f))) = pieceOf fs ⟨chiefSize f, descsN (findL vs) f (chiefN f), exsL (findL vs) f⟩ := by
      funext i
      unfold pieceI pieceOf
      simp only
      rw [hhs, firstPiece_eq]
     rw [hpi, presN_lost]
     have hxl : (exPairs (exsL (findL vs) f)).length = exN (exsL (findL vs) f) := by
      rw [← exOf_pairs (by omega) h2, exOf_len, extra_count (by omega) h2]
     rw [hxl]
end Go.Proofs.YtonjphollmdicaaGreatDoor
namespace Go.Proofs.YtonjphollmdicaaGreatDoor
open Go.ChangeShapes Go.WideShapes Go.ChangeAt Go.RowKit
structure Handed (w : World) (fs : List FileL) (a : Option Addr) (cap : Nat) : Prop where
 rd : Rd w a (filesV fs)
 cap1 : fs.length ≤ cap
 short : ∀ f ∈ fs, f.1.length < 140737488355328 ∧ f.2.length < 140737488355328
def badArg (b x : Int) : Bool := !sliceSize b || decide (x < 0) || decide (20 < x)
theorem good_arg {b x : Int} (h : badArg b x = false) : ∃ size extra : Nat, b = (size : Int) ∧ x = (extra : Int) ∧ 0 < size ∧ size ≤ 32 ∧ size % 2 = 0 ∧ extra ≤ 20 ∧ sliceSize b = true := by
 unfold badArg at h
 simp only [Bool.or_eq_false_iff, Bool.not_eq_false', decide_eq_false_iff_not] at h
 obtain ⟨⟨h1, h2⟩, h3⟩ := h
 have h4 := of_decide_eq_true h1
 exact ⟨b.toNat, x.toNat, by omega, by omega, by omega, by omega, by omega, by omega, h1⟩
theorem set_facts {fs : List FileL} (h : isSetL fs = true) : 1 ≤ fs.length ∧ fs.length ≤ 6 ∧ ∀ f ∈ fs, f.1.length ≤ 20 ∧ f.2.length ≤ 400 := by
 unfold isSetL at h
 rw [Bool.and_eq_true] at h
 have h1 := of_decide_eq_true h.1
 refine ⟨h1.1, h1.2, ?_⟩
 intro f hf
 obtain ⟨i, hi, rfl⟩ := List.mem_iff_getElem.1 hf
 have h2 := (List.all_eq_true.1 h.2) i (by simpa using hi)
 unfold okAt at h2
 rw [List.getElem?_eq_getElem hi] at h2
 rw [Bool.and_eq_true] at h2
 have h3 := of_decide_eq_true h2.1
 exact ⟨h3.2.1, h3.2.2⟩
def goodSet (fs : List FileL) (size : Nat) : Bool := isSetL fs && decide (1 ≤ countL fs size) && decide (countL fs size ≤ 60)
set_option maxRecDepth 100000 in
theorem Create_ok (fs : List FileL) (b x : Int) (size extra : Nat) (a : Option Addr) (cap : Nat) (hb : b = (size : Int)) (hx : x = (extra : Int)) (h0 : 0 < size) (h32 : size ≤ 32) (heven : size % 2 = 0) (hex : extra ≤ 20) (hss : sliceSize b = true) (h : goodSet fs size = true) (w : World) (hh : Handed w fs a cap) :
  Calls Tryz.prog 37 #[.slice a fs.length cap, .int .i64 b, .int .i64 x] w fun e w' => ∃ v, e = .returned (.tuple #[v, .int .i64 0]) ∧ w'.ownsRow w.heap.size 9 1 v (1 + fs.length + extra) (strV (packetsL size fs extra)) ∧ Below w.heap.size w w' := by
 have e1 : ¬ x < 0 := by omega
 have e2 : ¬ 20 < x := by omega
 unfold goodSet at h
 rw [Bool.and_eq_true, Bool.and_eq_true] at h
 obtain ⟨⟨h1, h2⟩, h3⟩ := h
 have h2 := of_decide_eq_true h2
 have h3 := of_decide_eq_true h3
 obtain ⟨hn1, hn2, hf⟩ := set_facts h1
 have hC := fun W (hW : Below w.heap.size w W) => CountSlices_walk fs size a cap h0 h32 hn2 (fun f hm => (hf f hm).2) W (hh.rd.later (Nat.le_refl _) hW)
 have hP := fun W (hW : Below w.heap.size w W) => makePackets_walk fs size extra a cap hn2 h0 h32 heven hf h2 h3 hex W (hh.rd.later (Nat.le_refl _) hW)
 rw [← hb] at hC hP
 rw [← hx] at hP
 obtain ⟨c, hc⟩ : ∃ c, c = countL fs size := ⟨_, rfl⟩
 rw [← hc] at h2 h3 hC
 have HC := hid_of hC
 have HP := hid_of hP
 have HH := hid_of hh
 have HB := hid_of hb
 have HX := hid_of hx
 clear hC hP hh hf hb hx hc
 go_enter Tryz.func37, Tryz.ntmps37
 go_wp2_with fail
 refine (IsSliceSize_walk b w).mono ?_
 rintro e w' ⟨rfl, rfl⟩
 go_wp2_with fail
 refine (IsSet_walk fs a cap HH.out.cap1 HH.out.short _ HH.out.rd).mono ?_
 rintro e w1 ⟨rfl, hb1⟩
 go_wp2_with fail
 refine (HC.out w1 hb1).mono ?_
 rintro e w2 ⟨rfl, hb2⟩
 have hb12 := Below.next hb1 hb2
 go_wp2_with fail
 refine (HP.out w2 hb12).mono ?_
 rintro e w3 ⟨v, rfl, hown, hb3⟩
 have hfin := Below.next hb12 hb3
 have hown' := ownsRow_base hb12.size hown
 clear hown hb3
 go_wp2_with fail
 go_ret2
 exact ⟨_, rfl, hown', hfin⟩
end Go.Proofs.YtonjphollmdicaaGreatDoor
namespace Go.Proofs.YtonjphollmdicaaGreatDoor
open Go.ChangeShapes Go.WideShapes Go.ChangeAt Go.RowKit
theorem byteAt_div (n k : Nat) : byteAt (n / 256) k = byteAt n (k + 1) := by
  unfold byteAt
  rw [Nat.div_div_eq_div_mul]
  congr 2
  rw [show 8 * (k + 1) = 8 + 8 * k from by omega, Nat.pow_add]
theorem numBytes_snoc (n : Nat) : ∀ k, numBytes n (k + 1) = numBytes (n / 256) k ++ [byteAt n 0] := by
  intro k
  induction k with
  | zero => rfl
  | succ k ih =>
    have e : numBytes n (k + 1 + 1) = byteAt n (k + 1) :: numBytes n (k + 1) := rfl
    rw [e, ih]
    simp only [numBytes, byteAt_div, List.cons_append]
theorem rHash_l (l : List UInt8) (hl : l.length ≤ 1000000) (w : World) :
    Calls Tryz.prog 49 #[.string (str l)] w fun e w' => e = .returned (.int .u64 ((hashL l : Nat) : Int)) ∧ w' = w := by
  have hs : (str l).size = l.length := str_size l
  go_enter Tryz.func49, Tryz.ntmps49
  go_wp2
  go_loop [3, 4] (fun x i => ∃ k h' : Nat, k ≤ l.length ∧ h' < P64 ∧ Hid ((l.drop k).foldl hashStep h' = hashL l) ∧ x = .int .u64 (h' : Int) ∧ i = .int .i64 (k : Int))
                    (fun _ i => l.length - (intOf i).toNat)
  case atStart => exact ⟨0, 14695981039346656037, by omega, by decide, hid_of rfl, rfl, rfl⟩
  case round =>
    obtain ⟨k, h', hk, hh', hm, rfl, rfl⟩ := hrel
    by_cases hlt : k < l.length
    · have hix := index_str l k (k : Int) rfl hlt
      go_wp2
      refine ⟨⟨k + 1, hashStep h' l[k], by omega, hashStep_lt _ _, hid_of ?_, by rw [hashStep_spelt h' hh'], by go_num⟩, ?_⟩
      · have := hm.out
        rw [List.drop_eq_getElem_cons hlt, List.foldl_cons] at this
        exact this
      · simp [intOf]; omega
    · have hk2 : k = l.length := by omega
      subst hk2
      go_wp2
      go_ret
      have := hm.out
      rw [List.drop_eq_nil_of_le (Nat.le_refl _)] at this
      simp only [List.foldl_nil] at this
      rw [← this]
      exact ⟨rfl, rfl⟩
theorem conv_cell (W : World) (g : Nat) (b : UInt8) (x : Int) (hx : x = (b.toNat : Int)) (hc : W.cell? ⟨g, 0, none⟩ = some (.int .u8 x)) :
    (convert 67 9 (.slice (some ⟨g, 0, none⟩) 1 1)).run Tryz.prog W = .ok (.string (str [b])) W := by
  subst hx
  exact run_convert_bytes_back (P := Tryz.prog) W 67 9 5 ⟨g, 0, none⟩ 1 [b] Tryz.underlying67 Tryz.underlying5 Tryz.underlying9 (by
    intro j hj
    have : j = 0 := by simpa using hj
    subst this
    simpa [Addr.add] using hc)
theorem conv_old {W w1 : World} (hb : Below W.heap.size W w1) (g : Nat) (b : UInt8) (x : Int) (hx : x = (b.toNat : Int)) : W.cell? ⟨g, 0, none⟩ = some (.int .u8 x) → (convert 67 9 (.slice (some ⟨g, 0, none⟩) 1 1)).run Tryz.prog w1 = .ok (.string (str [b])) w1 := by
  intro h
  refine conv_cell w1 g b x hx ?_
  rw [hb.cell (World.block_lt_of_cell? W _ h)]
  exact h
set_option maxRecDepth 100000 in
set_option maxHeartbeats 1000000 in
theorem rBytes_walk : ∀ (k n : Nat) (w : World), k ≤ 8 → n < P64 →
    Calls Tryz.prog 68 #[.int .u64 (n : Int), .int .i64 (k : Int)] w fun e w' => e = .returned (.string (str (numBytes n k))) ∧ Below w.heap.size w w' := by
  intro k
  induction k with
  | zero =>
    intro n w _ _
    go_enter Tryz.func68, Tryz.ntmps68
    go_wp2
    go_ret
    exact ⟨rfl, Below.refl _ _⟩
  | succ k ih =>
    intro n w hk hn
    have IH := fun W => ih (n / 256) W (by omega) (Nat.lt_of_le_of_lt (Nat.div_le_self _ _) hn)
    have HIH := hid_of IH
    have hx : IntKind.u8.wrap ((n : Int).tmod 256) = ((byteAt n 0).toNat : Int) := by
      rw [← byteAt_spelt, Int.tmod_eq_emod_of_nonneg (by omega), IntKind.wrap_u8']
      simp
    have HX := hid_of hx
    have hconv : ∀ W : World, (convert 67 9 (.slice (some ⟨W.heap.size, 0, none⟩) 1 1)).run Tryz.prog (W.alloc (.cells #[.int .u8 (IntKind.u8.wrap ((n : Int).tmod 256))] 5)) = .ok (.string (str [byteAt n 0])) (W.alloc (.cells #[.int .u8 (IntKind.u8.wrap ((n : Int).tmod 256))] 5)) :=
      fun W => conv_cell _ W.heap.size _ _ hx (by simp)
    have hconv' : ∀ W : World, (convert 67 9 (.slice (some ⟨W.heap.size, 0, none⟩) 1 1)).run Tryz.prog (W.alloc (.cells #[.int .u8 (IntKind.u8.wrap ((n : Int).tmod 256))] 5)).drew = .ok (.string (str [byteAt n 0])) (W.alloc (.cells #[.int .u8 (IntKind.u8.wrap ((n : Int).tmod 256))] 5)).drew :=
      fun W => conv_cell _ W.heap.size _ _ hx (by simp)
    obtain ⟨cb, hcb⟩ : ∃ c, c = byteAt n 0 := ⟨_, rfl⟩
    have hfin : numBytes n (k + 1) = numBytes (n / 256) k ++ [cb] := by rw [hcb]; exact numBytes_snoc n k
    rw [← hcb] at hconv hconv' HX
    have HF := hid_of hfin
    have hsz : (str (numBytes (n / 256) k)).size + (str [cb]).size ≤ 9223372036854775807 := by rw [str_size, str_size, numBytes_len]; simp; omega
    have hcat : str (numBytes (n / 256) k) ++ str [cb] = str (numBytes n (k + 1)) := by rw [str_add, str_data, hfin]
    have HCAT := hid_of hcat
    obtain ⟨q, hq⟩ : ∃ q, q = n / 256 := ⟨_, rfl⟩
    rw [← hq] at HIH hsz HCAT
    have eq1 : ((n : Int) / 256) = (q : Int) := by rw [hq]; omega
    have hn' : n < 18446744073709551616 := hn
    have wq : IntKind.u64.wrap (q : Int) = (q : Int) := by rw [IntKind.wrap_u64]; omega
    have wk : IntKind.i64.wrap (k : Int) = (k : Int) := by rw [IntKind.wrap_i64]; omega
    have HN := hid_of hn'
    clear hn'
    clear IH ih hx hcb hfin hcat hq
    go_enter Tryz.func68, Tryz.ntmps68
    go_wp2_with fail
    go_region_with (go_at_call 68; refine (HIH.out _).mono ?_; rintro e w1 ⟨rfl, hb1⟩; have hcq := conv_old hb1 w.heap.size cb (IntKind.u8.wrap ((n : Int).tmod 256)) HX.out; (try simp at hcq))
    all_goals go_wp2_with fail
    all_goals go_ret
    all_goals refine ⟨congrArg (fun s => Ending.returned (Value.string s)) HCAT.out, ?_⟩
    · exact Below.alloc (Below.next (w1 := w.drew) (Below.refl _ _).drew hb1) hb1.size _
    · exact Below.next (w1 := (w.alloc (Obj.cells #[Value.int IntKind.u8 (IntKind.u8.wrap ((n : Int).tmod 256))] 5)).drew) ((Below.refl _ _).alloc (Nat.le_refl _) _).drew hb1
    · exact Below.next (w1 := (w.alloc (Obj.cells #[Value.int IntKind.u8 (IntKind.u8.wrap ((n : Int).tmod 256))] 5)).drew) ((Below.refl _ _).alloc (Nat.le_refl _) _).drew hb1
end Go.Proofs.YtonjphollmdicaaGreatDoor
