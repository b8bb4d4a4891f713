import Derived.Test.YtonjphollmdicaaDoorB08
import Derived.Test.YtonjphollmdicaaDoorB10
import Derived.Test.YtonjphollmdicaaDoorB11
import Derived.Test.YtonjphollmdicaaDoorB26
namespace Go.Proofs.YtonjphollmdicaaDoor
open Go.ChangeShapes Go.WideShapes Go.ChangeAt Go.RowKit

/-! the program's words against the reference's -/
theorem firstPiece_eq (fs : List FileL) (b h : Nat) : firstPiece fs b h = foundIn (allPieces b fs) h := by
  unfold firstPiece foundIn allPieces
  induction fs with
  | nil => rfl
  | cons f r ih =>
    rw [List.findSome?_cons, List.flatMap_cons, List.find?_append, ← ih]
    have e : pieceIn b h f.2 0 = (piecesL b f).find? (fun p => hashL p == h) := by
      unfold pieceIn piecesL
      rw [List.drop_zero]
      induction (List.range f.2.length) with
      | nil => rfl
      | cons j t ih2 =>
        rw [List.findSome?_cons, List.map_cons, List.find?_cons]
        by_cases c : hashL (pieceAt f.2 b j) = h
        · rw [if_pos c, beq_iff_eq.2 c]
        · rw [if_neg c, beq_eq_false_iff_ne.2 c]
          exact ih2
    rw [e]
    cases (piecesL b f).find? (fun p => hashL p == h) <;> rfl

theorem filter_len_all {α : Type} (p : α → Bool) (l : List α) : (l.filter p).length = l.length ↔ l.all p = true := by
  rw [List.length_filter_eq_length_iff, List.all_eq_true]

theorem diffs_twice (l : List (List UInt8)) (fs : List FileL) (h : fs.map (·.1) = l) : decide (diffs l < l.length) = twiceL fs := by
  have hlen : fs.length = l.length := by rw [← h, List.length_map]
  have hd : ∀ i, i < l.length → dupAt fs i = !decide (l.getD i [] ∉ l.take i) := fun i hi => by
    unfold dupAt
    rw [List.getElem?_eq_getElem (by omega)]
    simp only
    unfold hasNameL
    have h1 : l.getD i [] = (fs[i]'(by omega)).1 := by subst h; simp [List.getD_eq_getElem?_getD, List.getElem?_eq_getElem (show i < fs.length by omega)]
    have h2 : l.take i = (fs.take i).map (·.1) := by rw [← h, List.map_take]
    rw [h1, h2, Bool.eq_iff_iff]
    simp only [List.any_eq_true, beq_iff_eq, Bool.not_eq_true', decide_eq_false_iff_not, Decidable.not_not, List.mem_map]
  have hle : diffs l ≤ l.length := by unfold diffs; exact Nat.le_trans (List.length_filter_le _ _) (by simp)
  have hall : diffs l = l.length ↔ ∀ i, i < l.length → l.getD i [] ∉ l.take i := by
    unfold diffs
    have := filter_len_all (fun i => decide (l.getD i [] ∉ l.take i)) (List.range l.length)
    rw [List.length_range] at this
    rw [this, List.all_eq_true]
    simp
  unfold twiceL
  rw [hlen, Bool.eq_iff_iff, decide_eq_true_iff, List.any_eq_true]
  constructor
  · intro hlt
    have hne : ¬ diffs l = l.length := by omega
    rw [hall] at hne
    obtain ⟨i, hi⟩ := Classical.not_forall.1 hne
    obtain ⟨hi1, hi2⟩ := Classical.not_imp.1 hi
    exact ⟨i, List.mem_range.2 hi1, by rw [hd i hi1]; simpa using hi2⟩
  · rintro ⟨i, hi, hi2⟩
    have hi := List.mem_range.1 hi
    have hne : ¬ diffs l = l.length := by
      rw [hall]
      intro hh
      have := hh i hi
      rw [hd i hi, decide_eq_true this] at hi2
      cases hi2
    omega

theorem listed_of {l : List FoundL} {f : FoundL} (hc : chiefL l = some f) :
    (decide ((listedL l (mainOf f)).length = (mainOf f).files.length) = allDesc l f (chiefN f)) ∧ (mainOf f).size = chiefSize f ∧
    (allDesc l f (chiefN f) = true → descsN l f (chiefN f) = (listedL l (mainOf f)).map fun g => ⟨fName g.body, fLong g.body, fHash g.body, fSlices g.body⟩) := by
  have hm := (chief_bounds hc).2.1
  obtain ⟨e1, e2, _, _, _, _⟩ := mainFiles_eq hm
  have hsz : (mainOf f).size = chiefSize f := e1
  have hfl : (mainOf f).files = (List.range (chiefN f)).map (chiefHash f) := e2
  have hln : (mainOf f).files.length = chiefN f := by rw [hfl]; simp
  have hdesc : ∀ i, i < chiefN f → (firstOf (takesF (mainOf f)) (l.filter (·.kind == 70)) i).map (fun g => formAt g.body (mainOf f).size) = descAt l f i := fun i hi => by
    rw [described_of_pile (mainOf f) i (by rw [hln]; exact hi) l]
    unfold descAt
    rw [hsz]
    congr 1
    rw [hfl]
    simp [List.getD_eq_getElem?_getD, List.getElem?_range hi]
  have hsome : ∀ i, i < chiefN f → (firstOf (takesF (mainOf f)) (l.filter (·.kind == 70)) i).isSome = (descAt l f i).isSome := fun i hi => by rw [← hdesc i hi, Option.isSome_map]
  have hall : (keysOf (takesF (mainOf f)) (l.filter (·.kind == 70)) (chiefN f)).length = chiefN f ↔ allDesc l f (chiefN f) = true := by
    unfold keysOf allDesc
    have := filter_len_all (fun i => (firstOf (takesF (mainOf f)) (l.filter (·.kind == 70)) i).isSome) (List.range (chiefN f))
    rw [List.length_range] at this
    rw [this, List.all_eq_true, List.all_eq_true]
    constructor
    · intro h i hi
      rw [← hsome i (List.mem_range.1 hi)]
      exact h i hi
    · intro h i hi
      rw [hsome i (List.mem_range.1 hi)]
      exact h i hi
  refine ⟨?_, hsz, fun ha => ?_⟩
  · unfold listedL
    rw [takenL_len, hln, Bool.eq_iff_iff, decide_eq_true_iff]
    exact hall
  · have hk : keysOf (takesF (mainOf f)) (l.filter (·.kind == 70)) (chiefN f) = List.range (chiefN f) := by
      unfold keysOf
      rw [List.filter_eq_self]
      intro i hi
      rw [hsome i (List.mem_range.1 hi)]
      unfold allDesc at ha
      exact List.all_eq_true.1 ha i hi
    unfold listedL takenL descsN
    rw [hln, hk, List.map_map]
    refine List.map_congr_left (fun i hi => ?_)
    have hi := List.mem_range.1 hi
    have hs : (descAt l f i).isSome = true := by
      unfold allDesc at ha
      exact List.all_eq_true.1 ha i (List.mem_range.2 hi)
    rw [← hsome i hi] at hs
    rw [← hdesc i hi]
    cases hf : firstOf (takesF (mainOf f)) (l.filter (·.kind == 70)) i with
    | none => rw [hf] at hs; cases hs
    | some g =>
      simp only [Option.map_some, Option.getD_some, Function.comp]
      have hg := (firstOf_some hf).2
      rw [hf]
      simp only [Option.getD_some]
      have hr : fRight g.body (mainOf f).size = true := by
        unfold takesF at hg
        split at hg
        · rename_i hcc; exact hcc.2.1
        · cases hg
      rw [fRight_eq] at hr
      exact (fInfo_eq hr).1

theorem presN_lost (fs : List FileL) (b : Nat) (hs : List Nat) : hs.length - presN (allPieces b fs) hs = lostN fs b hs := by
  have key : presN (allPieces b fs) hs = (hs.filter fun h => (firstPiece fs b h).isSome).length := by
    unfold presN
    have e : hs = (List.range hs.length).map (fun i => hs.getD i 0) := by
      refine List.ext_getElem (by simp) (fun i h1 h2 => ?_)
      simp [List.getD_eq_getElem?_getD, List.getElem?_eq_getElem h1]
    conv => rhs; rw [e, List.filter_map, List.length_map]
    congr 1
    refine List.filter_congr (fun i _ => ?_)
    simp only [Function.comp]
    rw [firstPiece_eq]
  rw [key]
  unfold lostN
  induction hs with
  | nil => rfl
  | cons h t ih =>
    have h1 : (t.filter fun h => (firstPiece fs b h).isSome).length ≤ t.length := List.length_filter_le _ _
    have key' : presN (allPieces b fs) t = (t.filter fun h => (firstPiece fs b h).isSome).length := by
      unfold presN
      have e : t = (List.range t.length).map (fun i => t.getD i 0) := by
        refine List.ext_getElem (by simp) (fun i h1 h2 => ?_)
        simp [List.getD_eq_getElem?_getD, List.getElem?_eq_getElem h1]
      conv => rhs; rw [e, List.filter_map, List.length_map]
      congr 1
      refine List.filter_congr (fun i _ => ?_)
      simp only [Function.comp]
      rw [firstPiece_eq]
    have ih := ih key'
    rw [List.filter_cons, List.filter_cons]
    cases hf : firstPiece fs b h with
    | none => simp at ih ⊢; omega
    | some x => simp at ih ⊢; omega

theorem extra_count {l : List FoundL} {f : FoundL} (hb : 0 < chiefSize f) (hsz : (mainOf f).size = chiefSize f) : (extraKeys l (mainOf f)).length = exN (exsL l f) := by
  unfold extraKeys keysOf exN exsL
  rw [List.filter_map, List.length_map]
  congr 1
  refine List.filter_congr (fun j hj => ?_)
  have hj := List.mem_range.1 hj
  have he := extra_of_pile (mainOf f) j hj l
  simp only [Function.comp]
  unfold exAt
  rw [hsz] at he
  have hset : (mainOf f).set = f.set := rfl
  rw [hset] at he
  rw [← he]
  cases hf : firstOf (takesE (mainOf f)) (l.filter (·.kind == 82)) j with
  | none => simp
  | some g =>
    rw [hf] at he
    have : (eSlice g.body (chiefSize f)).length = chiefSize f := exL_len he.symm
    simp only [Option.isSome_some, Option.map_some, Option.getD_some, ne_eq]
    symm
    rw [decide_eq_true_iff]
    intro e0
    rw [e0] at this
    simp at this
    omega

theorem lookP_eq (fs : List FileL) (vs : List (List UInt8)) : lookP fs vs = match lookedL fs vs with | .inr n => .inr n | .inl p => .inl ⟨p.states, p.flags, p.lost, p.extra⟩ := by
  unfold lookP lookedL
  have hh : handable fs vs = handedL fs vs := rfl
  rw [hh]
  cases handedL fs vs with
  | false => rfl
  | true =>
    simp only [Bool.true_eq_false, if_false, if_true]
    unfold readL
    cases hc : chiefL (findL vs) with
    | none => rfl
    | some f =>
      simp only
      obtain ⟨h1, h2, h3⟩ := listed_of hc
      have hpos : 2 ≤ chiefSize f := by rw [← h2]; exact (chief_bounds hc).2.2.2.2.1
      unfold isListed isList
      rw [h1]
      cases ha : allDesc (findL vs) f (chiefN f) with
      | false => simp
      | true =>
        have h3 := h3 ha
        have hnm : (namesL (descsN (findL vs) f (chiefN f))).map (·.1) = (listedL (findL vs) (mainOf f)).map fun g => fName g.body := by
          rw [h3]
          simp [namesL, Function.comp_def]
        have htw := diffs_twice _ _ hnm
        rw [List.length_map] at htw
        rw [htw]
        have hhs : dHashes (descsN (findL vs) f (chiefN f)) = sliceHs (listedL (findL vs) (mainOf f)) := by
          rw [h3]
          unfold dHashes sliceHs
          rw [List.flatMap_map]
        have hsum : hashSum (descsN (findL vs) f (chiefN f)) = (sliceHs (listedL (findL vs) (mainOf f))).length := by rw [← hhs]; rfl
        rw [hsum]
        cases hb : (true && !twiceL (namesL (descsN (findL vs) f (chiefN f))) && decide (1 ≤ (sliceHs (listedL (findL vs) (mainOf f))).length) && decide ((sliceHs (listedL (findL vs) (mainOf f))).length ≤ 60)) with
        | false => simp
        | true =>
          simp only [Bool.true_eq_false, if_false, if_true]
          unfold reportP leftOf
          simp only
          rw [hhs, h2, presN_lost, extra_count (by omega) h2]
          congr 2
          · rw [h3, List.map_map]
            rfl
          · unfold presL flagsOf
            refine List.map_congr_left (fun h _ => ?_)
            rw [firstPiece_eq]
end Go.Proofs.YtonjphollmdicaaDoor
namespace Go.Proofs.YtonjphollmdicaaDoor

/-! what the program's Look says of what is left of a set -/
theorem looked_left {size : Nat} {fs : List FileL} {extra : Nat} {vs : List (List UInt8)} {handed : List FileL} (hs : sliceSize (size : Int) = true) (h0 : 0 < size) (h32 : size ≤ 32) (hg : goodSet fs size = true) (hL : LeftOf size fs extra (findL vs)) (hm : mFound size fs ∈ findL vs) (hf : ∀ i, i < fs.length → fFound size fs i ∈ findL vs) (hh : handedL handed vs = true) :
    lookedL handed vs = .inl (leftOf handed ⟨size, fs.map (descOf size), exsL (findL vs) (mFound size fs)⟩) := by
  unfold lookedL
  rw [if_pos hh, read_left hs h0 h32 hg hL hm hf]
theorem look_left {size : Nat} {fs : List FileL} {extra : Nat} {vs : List (List UInt8)} {handed : List FileL} (hs : sliceSize (size : Int) = true) (h2 : 2 ≤ size) (h32 : size ≤ 32) (hev : size % 2 = 0) (hex : extra ≤ 20) (hg : goodSet fs size = true) (hL : LeftOf size fs extra (findL vs)) (hm : mFound size fs ∈ findL vs) (hf : ∀ i, i < fs.length → fFound size fs i ∈ findL vs) (has : Nat → Bool) (hh : ∀ j, j < extra → (rFound size fs j ∈ findL vs ↔ has j = true)) (hd : handedL handed vs = true) :
    lookP handed vs = .inl ⟨(fs.map (descOf size)).map (descState handed), flagsOf handed size (dHashes (fs.map (descOf size))), lostN handed size (dHashes (fs.map (descOf size))), ((List.range extra).filter has).length⟩ := by
  rw [lookP_eq, looked_left hs (by omega) h32 hg hL hm hf hd]
  unfold leftOf
  simp only
  rw [left_count h2 h32 hev hex hg hL has hh]
theorem left_made (size : Nat) (fs : List FileL) (extra : Nat) : LeftOf size fs extra (madeFound size fs extra) := fun _ h => .inl h
theorem m_made (size : Nat) (fs : List FileL) (extra : Nat) : mFound size fs ∈ madeFound size fs extra := by unfold madeFound; exact List.mem_cons_self ..
theorem f_made (size : Nat) (fs : List FileL) (extra : Nat) {i : Nat} (h : i < fs.length) : fFound size fs i ∈ madeFound size fs extra := by
  unfold madeFound
  exact List.mem_cons_of_mem _ (List.mem_append_left _ (List.mem_map.2 ⟨i, List.mem_range.2 h, rfl⟩))
theorem r_made (size : Nat) (fs : List FileL) (extra : Nat) {j : Nat} (h : j < extra) : rFound size fs j ∈ madeFound size fs extra := by
  unfold madeFound
  exact List.mem_cons_of_mem _ (List.mem_append_right _ (List.mem_map.2 ⟨j, List.mem_range.2 h, rfl⟩))
theorem made_len (size : Nat) (fs : List FileL) (extra : Nat) : (madeFound size fs extra).length = 1 + fs.length + extra := by
  unfold madeFound
  simp
  omega
theorem made_fat (size : Nat) (fs : List FileL) (extra i : Nat) (h : i < fs.length) : (madeFound size fs extra)[i + 1]? = some (fFound size fs i) := by
  unfold madeFound
  rw [List.getElem?_cons_succ, List.getElem?_append_left (by simpa using h)]
  simp [h]
theorem made_rat (size : Nat) (fs : List FileL) (extra j : Nat) (h : j < extra) : (madeFound size fs extra)[1 + fs.length + j]? = some (rFound size fs j) := by
  unfold madeFound
  rw [show 1 + fs.length + j = (fs.length + j) + 1 from by omega, List.getElem?_cons_succ, List.getElem?_append_right (by simp)]
  simp [h]
theorem packets_length (size : Nat) (fs : List FileL) (extra : Nat) : (packetsL size fs extra).length = 1 + fs.length + extra := by rw [packets_map, List.length_map, made_len]
/-- of the packets as they were made -/
theorem look_made {size : Nat} {fs : List FileL} {extra : Nat} {handed : List FileL} (hs : sliceSize (size : Int) = true) (h2 : 2 ≤ size) (h32 : size ≤ 32) (hev : size % 2 = 0) (hex : extra ≤ 20) (hg : goodSet fs size = true) (hd : handedL handed (packetsL size fs extra) = true) :
    lookP handed (packetsL size fs extra) = .inl ⟨(fs.map (descOf size)).map (descState handed), flagsOf handed size (dHashes (fs.map (descOf size))), lostN handed size (dHashes (fs.map (descOf size))), extra⟩ := by
  have e := find_packets (extra := extra) (by omega : 0 < size) h32 hg
  have := look_left (vs := packetsL size fs extra) (handed := handed) hs h2 h32 hev hex hg (by rw [e]; exact left_made _ _ _) (by rw [e]; exact m_made _ _ _) (fun i hi => by rw [e]; exact f_made _ _ _ hi) (fun _ => true) (fun j hj => by rw [e]; simp only [iff_true]; exact r_made _ _ _ hj) hd
  rw [this, List.filter_eq_self.2 (fun _ _ => rfl), List.length_range]
theorem handed_packets {size : Nat} {fs : List FileL} {extra : Nat} (h0 : 0 < size) (h32 : size ≤ 32) (hex : extra ≤ 20) (hg : goodSet fs size = true) {handed : List FileL} (h1 : handed.length ≤ 12) (h2 : ∀ f ∈ handed, f.2.length ≤ 400) : handedL handed (packetsL size fs extra) = true := by
  obtain ⟨_, _, h6, _⟩ := set_file hg
  unfold handedL
  have hl := packets_length size fs extra
  simp only [Bool.and_eq_true, decide_eq_true_eq, List.all_eq_true]
  exact ⟨⟨⟨h1, by omega⟩, h2⟩, packets_short h0 h32 hg⟩

def exB : List FileL := [([98], [9, 0, 2, 9])]
theorem ex_look : lookP exB (packetsL 2 exFs 1) = .inl ⟨[3], [false, true], 1, 1⟩ := by
  have hg : goodSet exFs 2 = true := by decide +kernel
  rw [look_made (by decide) (by decide) (by decide) (by decide) (by decide) hg (handed_packets (by decide) (by decide) (by decide) hg (by decide) (by decide))]
  have e1 : (exFs.map (descOf 2)).map (descState exB) = [3] := by decide +kernel
  have e2 : flagsOf exB 2 (dHashes (exFs.map (descOf 2))) = [false, true] := by decide +kernel
  have e3 : lostN exB 2 (dHashes (exFs.map (descOf 2))) = 1 := by decide +kernel
  rw [e1, e2, e3]
theorem hashes_made (size : Nat) (fs : List FileL) : dHashes (fs.map (descOf size)) = (slicesL size fs).map hashL := by
  unfold dHashes slicesL
  rw [List.flatMap_map, List.map_flatMap]
  rfl
/-- nothing is handed in: all is lost -/
theorem lost_all (size : Nat) (fs : List FileL) : lostN [] size (dHashes (fs.map (descOf size))) = (slicesL size fs).length := by
  rw [hashes_made]
  unfold lostN
  have e : ((slicesL size fs).map hashL).filter (fun h => (firstPiece [] size h).isNone) = (slicesL size fs).map hashL := List.filter_eq_self.2 (fun h _ => rfl)
  rw [e, List.length_map]
/-- one packet of a slice is spoilt -/
theorem look_spoilt {size : Nat} {fs : List FileL} {extra k i : Nat} {v : UInt8} (hs : sliceSize (size : Int) = true) (h2 : 2 ≤ size) (h8 : size ≤ 8) (hev : size % 2 = 0) (hex : extra ≤ 20) (hg : goodSet fs size = true) (hk : k < extra) (hi : i < (sealF (rFound size fs k)).length) (hv : v ≠ (sealF (rFound size fs k))[i]) :
    ∃ st fl lo, lookP [] ((packetsL size fs extra).set (1 + fs.length + k) ((sealF (rFound size fs k)).set i v)) = .inl ⟨st, fl, lo, extra - 1⟩ := by
  have h0 : 0 < size := by omega
  have h32 : size ≤ 32 := by omega
  have hrb := (rBody_facts size fs k hev (by omega)).1
  have hsp : ∀ g ∈ findV ((sealF (rFound size fs k)).set i v), g.body.length < 2 + size := by
    intro g hgm
    have hh := spoil_find (k := (rFound size fs k).kind) (set := (rFound size fs k).set) (b := (rFound size fs k).body) i v hi hv g hgm
    rw [rF_body, hrb] at hh
    exact hh
  have hlen := made_len size fs extra
  have hml : 1 + fs.length + k < (madeFound size fs extra).length := by omega
  -- which packets are found
  have hmem : ∀ g, g ∈ findL ((packetsL size fs extra).set (1 + fs.length + k) ((sealF (rFound size fs k)).set i v)) ↔ (∃ m, ∃ h : m < (madeFound size fs extra).length, m ≠ 1 + fs.length + k ∧ g = (madeFound size fs extra)[m]) ∨ g ∈ findV ((sealF (rFound size fs k)).set i v) := by
    intro g
    unfold findL
    rw [List.mem_flatMap, packets_map]
    constructor
    · rintro ⟨t, ht, hgt⟩
      obtain ⟨m, hm, rfl⟩ := List.mem_iff_getElem.1 ht
      rw [List.length_set, List.length_map] at hm
      rw [List.getElem_set] at hgt
      split at hgt
      · exact .inr hgt
      · rename_i hne
        rw [List.getElem_map] at hgt
        have := made_find h0 h32 hg (List.getElem_mem hm) []
        rw [List.append_nil, findV_nil] at this
        rw [this, List.mem_singleton] at hgt
        exact .inl ⟨m, hm, fun e => hne e.symm, hgt⟩
    · rintro (⟨m, hm, hne, rfl⟩ | hgt)
      · refine ⟨sealF (madeFound size fs extra)[m], ?_, ?_⟩
        · refine List.mem_iff_getElem.2 ⟨m, by rw [List.length_set, List.length_map]; exact hm, ?_⟩
          rw [List.getElem_set_ne (fun e => hne e.symm), List.getElem_map]
        · have := made_find h0 h32 hg (List.getElem_mem hm) []
          rw [List.append_nil, findV_nil] at this
          rw [this]
          exact List.mem_singleton.2 rfl
      · refine ⟨_, List.mem_iff_getElem.2 ⟨1 + fs.length + k, by rw [List.length_set, List.length_map]; exact hml, ?_⟩, hgt⟩
        rw [List.getElem_set_self]
  have hin : ∀ m (h : m < (madeFound size fs extra).length), m ≠ 1 + fs.length + k → (madeFound size fs extra)[m] ∈ findL ((packetsL size fs extra).set (1 + fs.length + k) ((sealF (rFound size fs k)).set i v)) := fun m h hne => (hmem _).2 (.inl ⟨m, h, hne, rfl⟩)
  have hLf : LeftOf size fs extra (findL ((packetsL size fs extra).set (1 + fs.length + k) ((sealF (rFound size fs k)).set i v))) := by
    intro g hgm
    rcases (hmem g).1 hgm with ⟨m, hm, _, rfl⟩ | h
    · exact .inl (List.getElem_mem hm)
    · have := hsp g h
      exact .inr ⟨this, by omega⟩
  have hm0 : mFound size fs ∈ findL ((packetsL size fs extra).set (1 + fs.length + k) ((sealF (rFound size fs k)).set i v)) := by
    have := hin 0 (by omega) (by omega)
    exact this
  have hfm : ∀ j, j < fs.length → fFound size fs j ∈ findL ((packetsL size fs extra).set (1 + fs.length + k) ((sealF (rFound size fs k)).set i v)) := by
    intro j hj
    have h := hin (j + 1) (by omega) (by omega)
    obtain ⟨_, e⟩ := List.getElem?_eq_some_iff.1 (made_fat size fs extra j hj)
    rw [e] at h
    exact h
  have hrm : ∀ j, j < extra → (rFound size fs j ∈ findL ((packetsL size fs extra).set (1 + fs.length + k) ((sealF (rFound size fs k)).set i v)) ↔ (fun j => decide (j ≠ k)) j = true) := by
    intro j hj
    simp only [decide_eq_true_eq]
    constructor
    · intro hr hjk
      subst hjk
      rcases (hmem _).1 hr with ⟨m, hm, hne, e⟩ | h
      · rcases made_cases (List.getElem_mem hm) with c | ⟨q, hq, c⟩ | ⟨q, hq, c⟩
        · rw [c] at e
          exact absurd (congrArg FoundL.kind e) (by simp [rFound, mFound])
        · rw [c] at e
          exact absurd (congrArg FoundL.kind e) (by simp [rFound, fFound])
        · by_cases c0 : m = 0
          · subst c0
            have : (madeFound size fs extra)[0] = mFound size fs := rfl
            rw [this] at e
            exact absurd (congrArg FoundL.kind e) (by simp [rFound, mFound])
          · obtain ⟨m', rfl⟩ : ∃ m', m = m' + 1 := ⟨m - 1, by omega⟩
            by_cases c1 : m' < fs.length
            · obtain ⟨_, e2⟩ := List.getElem?_eq_some_iff.1 (made_fat size fs extra m' c1)
              rw [e2] at e
              exact absurd (congrArg FoundL.kind e) (by simp [rFound, fFound])
            · have e0 := made_rat size fs extra (m' - fs.length) (by omega)
              rw [show 1 + fs.length + (m' - fs.length) = m' + 1 from by omega] at e0
              obtain ⟨_, e2⟩ := List.getElem?_eq_some_iff.1 e0
              rw [e2] at e
              have e3 := congrArg FoundL.body e
              rw [rF_body, rF_body] at e3
              have n1 := (rBody_facts size fs j hev (by omega)).2.1
              have n2 := (rBody_facts size fs (m' - fs.length) hev (by omega)).2.1
              rw [e3, n2] at n1
              omega
      · have := hsp _ h
        rw [rF_body, hrb] at this
        omega
    · intro hne
      have h := hin (1 + fs.length + j) (by omega) (by omega)
      obtain ⟨_, e⟩ := List.getElem?_eq_some_iff.1 (made_rat size fs extra j hj)
      rw [e] at h
      exact h
  have hhd : handedL [] ((packetsL size fs extra).set (1 + fs.length + k) ((sealF (rFound size fs k)).set i v)) = true := by
    obtain ⟨_, _, h6, _⟩ := set_file hg
    have hl := packets_length size fs extra
    have hps := packets_short (extra := extra) h0 h32 hg
    unfold handedL
    simp only [Bool.and_eq_true, decide_eq_true_eq, List.all_eq_true]
    refine ⟨⟨⟨by simp, by rw [List.length_set]; omega⟩, by simp⟩, fun t ht => ?_⟩
    rcases List.mem_or_eq_of_mem_set ht with h | h
    · exact hps t h
    · rw [h, List.length_set]
      refine hps _ ?_
      rw [packets_map]
      exact List.mem_map.2 ⟨_, r_made size fs extra hk, rfl⟩
  have := look_left (handed := []) hs h2 h32 hev hex hg hLf hm0 hfm (fun j => decide (j ≠ k)) hrm hhd
  have key : ∀ n, k < n → ((List.range n).filter fun j => decide (j ≠ k)).length = n - 1 := by
    intro n
    induction n with
    | zero => intro h; omega
    | succ n ih =>
      intro h
      rw [List.range_succ, List.filter_append, List.length_append]
      by_cases c : k = n
      · subst c
        have : (List.range k).filter (fun j => decide (j ≠ k)) = List.range k := List.filter_eq_self.2 (fun j hj => by have := List.mem_range.1 hj; simp; omega)
        rw [this]
        simp
      · rw [ih (by omega)]
        simp [Ne.symm c]
        omega
  rw [key extra hk] at this
  exact ⟨_, _, _, this⟩
end Go.Proofs.YtonjphollmdicaaDoor
namespace Go.Proofs.YtonjphollmdicaaDoor
open Go.ChangeShapes Go.WideShapes Go.ChangeAt Go.RowKit

set_option maxRecDepth 100000 in
set_option maxHeartbeats 2000000 in
theorem klooked_walk (w : World) (hK : Kinds w) :
    Calls Tryd.prog 4 #[] w fun e w' => e = .returned (.bool true) ∧ Below w.heap.size w w' := by
  have h0 := hK.lt
  have HK := hid_of hK
  clear hK
  go_enter Tryd.func4, Tryd.ntmps4
  go_wp2_with fail
  refine (kcreated_full w).mono ?_
  rintro e w1 ⟨ad, c, rfl, hrd, hb1⟩
  have hrf : Rd (w1.alloc (.cells #[.string ⟨#[98]⟩, .string ⟨#[9, 0, 2, 9]⟩] 43)) (some ⟨w1.heap.size, 0, none⟩) (filesV exB) := by
    intro k u hk
    refine ⟨w1.heap.size, 0, rfl, ?_⟩
    rcases k with _ | _ | k
    · simp [filesV, exB] at hk; subst hk; simp [str]
    · simp [filesV, exB] at hk; subst hk; simp [str]
    · simp [filesV, exB] at hk
  have hba := hb1.alloc hb1.size (Obj.cells #[.string ⟨#[98]⟩, .string ⟨#[9, 0, 2, 9]⟩] 43)
  have hLk := Look_walk exB (packetsL 2 exFs 1) (some ⟨w1.heap.size, 0, none⟩) (some ad) 1 c (w1.alloc (.cells #[.string ⟨#[98]⟩, .string ⟨#[9, 0, 2, 9]⟩] 43)) (HK.out.later hba h0) hrf (hrd.later (Nat.le_refl _) ((Below.refl _ _).alloc (Nat.le_refl _) _))
  rw [ex_look, packets_length] at hLk
  have HL := hid_of hLk
  have HBA := hid_of hba
  have hnil := fun W => Lib.run_eql_slice_nil (P := Tryd.prog) W 22 9 (some ad) 3 c 0 0 Tryd.underlying22
  clear hLk hba hrf hrd hb1
  go_wp2_with fail
  refine HL.out.mono ?_
  rintro e w2 ⟨hb2, v, rfl, sv, pv, rfl, hsv, hpv⟩
  have hbw : Below w.heap.size w w2 := HBA.out.trans (hb2.mono HBA.out.size)
  obtain ⟨sa, sc, rfl, hsr⟩ := row_rd hsv
  obtain ⟨pa, pc, rfl, hpr⟩ := row_rd hpv
  obtain ⟨sb, so, rfl, s0⟩ := hsr 0 _ rfl
  obtain ⟨pb, po, rfl, p0⟩ := hpr 0 _ rfl
  obtain ⟨pb', po', e, p1⟩ := hpr 1 _ rfl
  cases e
  have HBW := hid_of hbw
  clear hsv hpv hsr hpr hbw hb2 HL HBA
  rw [Nat.add_zero] at s0 p0
  have l1 := World.block_lt_of_cell? w2 _ s0
  have l2 := World.block_lt_of_cell? w2 _ p0
  have hx : ∀ (o : Obj) (x : Addr), x.block < w2.heap.size → (w2.alloc o).cell? x = w2.cell? x := fun o x hx => ((Below.refl w2.heap.size w2).alloc (Nat.le_refl _) o).cell hx
  have q0 := fun o => (hx o _ l1).trans s0
  have q1 := fun o => (hx o _ l2).trans p0
  have q2 := fun o => (hx o ⟨pb, po + 1, none⟩ l2).trans p1
  clear hx l1 l2 s0 p0 p1
  go_wp2_with fail
  go_ret
  exact ⟨rfl, HBW.out.alloc HBW.out.size _⟩
end Go.Proofs.YtonjphollmdicaaDoor
