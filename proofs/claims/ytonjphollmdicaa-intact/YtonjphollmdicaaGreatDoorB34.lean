import Derived.Test.YtonjphollmdicaaGreatDoorB14
import Derived.Test.YtonjphollmdicaaGreatDoorB15
import Derived.Test.YtonjphollmdicaaGreatDoorB33
namespace Go.Proofs.YtonjphollmdicaaGreatDoor

/-! what the program's Look says of what is left of a set -/
theorem looked_left {size : Nat} {fs : List FileL} {extra : Nat} {vs : List (List UInt8)} {handed : List FileL} (hs : sliceSize (size : Int) = true) (h0 : 0 < size) (h32 : size ≤ 32) (hg : goodSet fs size = true) (hL : LeftOf size fs extra (findL vs)) (hm : mFound size fs ∈ findL vs) (hf : ∀ i, i < fs.length → fFound size fs i ∈ findL vs) (hh : handedL handed vs = true) :
    lookedL handed vs = .inl (leftOf handed ⟨size, fs.map (descOf size), exsL (findL vs) (mFound size fs)⟩) := by
  unfold lookedL
  rw [if_pos hh, read_left hs h0 h32 hg hL hm hf]
theorem look_left {size : Nat} {fs : List FileL} {extra : Nat} {vs : List (List UInt8)} {handed : List FileL} (hs : sliceSize (size : Int) = true) (h2 : 2 ≤ size) (h32 : size ≤ 32) (hev : size % 2 = 0) (hex : extra ≤ 20) (hg : goodSet fs size = true) (hL : LeftOf size fs extra (findL vs)) (hm : mFound size fs ∈ findL vs) (hf : ∀ i, i < fs.length → fFound size fs i ∈ findL vs) (has : Nat → Bool) (hh : ∀ j, j < extra → (rFound size fs j ∈ findL vs ↔ has j = true)) (hd : handedL handed vs = true) :
    lookP handed vs = .inl ⟨(fs.map (descOf size)).map (descState handed), flagsOf handed size (dHashes (fs.map (descOf size))), lostN handed size (dHashes (fs.map (descOf size))), ((List.range extra).filter has).length⟩ := by
  rw [lookP_eq, looked_left hs (by omega) h32 hg hL hm hf hd]
  unfold leftOf
  simp only
  rw [left_count h2 h32 hev hex hg hL has hh]
theorem left_made (size : Nat) (fs : List FileL) (extra : Nat) : LeftOf size fs extra (madeFound size fs extra) := fun _ h => .inl h
theorem m_made (size : Nat) (fs : List FileL) (extra : Nat) : mFound size fs ∈ madeFound size fs extra := by unfold madeFound; exact List.mem_cons_self ..
theorem f_made (size : Nat) (fs : List FileL) (extra : Nat) {i : Nat} (h : i < fs.length) : fFound size fs i ∈ madeFound size fs extra := by
  unfold madeFound
  exact List.mem_cons_of_mem _ (List.mem_append_left _ (List.mem_map.2 ⟨i, List.mem_range.2 h, rfl⟩))
theorem r_made (size : Nat) (fs : List FileL) (extra : Nat) {j : Nat} (h : j < extra) : rFound size fs j ∈ madeFound size fs extra := by
  unfold madeFound
  exact List.mem_cons_of_mem _ (List.mem_append_right _ (List.mem_map.2 ⟨j, List.mem_range.2 h, rfl⟩))
theorem made_len (size : Nat) (fs : List FileL) (extra : Nat) : (madeFound size fs extra).length = 1 + fs.length + extra := by
  unfold madeFound
  simp
  omega
theorem made_fat (size : Nat) (fs : List FileL) (extra i : Nat) (h : i < fs.length) : (madeFound size fs extra)[i + 1]? = some (fFound size fs i) := by
  unfold madeFound
  rw [List.getElem?_cons_succ, List.getElem?_append_left (by simpa using h)]
  simp [h]
theorem made_rat (size : Nat) (fs : List FileL) (extra j : Nat) (h : j < extra) : (madeFound size fs extra)[1 + fs.length + j]? = some (rFound size fs j) := by
  unfold madeFound
  rw [show 1 + fs.length + j = (fs.length + j) + 1 from by omega, List.getElem?_cons_succ, List.getElem?_append_right (by simp)]
  simp [h]
theorem packets_length (size : Nat) (fs : List FileL) (extra : Nat) : (packetsL size fs extra).length = 1 + fs.length + extra := by rw [packets_map, List.length_map, made_len]
/-- of the packets as they were made -/
theorem look_made {size : Nat} {fs : List FileL} {extra : Nat} {handed : List FileL} (hs : sliceSize (size : Int) = true) (h2 : 2 ≤ size) (h32 : size ≤ 32) (hev : size % 2 = 0) (hex : extra ≤ 20) (hg : goodSet fs size = true) (hd : handedL handed (packetsL size fs extra) = true) :
    lookP handed (packetsL size fs extra) = .inl ⟨(fs.map (descOf size)).map (descState handed), flagsOf handed size (dHashes (fs.map (descOf size))), lostN handed size (dHashes (fs.map (descOf size))), extra⟩ := by
  have e := find_packets (extra := extra) (by omega : 0 < size) h32 hg
  have := look_left (vs := packetsL size fs extra) (handed := handed) hs h2 h32 hev hex hg (by rw [e]; exact left_made _ _ _) (by rw [e]; exact m_made _ _ _) (fun i hi => by rw [e]; exact f_made _ _ _ hi) (fun _ => true) (fun j hj => by rw [e]; simp only [iff_true]; exact r_made _ _ _ hj) hd
  rw [this, List.filter_eq_self.2 (fun _ _ => rfl), List.length_range]
theorem handed_packets {size : Nat} {fs : List FileL} {extra : Nat} (h0 : 0 < size) (h32 : size ≤ 32) (hex : extra ≤ 20) (hg : goodSet fs size = true) {handed : List FileL} (h1 : handed.length ≤ 12) (h2 : ∀ f ∈ handed, f.2.length ≤ 400) : handedL handed (packetsL size fs extra) = true := by
  obtain ⟨_, _, h6, _⟩ := set_file hg
  unfold handedL
  have hl := packets_length size fs extra
  simp only [Bool.and_eq_true, decide_eq_true_eq, List.all_eq_true]
  exact ⟨⟨⟨h1, by omega⟩, h2⟩, packets_short h0 h32 hg⟩

def exB : List FileL := [([98], [9, 0, 2, 9])]
theorem ex_look : lookP exB (packetsL 2 exFs 1) = .inl ⟨[3], [false, true], 1, 1⟩ := by
  have hg : goodSet exFs 2 = true := by decide +kernel
  rw [look_made (by decide) (by decide) (by decide) (by decide) (by decide) hg (handed_packets (by decide) (by decide) (by decide) hg (by decide) (by decide))]
  have e1 : (exFs.map (descOf 2)).map (descState exB) = [3] := by decide +kernel
  have e2 : flagsOf exB 2 (dHashes (exFs.map (descOf 2))) = [false, true] := by decide +kernel
  have e3 : lostN exB 2 (dHashes (exFs.map (descOf 2))) = 1 := by decide +kernel
  rw [e1, e2, e3]
theorem hashes_made (size : Nat) (fs : List FileL) : dHashes (fs.map (descOf size)) = (slicesL size fs).map hashL := by
  unfold dHashes slicesL
  rw [List.flatMap_map, List.map_flatMap]
  rfl
/-- nothing is handed in: all is lost -/
theorem lost_all (size : Nat) (fs : List FileL) : lostN [] size (dHashes (fs.map (descOf size))) = (slicesL size fs).length := by
  rw [hashes_made]
  unfold lostN
  have e : ((slicesL size fs).map hashL).filter (fun h => (firstPiece [] size h).isNone) = (slicesL size fs).map hashL := List.filter_eq_self.2 (fun h _ => rfl)
  rw [e, List.length_map]
/-- one packet of a slice is spoilt -/
theorem look_spoilt {size : Nat} {fs : List FileL} {extra k i : Nat} {v : UInt8} (hs : sliceSize (size : Int) = true) (h2 : 2 ≤ size) (h8 : size ≤ 8) (hev : size % 2 = 0) (hex : extra ≤ 20) (hg : goodSet fs size = true) (hk : k < extra) (hi : i < (sealF (rFound size fs k)).length) (hv : v ≠ (sealF (rFound size fs k))[i]) :
    ∃ st fl lo, lookP [] ((packetsL size fs extra).set (1 + fs.length + k) ((sealF (rFound size fs k)).set i v)) = .inl ⟨st, fl, lo, extra - 1⟩ := by
  have h0 : 0 < size := by omega
  have h32 : size ≤ 32 := by omega
  have hrb := (rBody_facts size fs k hev (by omega)).1
  have hsp : ∀ g ∈ findV ((sealF (rFound size fs k)).set i v), g.body.length < 2 + size := by
    intro g hgm
    have hh := spoil_find (k := (rFound size fs k).kind) (set := (rFound size fs k).set) (b := (rFound size fs k).body) i v hi hv g hgm
    rw [rF_body, hrb] at hh
    exact hh
  have hlen := made_len size fs extra
  have hml : 1 + fs.length + k < (madeFound size fs extra).length := by omega
  -- which packets are found
  have hmem : ∀ g, g ∈ findL ((packetsL size fs extra).set (1 + fs.length + k) ((sealF (rFound size fs k)).set i v)) ↔ (∃ m, ∃ h : m < (madeFound size fs extra).length, m ≠ 1 + fs.length + k ∧ g = (madeFound size fs extra)[m]) ∨ g ∈ findV ((sealF (rFound size fs k)).set i v) := by
    intro g
    unfold findL
    rw [List.mem_flatMap, packets_map]
    constructor
    · rintro ⟨t, ht, hgt⟩
      obtain ⟨m, hm, rfl⟩ := List.mem_iff_getElem.1 ht
      rw [List.length_set, List.length_map] at hm
      rw [List.getElem_set] at hgt
      split at hgt
      · exact .inr hgt
      · rename_i hne
        rw [List.getElem_map] at hgt
        have := made_find h0 h32 hg (List.getElem_mem hm) []
        rw [List.append_nil, findV_nil] at this
        rw [this, List.mem_singleton] at hgt
        exact .inl ⟨m, hm, fun e => hne e.symm, hgt⟩
    · rintro (⟨m, hm, hne, rfl⟩ | hgt)
      · refine ⟨sealF (madeFound size fs extra)[m], ?_, ?_⟩
        · refine List.mem_iff_getElem.2 ⟨m, by rw [List.length_set, List.length_map]; exact hm, ?_⟩
          rw [List.getElem_set_ne (fun e => hne e.symm), List.getElem_map]
        · have := made_find h0 h32 hg (List.getElem_mem hm) []
          rw [List.append_nil, findV_nil] at this
          rw [this]
          exact List.mem_singleton.2 rfl
      · refine ⟨_, List.mem_iff_getElem.2 ⟨1 + fs.length + k, by rw [List.length_set, List.length_map]; exact hml, ?_⟩, hgt⟩
        rw [List.getElem_set_self]
  have hin : ∀ m (h : m < (madeFound size fs extra).length), m ≠ 1 + fs.length + k → (madeFound size fs extra)[m] ∈ findL ((packetsL size fs extra).set (1 + fs.length + k) ((sealF (rFound size fs k)).set i v)) := fun m h hne => (hmem _).2 (.inl ⟨m, h, hne, rfl⟩)
  have hLf : LeftOf size fs extra (findL ((packetsL size fs extra).set (1 + fs.length + k) ((sealF (rFound size fs k)).set i v))) := by
    intro g hgm
    rcases (hmem g).1 hgm with ⟨m, hm, _, rfl⟩ | h
    · exact .inl (List.getElem_mem hm)
    · have := hsp g h
      exact .inr ⟨this, by omega⟩
  have hm0 : mFound size fs ∈ findL ((packetsL size fs extra).set (1 + fs.length + k) ((sealF (rFound size fs k)).set i v)) := by
    have := hin 0 (by omega) (by omega)
    exact this
  have hfm : ∀ j, j < fs.length → fFound size fs j ∈ findL ((packetsL size fs extra).set (1 + fs.length + k) ((sealF (rFound size fs k)).set i v)) := by
    intro j hj
    have h := hin (j + 1) (by omega) (by omega)
    obtain ⟨_, e⟩ := List.getElem?_eq_some_iff.1 (made_fat size fs extra j hj)
    rw [e] at h
    exact h
  have hrm : ∀ j, j < extra → (rFound size fs j ∈ findL ((packetsL size fs extra).set (1 + fs.length + k) ((sealF (rFound size fs k)).set i v)) ↔ (fun j => decide (j ≠ k)) j = true) := by
    intro j hj
    simp only [decide_eq_true_eq]
    constructor
    · intro hr hjk
      subst hjk
      rcases (hmem _).1 hr with ⟨m, hm, hne, e⟩ | h
      · rcases made_cases (List.getElem_mem hm) with c | ⟨q, hq, c⟩ | ⟨q, hq, c⟩
        · rw [c] at e
          exact absurd (congrArg FoundL.kind e) (by simp [rFound, mFound])
        · rw [c] at e
          exact absurd (congrArg FoundL.kind e) (by simp [rFound, fFound])
        · by_cases c0 : m = 0
          · subst c0
            have : (madeFound size fs extra)[0] = mFound size fs := rfl
            rw [this] at e
            exact absurd (congrArg FoundL.kind e) (by simp [rFound, mFound])
          · obtain ⟨m', rfl⟩ : ∃ m', m = m' + 1 := ⟨m - 1, by omega⟩
            by_cases c1 : m' < fs.length
            · obtain ⟨_, e2⟩ := List.getElem?_eq_some_iff.1 (made_fat size fs extra m' c1)
              rw [e2] at e
              exact absurd (congrArg FoundL.kind e) (by simp [rFound, fFound])
            · have e0 := made_rat size fs extra (m' - fs.length) (by omega)
              rw [show 1 + fs.length + (m' - fs.length) = m' + 1 from by omega] at e0
              obtain ⟨_, e2⟩ := List.getElem?_eq_some_iff.1 e0
              rw [e2] at e
              have e3 := congrArg FoundL.body e
              rw [rF_body, rF_body] at e3
              have n1 := (rBody_facts size fs j hev (by omega)).2.1
              have n2 := (rBody_facts size fs (m' - fs.length) hev (by omega)).2.1
              rw [e3, n2] at n1
              omega
      · have := hsp _ h
        rw [rF_body, hrb] at this
        omega
    · intro hne
      have h := hin (1 + fs.length + j) (by omega) (by omega)
      obtain ⟨_, e⟩ := List.getElem?_eq_some_iff.1 (made_rat size fs extra j hj)
      rw [e] at h
      exact h
  have hhd : handedL [] ((packetsL size fs extra).set (1 + fs.length + k) ((sealF (rFound size fs k)).set i v)) = true := by
    obtain ⟨_, _, h6, _⟩ := set_file hg
    have hl := packets_length size fs extra
    have hps := packets_short (extra := extra) h0 h32 hg
    unfold handedL
    simp only [Bool.and_eq_true, decide_eq_true_eq, List.all_eq_true]
    refine ⟨⟨⟨by simp, by rw [List.length_set]; omega⟩, by simp⟩, fun t ht => ?_⟩
    rcases List.mem_or_eq_of_mem_set ht with h | h
    · exact hps t h
    · rw [h, List.length_set]
      refine hps _ ?_
      rw [packets_map]
      exact List.mem_map.2 ⟨_, r_made size fs extra hk, rfl⟩
  have := look_left (handed := []) hs h2 h32 hev hex hg hLf hm0 hfm (fun j => decide (j ≠ k)) hrm hhd
  have key : ∀ n, k < n → ((List.range n).filter fun j => decide (j ≠ k)).length = n - 1 := by
    intro n
    induction n with
    | zero => intro h; omega
    | succ n ih =>
      intro h
      rw [List.range_succ, List.filter_append, List.length_append]
      by_cases c : k = n
      · subst c
        have : (List.range k).filter (fun j => decide (j ≠ k)) = List.range k := List.filter_eq_self.2 (fun j hj => by have := List.mem_range.1 hj; simp; omega)
        rw [this]
        simp
      · rw [ih (by omega)]
        simp [Ne.symm c]
        omega
  rw [key extra hk] at this
  exact ⟨_, _, _, this⟩
end Go.Proofs.YtonjphollmdicaaGreatDoor
namespace Go.Proofs.YtonjphollmdicaaGreatDoor
open Math

/-! the set comes back, or is refused -/
theorem cut_flat (size : Nat) (h0 : 0 < size) (data : List UInt8) : (cutL data size).flatten = padL data size := by
  have hl := pad_len data size _ h0 rfl
  have key : ∀ (n : Nat) (l : List UInt8), l.length = n * size → ((List.range n).map (pieceL l size)).flatten = l := by
    intro n
    induction n with
    | zero =>
      intro l hl
      have : l = [] := List.eq_nil_of_length_eq_zero (by simpa using hl)
      subst this
      rfl
    | succ n ih =>
      intro l hl
      rw [Nat.succ_mul] at hl
      rw [List.range_succ_eq_map, List.map_cons, List.map_map, List.flatten_cons]
      have e : (List.range n).map (pieceL l size ∘ Nat.succ) = (List.range n).map (pieceL (l.drop size) size) := List.map_congr_left (fun i _ => by
        simp only [Function.comp, pieceL]
        rw [List.drop_drop, Nat.succ_mul, Nat.add_comm])
      rw [e, ih (l.drop size) (by rw [List.length_drop]; omega)]
      simp only [pieceL]
      rw [Nat.zero_mul, List.drop_zero, List.take_append_drop]
  unfold cutL
  exact key _ _ hl
theorem join_cut (size : Nat) (h0 : 0 < size) : ∀ fs : List FileL, joinL (fs.map (descOf size)) (slicesL size fs) = fs
  | [] => rfl
  | f :: r => by
    have hs : slicesL size (f :: r) = cutL f.2 size ++ slicesL size r := rfl
    rw [List.map_cons, hs]
    have hn : (descOf size f).slices.length = (cutL f.2 size).length := by unfold descOf; simp
    simp only [joinL]
    rw [hn, List.take_left, List.drop_left, join_cut size h0 r, cut_flat size h0]
    have e1 : (descOf size f).name = f.1 := rfl
    have e2 : (descOf size f).long = f.2.length := by unfold descOf; with_reducible rfl
    rw [e1, e2]
    unfold padL
    rw [List.take_left]
theorem hashOk_made (size : Nat) : ∀ fs : List FileL, hashOk (fs.map (descOf size)) fs = true
  | [] => rfl
  | f :: r => by
    rw [List.map_cons]
    simp only [hashOk]
    have e : (descOf size f).hash = hashL f.2 := by unfold descOf; with_reducible rfl
    rw [e, hashOk_made size r, beq_self_eq_true]
    rfl
theorem repair_left {size : Nat} {fs : List FileL} {extra : Nat} {vs : List (List UInt8)} {handed : List FileL} (hs : sliceSize (size : Int) = true) (h2 : 2 ≤ size) (h32 : size ≤ 32) (hev : size % 2 = 0) (hex : extra ≤ 20) (hg : goodSet fs size = true) (hL : LeftOf size fs extra (findL vs)) (hm : mFound size fs ∈ findL vs) (hf : ∀ i, i < fs.length → fFound size fs i ∈ findL vs) (has : Nat → Bool) (hh : ∀ j, j < extra → (rFound size fs j ∈ findL vs ↔ has j = true)) (hd : handedL handed vs = true)
    (hno : ∀ t ∈ slicesL size fs, ∀ p, firstPiece handed size (hashL t) = some p → p = t) :
    repairL handed vs = if ((List.range extra).filter has).length < lostN handed size ((slicesL size fs).map hashL) then .inr 5 else .inl fs := by
  have h0 : 0 < size := by omega
  obtain ⟨_, _, _, c1, c2, _⟩ := set_file hg
  have hcnt := left_count h2 h32 hev hex hg hL has hh
  have hexs := left_exs h32 hev hex hg hL has hh
  unfold repairL
  rw [looked_left hs h0 h32 hg hL hm hf hd]
  unfold leftOf
  simp only
  rw [hashes_made, hcnt]
  by_cases hlost : ((List.range extra).filter has).length < lostN handed size ((slicesL size fs).map hashL)
  · rw [if_pos hlost, if_pos hlost]
  · rw [if_neg hlost, if_neg hlost]
    have hmade : madeL handed ⟨size, fs.map (descOf size), exsL (findL vs) (mFound size fs)⟩ = fs := by
      unfold madeL
      simp only
      rw [hashes_made, List.length_map]
      have hall : allS size (slicesL size fs).length (pieceOf handed ⟨size, fs.map (descOf size), exsL (findL vs) (mFound size fs)⟩) (exPairs (exsL (findL vs) (mFound size fs))) = slicesL size fs := by
        obtain ⟨P, hP⟩ : ∃ P, P = pieceOf handed ⟨size, fs.map (descOf size), exsL (findL vs) (mFound size fs)⟩ := ⟨_, rfl⟩
        obtain ⟨es, hes⟩ : ∃ x, x = exPairs (exsL (findL vs) (mFound size fs)) := ⟨_, rfl⟩
        rw [← hP, ← hes]
        have hPi : ∀ i (h : i < (slicesL size fs).length), P i = firstPiece handed size (hashL (slicesL size fs)[i]) := by
          intro i h
          rw [hP]
          unfold pieceOf
          simp only
          rw [hashes_made, List.getD_eq_getElem?_getD, List.getElem?_map, List.getElem?_eq_getElem h]
          rfl
        have hsl : ∀ t ∈ slicesL size fs, t.length = size := by
          intro t ht
          unfold slicesL at ht
          obtain ⟨f, _, ht⟩ := List.mem_flatMap.1 ht
          exact (cutL_len f.2 size h0).2 t ht
        have hRl : (rowsL size fs).length = (slicesL size fs).length := by unfold rowsL; rw [List.length_map]
        have hRi : ∀ i (h : i < (slicesL size fs).length), (rowsL size fs).getD i [] = rowL (slicesL size fs)[i] := by
          intro i h
          unfold rowsL
          rw [List.getD_eq_getElem?_getD, List.getElem?_map, List.getElem?_eq_getElem h]
          rfl
        have hexg : ∀ j, j < 20 → (exsL (findL vs) (mFound size fs)).getD j [] = if j < extra ∧ has j = true then textL (extraL (rowsL size fs) (size / 2) j) else [] := by
          intro j hj
          rw [hexs, List.getD_eq_getElem?_getD, List.getElem?_map, List.getElem?_range hj]
          rfl
        have hes1 : ∀ e ∈ es, e.1 < 1000 ∧ rowL e.2 = extraL (rowsL size fs) (size / 2) e.1 := by
          intro e he
          rw [hes] at he
          unfold exPairs at he
          obtain ⟨j, hj, rfl⟩ := List.mem_map.1 he
          rw [List.mem_filter, List.mem_range, decide_eq_true_eq] at hj
          refine ⟨by show j < 1000; omega, ?_⟩
          have h := hexg j hj.1
          show rowL ((exsL (findL vs) (mFound size fs)).getD j []) = _
          by_cases c : j < extra ∧ has j = true
          · rw [h, if_pos c, row_text _ (extraL_lt _ _ _)]
          · rw [h, if_neg c] at hj
            exact absurd rfl hj.2
        have hnd : (es.map (·.1)).Nodup := by
          rw [hes]
          unfold exPairs
          rw [List.map_map]
          have : ((fun x : Nat × List UInt8 => x.1) ∘ fun j => (j, (exsL (findL vs) (mFound size fs)).getD j [])) = id := rfl
          rw [this, List.map_id]
          exact List.nodup_range.filter _
        have heslen : es.length = ((List.range extra).filter has).length := by
          rw [hes, ← hcnt]
          unfold exPairs exN
          rw [List.length_map]
          have hel := exsL_len (findL vs) (mFound size fs)
          generalize exsL (findL vs) (mFound size fs) = X at hel ⊢
          have e : X = (List.range 20).map (fun j => X.getD j []) := by
            refine List.ext_getElem (by simp [hel]) (fun i h1 h2 => ?_)
            simp [List.getD_eq_getElem?_getD, List.getElem?_eq_getElem h1]
          conv => rhs; rw [e, List.filter_map, List.length_map]
          rfl
        have hkn : (slicesL size fs).length - (knownP (slicesL size fs).length P).length = lostN handed size ((slicesL size fs).map hashL) := by
          have hp := presN_lost handed size ((slicesL size fs).map hashL)
          rw [List.length_map] at hp
          rw [← hp]
          congr 1
          unfold knownP presN
          rw [List.length_map]
          congr 1
          refine List.filter_congr (fun i hi => ?_)
          have hi := List.mem_range.1 hi
          rw [hPi i hi, firstPiece_eq, List.getD_eq_getElem?_getD, List.getElem?_map, List.getElem?_eq_getElem hi]
          rfl
        refine List.ext_getElem (by simp [allS]) (fun i h1 h2 => ?_)
        have e0 : (allS size (slicesL size fs).length P es)[i] = madeS size (slicesL size fs).length P es i := by simp [allS]
        rw [e0]
        unfold madeS
        cases hp : P i with
        | some p =>
          simp only
          rw [hPi i h2] at hp
          exact hno _ (List.getElem_mem h2) p hp
        | none =>
          simp only
          have hb := made_back (rowsL size fs) (size / 2) (rowsL_ok size fs h0) (by rw [rowsL_count size fs h0]; omega) P es (fun k p hk hp => by
              rw [hRl] at hk
              rw [hRi k hk]
              rw [hPi k hk] at hp
              rw [hno _ (List.getElem_mem hk) p hp]) hes1 hnd (by rw [hRl, hkn, heslen]; omega) i (by rw [hRl]; exact h2)
          rw [hRl] at hb
          rw [hb, hRi i h2]
          exact text_row (size / 2) _ (by rw [hsl _ (List.getElem_mem h2)]; omega)
      rw [hall]
      exact join_cut size h0 fs
    rw [hmade, hashOk_made, if_pos rfl]
/-- of one file -/
theorem ex_repair : repairL exB (packetsL 2 exFs 1) = .inl exFs := by
  have hg : goodSet exFs 2 = true := by decide +kernel
  have e := find_packets (extra := 1) (by decide : 0 < 2) (by decide) hg
  rw [repair_left (size := 2) (fs := exFs) (extra := 1) (vs := packetsL 2 exFs 1) (handed := exB) (by decide) (by decide) (by decide) (by decide) (by decide) hg (by rw [e]; exact left_made _ _ _) (by rw [e]; exact m_made _ _ _) (fun i hi => by rw [e]; exact f_made _ _ _ hi) (fun _ => true) (fun j hj => by rw [e]; simp only [iff_true]; exact r_made _ _ _ hj) (handed_packets (by decide) (by decide) (by decide) hg (by decide) (by decide)) (by decide +kernel)]
  have e1 : lostN exB 2 ((slicesL 2 exFs).map hashL) = 1 := by decide +kernel
  rw [e1]
  rfl
end Go.Proofs.YtonjphollmdicaaGreatDoor
