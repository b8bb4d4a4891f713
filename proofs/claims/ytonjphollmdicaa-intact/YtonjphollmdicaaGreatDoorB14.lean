import Derived.Test.YtonjphollmdicaaGreatDoorB09
import Derived.Test.YtonjphollmdicaaGreatDoorB12
import Derived.Test.YtonjphollmdicaaGreatDoorB13
namespace Go.Proofs.YtonjphollmdicaaGreatDoor

/-! what is read out of packets of a set, in any order, more than once, some of them gone, others spoilt -/
theorem mF_set (size : Nat) (fs : List FileL) : (mFound size fs).set = setL size fs := by simp only [mFound]
theorem fF_set (size : Nat) (fs : List FileL) (i : Nat) : (fFound size fs i).set = setL size fs := by simp only [fFound]
theorem rF_set (size : Nat) (fs : List FileL) (i : Nat) : (rFound size fs i).set = setL size fs := by simp only [rFound]
theorem fF_body (size : Nat) (fs : List FileL) (i : Nat) : (fFound size fs i).body = bodyL size fs i := by simp only [fFound]
theorem rF_body (size : Nat) (fs : List FileL) (i : Nat) : (rFound size fs i).body = rBody size fs i := by simp only [rFound]
theorem bytes1 (n : Nat) : numBytes n 1 = [byteAt n 0] := rfl
theorem byte_small {n : Nat} (h : n < 256) : (byteAt n 0).toNat = n := by
  rw [byteAt_nat]
  simp
  omega
theorem drop_two (a b : UInt8) (l : List UInt8) (k : Nat) : (a :: b :: l).drop (2 + k) = l.drop k := by
  rw [Nat.add_comm, List.drop_succ_cons, List.drop_succ_cons]
def descOf (size : Nat) (f : FileL) : DescL := ⟨f.1, f.2.length, hashL f.2, (cutL f.2 size).map hashL⟩
/-- the body of an F packet is read back -/
theorem form_made (i size : Nat) (name data : List UInt8) (hn1 : 1 ≤ name.length) (hn : name.length ≤ 20) (hd : data.length ≤ 400) (h0 : 0 < size) :
    formL (fileBodyL i name data (cutL data size)) size = some (descOf size (name, data)) ∧ (fileBodyL i name data (cutL data size)).getD 0 0 = byteAt i 0 ∧ 1 ≤ (fileBodyL i name data (cutL data size)).length := by
  have hcl := (cutL_len data size h0).1
  obtain ⟨hs, hhs⟩ : ∃ x, x = (cutL data size).map hashL := ⟨_, rfl⟩
  have hhl : hs.length = slicesOfN data.length size := by rw [hhs, List.length_map, hcl]
  have e : fileBodyL i name data (cutL data size) = byteAt i 0 :: byteAt name.length 0 :: (name ++ (numBytes data.length 2 ++ (numBytes (hashL data) 8 ++ hashesL hs))) := by
    unfold fileBodyL fileHeadL
    rw [bytes1, bytes1, ← hhs]
    simp [List.append_assoc]
  rw [e]
  obtain ⟨T, hT⟩ : ∃ T, T = numBytes (hashL data) 8 ++ hashesL hs := ⟨_, rfl⟩
  have l2 := numBytes_len data.length 2
  have l8 := numBytes_len (hashL data) 8
  have hfn : formN (byteAt i 0 :: byteAt name.length 0 :: (name ++ (numBytes data.length 2 ++ (numBytes (hashL data) 8 ++ hashesL hs)))) = name.length := by
    show (byteAt name.length 0).toNat = name.length
    exact byte_small (by omega)
  have d1 : ∀ k, (byteAt i 0 :: byteAt name.length 0 :: (name ++ (numBytes data.length 2 ++ (numBytes (hashL data) 8 ++ hashesL hs)))).drop (2 + name.length + k) = (numBytes data.length 2 ++ (numBytes (hashL data) 8 ++ hashesL hs)).drop k := by
    intro k
    rw [Nat.add_assoc, drop_two, ← List.drop_drop, List.drop_left]
  have d2 : ∀ k, (byteAt i 0 :: byteAt name.length 0 :: (name ++ (numBytes data.length 2 ++ (numBytes (hashL data) 8 ++ hashesL hs)))).drop (4 + name.length + k) = (numBytes (hashL data) 8 ++ hashesL hs).drop k := by
    intro k
    rw [show 4 + name.length + k = 2 + name.length + (2 + k) from by omega, d1, ← List.drop_drop, List.drop_left' l2]
  have d3 : ∀ k, (byteAt i 0 :: byteAt name.length 0 :: (name ++ (numBytes data.length 2 ++ (numBytes (hashL data) 8 ++ hashesL hs)))).drop (12 + name.length + k) = (hashesL hs).drop k := by
    intro k
    rw [show 12 + name.length + k = 4 + name.length + (8 + k) from by omega, d2, ← List.drop_drop, List.drop_left' l8]
  have hlong : formLong (byteAt i 0 :: byteAt name.length 0 :: (name ++ (numBytes data.length 2 ++ (numBytes (hashL data) 8 ++ hashesL hs)))) = data.length := by
    unfold formLong
    have := d1 0
    rw [Nat.add_zero] at this
    rw [hfn, this, List.drop_zero, List.take_append_of_le_length (by omega), List.take_of_length_le (by omega)]
    exact num_bytes _ 2 (by omega) (Nat.lt_of_le_of_lt hd (by decide))
  have hhash : formHash (byteAt i 0 :: byteAt name.length 0 :: (name ++ (numBytes data.length 2 ++ (numBytes (hashL data) 8 ++ hashesL hs)))) = hashL data := by
    unfold formHash
    have := d2 0
    rw [Nat.add_zero] at this
    rw [hfn, this, List.drop_zero, List.take_append_of_le_length (by omega), List.take_of_length_le (by omega)]
    exact num_bytes _ 8 (hashL_lt _) (hashL_lt _)
  have hlen : (byteAt i 0 :: byteAt name.length 0 :: (name ++ (numBytes data.length 2 ++ (numBytes (hashL data) 8 ++ hashesL hs)))).length = 12 + name.length + 8 * slicesOfN data.length size := by
    simp only [List.length_cons, List.length_append, l2, l8, hashesL_len, hhl]
    omega
  refine ⟨?_, rfl, by rw [hlen]; omega⟩
  unfold formL
  have hF : isForm (byteAt i 0 :: byteAt name.length 0 :: (name ++ (numBytes data.length 2 ++ (numBytes (hashL data) 8 ++ hashesL hs)))) size = true := by
    unfold isForm
    rw [hfn, hlong, hlen]
    generalize slicesOfN data.length size = z0
    simp only [Bool.and_eq_true, decide_eq_true_eq]
    exact ⟨⟨⟨⟨⟨by omega, by omega⟩, by omega⟩, by omega⟩, by omega⟩, trivial⟩
  rw [if_pos hF]
  unfold formAt descOf
  rw [hfn, hlong, hhash]
  congr 2
  · show (name ++ _).take name.length = name
    exact List.take_left
  · rw [← hhs]
    refine List.ext_getElem (by simp [hhl]) (fun k h1 h2 => ?_)
    simp only [List.length_map, List.length_range] at h1
    simp only [List.getElem_map, List.getElem_range]
    unfold formSlice
    rw [hfn, d3]
    unfold hashesL
    rw [flat_piece (fun h => numBytes h 8) 8 _ (fun _ _ => numBytes_len _ _) k h2]
    have hk : hs[k] < P64 := by
      have : hs[k] ∈ (cutL data size).map hashL := by rw [← hhs]; exact List.getElem_mem h2
      obtain ⟨x, _, hx⟩ := List.mem_map.1 this
      rw [← hx]
      exact hashL_lt _
    exact num_bytes _ 8 hk hk

theorem findSome_only {α β : Type} (f : α → Option β) (d : β) : ∀ (l : List α), (∀ x ∈ l, f x = none ∨ f x = some d) → (∃ x ∈ l, f x = some d) → l.findSome? f = some d
  | [], _, h => by obtain ⟨x, hx, _⟩ := h; simp at hx
  | x :: r, ha, he => by
    rw [List.findSome?_cons]
    rcases ha x (List.mem_cons_self ..) with h | h
    · rw [h]
      refine findSome_only f d r (fun y hy => ha y (List.mem_cons_of_mem _ hy)) ?_
      obtain ⟨y, hy, e⟩ := he
      rcases List.mem_cons.1 hy with rfl | hy
      · rw [h] at e; cases e
      · exact ⟨y, hy, e⟩
    · rw [h]
theorem find_only {α : Type} (p : α → Bool) (d : α) : ∀ (l : List α), (∀ x ∈ l, p x = true → x = d) → d ∈ l → p d = true → l.find? p = some d := by
  intro l h hm hd
  cases hf : l.find? p with
  | none =>
    rw [List.find?_eq_none] at hf
    exact absurd hd (by simpa using hf d hm)
  | some x => rw [h x (List.mem_of_find?_eq_some hf) (List.find?_some hf)]

/-- packets of a set, and such as are too short to count -/
def LeftOf (size : Nat) (fs : List FileL) (extra : Nat) (l : List FoundL) : Prop := ∀ g ∈ l, g ∈ madeFound size fs extra ∨ (g.body.length < 2 + size ∧ g.body.length < 11)

theorem made_cases {size : Nat} {fs : List FileL} {extra : Nat} {g : FoundL} (h : g ∈ madeFound size fs extra) : g = mFound size fs ∨ (∃ i, i < fs.length ∧ g = fFound size fs i) ∨ ∃ j, j < extra ∧ g = rFound size fs j := by
  unfold madeFound at h
  rw [List.mem_cons, List.mem_append, List.mem_map, List.mem_map] at h
  rcases h with h | ⟨i, hi, rfl⟩ | ⟨j, hj, rfl⟩
  · exact .inl h
  · exact .inr (.inl ⟨i, List.mem_range.1 hi, rfl⟩)
  · exact .inr (.inr ⟨j, List.mem_range.1 hj, rfl⟩)
theorem set_file {fs : List FileL} {size : Nat} (hg : goodSet fs size = true) : (∀ f ∈ fs, 1 ≤ f.1.length ∧ f.1.length ≤ 20 ∧ f.2.length ≤ 400) ∧ 1 ≤ fs.length ∧ fs.length ≤ 6 ∧ 1 ≤ countL fs size ∧ countL fs size ≤ 60 ∧ ∀ (i : Nat) (h : i < fs.length), hasNameL (fs.take i) fs[i].1 = false := by
  unfold goodSet at hg
  rw [Bool.and_eq_true, Bool.and_eq_true, decide_eq_true_eq, decide_eq_true_eq] at hg
  obtain ⟨⟨h1, h2⟩, h3⟩ := hg
  unfold isSetL at h1
  rw [Bool.and_eq_true, decide_eq_true_eq, List.all_eq_true] at h1
  have key : ∀ (i : Nat) (h : i < fs.length), fitsL fs[i] = true ∧ hasNameL (fs.take i) fs[i].1 = false := by
    intro i h
    have := h1.2 i (List.mem_range.2 h)
    unfold okAt at this
    rw [List.getElem?_eq_getElem h] at this
    simp only [Bool.and_eq_true, Bool.not_eq_true'] at this
    exact this
  refine ⟨fun f hf => ?_, h1.1.1, h1.1.2, h2, h3, fun i h => (key i h).2⟩
  obtain ⟨i, hi, rfl⟩ := List.mem_iff_getElem.1 hf
  have := (key i hi).1
  unfold fitsL at this
  exact of_decide_eq_true this
theorem body_at {size : Nat} {fs : List FileL} (i : Nat) (hi : i < fs.length) : bodyL size fs i = fileBodyL i fs[i].1 fs[i].2 (cutL fs[i].2 size) := by
  unfold bodyL
  rw [List.getD_eq_getElem?_getD, List.getElem?_eq_getElem hi]
  rfl
theorem rBody_facts (size : Nat) (fs : List FileL) (j : Nat) (hev : size % 2 = 0) (hj : j < 65536) : (rBody size fs j).length = 2 + size ∧ numL ((rBody size fs j).take 2) = j ∧ (rBody size fs j).drop 2 = textL (extraL (rowsL size fs) (size / 2) j) := by
  unfold rBody extraBodyL
  have l2 := numBytes_len j 2
  refine ⟨?_, ?_, ?_⟩
  · rw [List.length_append, l2, textL_len, extraL_len]
    omega
  · rw [List.take_append_of_le_length (by omega), List.take_of_length_le (by omega)]
    exact num_bytes _ 2 (by omega) (Nat.lt_trans hj (by decide))
  · rw [List.drop_left' l2]

theorem left_chief {size : Nat} {fs : List FileL} {extra : Nat} {l : List FoundL} (hs : sliceSize (size : Int) = true) (h32 : size ≤ 32) (hg : goodSet fs size = true) (hL : LeftOf size fs extra l) (hm : mFound size fs ∈ l) : chiefL l = some (mFound size fs) := by
  obtain ⟨_, h1, h6, _⟩ := set_file hg
  refine find_only isChief _ l (fun g hgl hc => ?_) hm (chief_m hs h32 h1 h6)
  rcases hL g hgl with h | h
  · rcases made_cases h with h | ⟨i, _, rfl⟩ | ⟨j, _, rfl⟩
    · exact h
    · unfold isChief fFound at hc; simp at hc
    · unfold isChief rFound at hc; simp at hc
  · unfold isChief at hc
    simp only [Bool.and_eq_true, decide_eq_true_eq] at hc
    omega
theorem no_chief {size : Nat} {fs : List FileL} {extra : Nat} {l : List FoundL} (hL : LeftOf size fs extra l) (hm : mFound size fs ∉ l) : chiefL l = none := by
  unfold chiefL
  rw [List.find?_eq_none]
  intro g hgl hc
  rcases hL g hgl with h | h
  · rcases made_cases h with rfl | ⟨i, _, rfl⟩ | ⟨j, _, rfl⟩
    · exact hm hgl
    · unfold isChief fFound at hc; simp at hc
    · unfold isChief rFound at hc; simp at hc
  · unfold isChief at hc
    simp only [Bool.and_eq_true, decide_eq_true_eq] at hc
    omega
theorem left_only {size : Nat} {fs : List FileL} {extra : Nat} {l : List FoundL} (h0 : 0 < size) (hg : goodSet fs size = true) (hL : LeftOf size fs extra l) {i : Nat} (hi : i < fs.length) {hash : Nat} : ∀ g ∈ l, (if speaksOf (setL size fs) i hash g then formL g.body size else none) = none ∨ (g = fFound size fs i ∧ (if speaksOf (setL size fs) i hash g then formL g.body size else none) = some (descOf size fs[i])) := by
  obtain ⟨hf, h1, h6, _⟩ := set_file hg
  intro g hgl
  by_cases hs : speaksOf (setL size fs) i hash g = true
  · rw [if_pos hs]
    rcases hL g hgl with h | h
    · rcases made_cases h with rfl | ⟨k, hk, rfl⟩ | ⟨j, _, rfl⟩
      · unfold speaksOf mFound at hs; simp at hs
      · have hfk := hf _ (List.getElem_mem hk)
        obtain ⟨p1, p2, _⟩ := form_made k size fs[k].1 fs[k].2 hfk.1 hfk.2.1 hfk.2.2 h0
        have hki : k = i := by
          unfold speaksOf at hs
          simp only [Bool.and_eq_true, beq_iff_eq] at hs
          have := hs.1.2
          show k = i
          have hb := fF_body size fs k
          rw [hb, body_at k hk, p2, byte_small (by omega)] at this
          exact this
        subst hki
        refine .inr ⟨rfl, ?_⟩
        have hb := fF_body size fs k
        rw [hb, body_at k hk, p1]
      · unfold speaksOf rFound at hs; simp at hs
    · refine .inl ?_
      unfold formL
      rw [if_neg]
      intro hF
      unfold isForm at hF
      simp only [Bool.and_eq_true, decide_eq_true_eq] at hF
      omega
  · rw [if_neg hs]; exact .inl rfl
theorem left_desc {size : Nat} {fs : List FileL} {extra : Nat} {l : List FoundL} (h0 : 0 < size) (h32 : size ≤ 32) (hg : goodSet fs size = true) (hL : LeftOf size fs extra l) {i : Nat} (hi : i < fs.length) (hf : fFound size fs i ∈ l) : descAt l (mFound size fs) i = some (descOf size fs[i]) := by
  obtain ⟨hff, h1, h6, _⟩ := set_file hg
  obtain ⟨p1, _, _, p4⟩ := main_parts h32 h6
  unfold descAt
  rw [p1, p4 i hi]
  have hset := mF_set size fs
  rw [hset]
  unfold describedL
  refine findSome_only _ _ l (fun g hgl => ?_) ⟨fFound size fs i, hf, ?_⟩
  · rcases left_only h0 hg hL hi (hash := hashL (bodyL size fs i)) g hgl with h | ⟨_, h⟩
    · exact .inl h
    · exact .inr h
  · have hfi := hff _ (List.getElem_mem hi)
    obtain ⟨q1, q2, q3⟩ := form_made i size fs[i].1 fs[i].2 hfi.1 hfi.2.1 hfi.2.2 h0
    have hb := fF_body size fs i
    have hsp : speaksOf (setL size fs) i (hashL (bodyL size fs i)) (fFound size fs i) = true := by
      unfold speaksOf
      rw [hb]
      have e2 : ((bodyL size fs i).getD 0 0).toNat = i := by rw [body_at i hi, q2, byte_small (by omega)]
      have e3 : 1 ≤ (bodyL size fs i).length := by rw [body_at i hi]; exact q3
      rw [e2, decide_eq_true e3]
      have e4 := fF_set size fs i
      have e5 : (fFound size fs i).kind = 70 := rfl
      rw [e4, e5]
      generalize setL size fs = z
      generalize hashL (bodyL size fs i) = y
      simp
    rw [if_pos hsp, hb, body_at i hi, q1]
theorem no_desc {size : Nat} {fs : List FileL} {extra : Nat} {l : List FoundL} (h0 : 0 < size) (h32 : size ≤ 32) (hg : goodSet fs size = true) (hL : LeftOf size fs extra l) {i : Nat} (hi : i < fs.length) (hf : fFound size fs i ∉ l) : descAt l (mFound size fs) i = none := by
  obtain ⟨hff, h1, h6, _⟩ := set_file hg
  obtain ⟨p1, _, _, p4⟩ := main_parts h32 h6
  unfold descAt
  rw [p1, p4 i hi]
  have hset := mF_set size fs
  rw [hset]
  unfold describedL
  rw [List.findSome?_eq_none_iff]
  intro g hgl
  rcases left_only h0 hg hL hi (hash := hashL (bodyL size fs i)) g hgl with h | ⟨rfl, _⟩
  · exact h
  · exact absurd hgl hf
theorem left_extra {size : Nat} {fs : List FileL} {extra : Nat} {l : List FoundL} (hev : size % 2 = 0) (hex : extra ≤ 20) (hL : LeftOf size fs extra l) (j : Nat) : exL l (setL size fs) size j = some (textL (extraL (rowsL size fs) (size / 2) j)) ∧ j < extra ∧ rFound size fs j ∈ l ∨ exL l (setL size fs) size j = none ∧ (j < extra → rFound size fs j ∉ l) := by
  have honly : ∀ g ∈ l, isExtra (setL size fs) size j g = true → g = rFound size fs j ∧ j < extra := by
    intro g hgl hc
    rcases hL g hgl with h | h
    · rcases made_cases h with rfl | ⟨k, hk, rfl⟩ | ⟨i, hi, rfl⟩
      · unfold isExtra mFound at hc; simp at hc
      · unfold isExtra fFound at hc; simp at hc
      · obtain ⟨_, r2, _⟩ := rBody_facts size fs i hev (by omega)
        unfold isExtra at hc
        simp only [Bool.and_eq_true, beq_iff_eq] at hc
        have := hc.2
        have hb := rF_body size fs i
        rw [hb, r2] at this
        subst this
        exact ⟨rfl, hi⟩
    · unfold isExtra at hc
      simp only [Bool.and_eq_true, decide_eq_true_eq] at hc
      omega
  by_cases hm : j < extra ∧ rFound size fs j ∈ l
  · obtain ⟨r1, r2, r3⟩ := rBody_facts size fs j hev (by omega)
    refine .inl ⟨?_, hm⟩
    unfold exL
    have hb := rF_body size fs j
    rw [find_only (isExtra (setL size fs) size j) (rFound size fs j) l (fun g hgl hc => (honly g hgl hc).1) hm.2 (by
      unfold isExtra
      rw [hb, r2, r1]
      have e4 := rF_set size fs j
      have e5 : (rFound size fs j).kind = 82 := rfl
      rw [e4, e5]
      generalize setL size fs = z
      simp), Option.map_some, hb, r3]
  · refine .inr ⟨?_, fun hj hr => hm ⟨hj, hr⟩⟩
    unfold exL
    have : l.find? (isExtra (setL size fs) size j) = none := by
      rw [List.find?_eq_none]
      intro g hgl hc
      obtain ⟨rfl, hj⟩ := honly g hgl hc
      exact hm ⟨hj, hgl⟩
    rw [this]
    rfl
theorem descs_names {size : Nat} {fs : List FileL} (hg : goodSet fs size = true) : twiceL (namesL (fs.map (descOf size))) = false := by
  obtain ⟨_, _, _, _, _, hn⟩ := set_file hg
  unfold twiceL
  rw [List.any_eq_false]
  intro i hi
  have hi' : i < fs.length := by simpa [namesL] using hi
  unfold dupAt
  have e : (namesL (fs.map (descOf size)))[i]? = some (fs[i].1, []) := by
    unfold namesL
    rw [List.map_map, List.getElem?_map, List.getElem?_eq_getElem hi']
    rfl
  rw [e]
  have := hn i hi'
  unfold hasNameL at this ⊢
  rw [List.any_eq_false] at this
  simp only
  intro hc
  rw [List.any_eq_true] at hc
  obtain ⟨x, hx, hx2⟩ := hc
  unfold namesL at hx
  rw [List.map_map, ← List.map_take, List.mem_map] at hx
  obtain ⟨y, hy, rfl⟩ := hx
  exact this y hy hx2
theorem descs_sum {size : Nat} (h0 : 0 < size) (fs : List FileL) : hashSum (fs.map (descOf size)) = countL fs size := by
  unfold hashSum countL
  induction fs with
  | nil => rfl
  | cons f r ih =>
    rw [List.map_cons, List.flatMap_cons, List.length_append, ih, List.map_cons, List.sum_cons]
    congr 1
    unfold descOf
    rw [List.length_map, (cutL_len f.2 size h0).1]
/-- what is read out of what is left of a set -/
theorem read_left {size : Nat} {fs : List FileL} {extra : Nat} {l : List FoundL} (hs : sliceSize (size : Int) = true) (h0 : 0 < size) (h32 : size ≤ 32) (hg : goodSet fs size = true) (hL : LeftOf size fs extra l) (hm : mFound size fs ∈ l) (hf : ∀ i, i < fs.length → fFound size fs i ∈ l) :
    readL l = .inl ⟨size, fs.map (descOf size), exsL l (mFound size fs)⟩ := by
  obtain ⟨_, h1, h6, c1, c2, _⟩ := set_file hg
  obtain ⟨p1, p2, _, _⟩ := main_parts (size := size) (fs := fs) h32 h6
  unfold readL
  rw [left_chief hs h32 hg hL hm]
  simp only
  have hd : descsN l (mFound size fs) (chiefN (mFound size fs)) = fs.map (descOf size) := by
    unfold descsN
    rw [p2]
    refine List.ext_getElem (by simp) (fun k h1 h2 => ?_)
    simp only [List.length_map] at h2
    simp only [List.getElem_map, List.getElem_range]
    rw [left_desc h0 h32 hg hL h2 (hf k h2)]
    rfl
  have ha : allDesc l (mFound size fs) (chiefN (mFound size fs)) = true := by
    unfold allDesc
    rw [p2, List.all_eq_true]
    intro i hi
    rw [left_desc h0 h32 hg hL (List.mem_range.1 hi) (hf i (List.mem_range.1 hi))]
    rfl
  have hi : isList l (mFound size fs) = true := by
    unfold isList
    rw [hd, ha, descs_names hg, descs_sum h0, decide_eq_true c1, decide_eq_true c2]
    rfl
  rw [if_pos hi, hd, p1]
theorem read_noset {size : Nat} {fs : List FileL} {extra : Nat} {l : List FoundL} (hL : LeftOf size fs extra l) (hm : mFound size fs ∉ l) : readL l = .inr 3 := by
  unfold readL
  rw [no_chief hL hm]
theorem read_nolist {size : Nat} {fs : List FileL} {extra : Nat} {l : List FoundL} (hs : sliceSize (size : Int) = true) (h0 : 0 < size) (h32 : size ≤ 32) (hg : goodSet fs size = true) (hL : LeftOf size fs extra l) (hm : mFound size fs ∈ l) {i : Nat} (hi : i < fs.length) (hf : fFound size fs i ∉ l) : readL l = .inr 4 := by
  obtain ⟨_, h1, h6, c1, c2, _⟩ := set_file hg
  obtain ⟨p1, p2, _, _⟩ := main_parts (size := size) (fs := fs) h32 h6
  unfold readL
  rw [left_chief hs h32 hg hL hm]
  simp only
  have : isList l (mFound size fs) = false := by
    unfold isList
    rw [p2, allDesc_no hi (no_desc h0 h32 hg hL hi hf)]
    rfl
  rw [this]
  rfl
/-- the R packets that count, by their numbers -/
theorem left_exs {size : Nat} {fs : List FileL} {extra : Nat} {l : List FoundL} (h32 : size ≤ 32) (hev : size % 2 = 0) (hex : extra ≤ 20) (hg : goodSet fs size = true) (hL : LeftOf size fs extra l) (has : Nat → Bool) (hh : ∀ j, j < extra → (rFound size fs j ∈ l ↔ has j = true)) :
    exsL l (mFound size fs) = (List.range 20).map fun j => if j < extra ∧ has j = true then textL (extraL (rowsL size fs) (size / 2) j) else [] := by
  obtain ⟨_, h1, h6, _⟩ := set_file hg
  obtain ⟨p1, _, _, _⟩ := main_parts (size := size) (fs := fs) h32 h6
  unfold exsL
  refine List.map_congr_left (fun j _ => ?_)
  unfold exAt
  rw [p1]
  have hset := mF_set size fs
  rw [hset]
  rcases left_extra hev hex hL j with ⟨e, hj, hm⟩ | ⟨e, hn⟩
  · rw [e, if_pos ⟨hj, (hh j hj).1 hm⟩]
    rfl
  · rw [e, if_neg (fun hc => hn hc.1 ((hh j hc.1).2 hc.2))]
    rfl
theorem text_some {size : Nat} (h2 : 2 ≤ size) (rows : List (List Nat)) (j : Nat) : textL (extraL rows (size / 2) j) ≠ [] := by
  intro h
  have := textL_len (extraL rows (size / 2) j)
  rw [h, extraL_len] at this
  simp at this
  omega
/-- how many of them there are -/
theorem left_count {size : Nat} {fs : List FileL} {extra : Nat} {l : List FoundL} (h2 : 2 ≤ size) (h32 : size ≤ 32) (hev : size % 2 = 0) (hex : extra ≤ 20) (hg : goodSet fs size = true) (hL : LeftOf size fs extra l) (has : Nat → Bool) (hh : ∀ j, j < extra → (rFound size fs j ∈ l ↔ has j = true)) :
    exN (exsL l (mFound size fs)) = ((List.range extra).filter has).length := by
  rw [left_exs h32 hev hex hg hL has hh]
  unfold exN
  rw [List.filter_map, List.length_map]
  have e : (List.range 20).filter ((fun e => decide (e ≠ [])) ∘ fun j => if j < extra ∧ has j = true then textL (extraL (rowsL size fs) (size / 2) j) else []) = (List.range 20).filter fun j => decide (j < extra) && has j := by
    refine List.filter_congr (fun j _ => ?_)
    show decide ((if j < extra ∧ has j = true then textL (extraL (rowsL size fs) (size / 2) j) else []) ≠ []) = (decide (j < extra) && has j)
    by_cases c : j < extra ∧ has j = true
    · have := text_some h2 (rowsL size fs) j
      simp [c, this]
    · by_cases c1 : j < extra
      · have : has j = false := by cases hc : has j with | false => rfl | true => exact absurd ⟨c1, hc⟩ c
        simp [this]
      · simp [c1]
  rw [e]
  have hsplit : List.range 20 = List.range extra ++ (List.range (20 - extra)).map (extra + ·) := by
    rw [← List.range_add]
    congr 1
    omega
  rw [hsplit, List.filter_append, List.length_append]
  have z : ((List.range (20 - extra)).map (extra + ·)).filter (fun j => decide (j < extra) && has j) = [] := by
    rw [List.filter_eq_nil_iff]
    intro j hj
    rw [List.mem_map] at hj
    obtain ⟨k, _, rfl⟩ := hj
    rw [decide_eq_false (by omega : ¬ extra + k < extra)]
    simp
  rw [z, List.length_nil, Nat.add_zero]
  congr 1
  refine List.filter_congr (fun j hj => ?_)
  rw [decide_eq_true (List.mem_range.1 hj), Bool.true_and]
end Go.Proofs.YtonjphollmdicaaGreatDoor
namespace Go.Proofs.YtonjphollmdicaaGreatDoor
open Math

/-! what is lost comes back -/
theorem numAt_skip (a b : UInt8) (r : List UInt8) (i : Nat) : numAt (a :: b :: r) (i + 1) = numAt r i := by
  unfold numAt
  rw [show 2 * (i + 1) = 2 * i + 1 + 1 from by omega, List.getElem?_cons_succ, List.getElem?_cons_succ, show 2 * i + 1 + 1 + 1 = (2 * i + 1) + 1 + 1 from by omega, List.getElem?_cons_succ, List.getElem?_cons_succ]
theorem rowL_cons (a b : UInt8) (r : List UInt8) : rowL (a :: b :: r) = (a.toNat * 256 + b.toNat) :: rowL r := by
  unfold rowL
  rw [show (a :: b :: r).length / 2 = r.length / 2 + 1 from by simp only [List.length_cons]; omega, List.range_succ_eq_map, List.map_cons, List.map_map]
  refine List.cons_eq_cons.2 ⟨rfl, List.map_congr_left (fun i _ => numAt_skip a b r i)⟩
theorem bytes_pair (a b : UInt8) : numBytes (a.toNat * 256 + b.toNat) 2 = [a, b] := by
  have ha := a.toNat_lt
  have hb := b.toNat_lt
  have e1 : byteAt (a.toNat * 256 + b.toNat) 1 = a := UInt8.toNat_inj.1 (by rw [byteAt_nat]; simp; omega)
  have e0 : byteAt (a.toNat * 256 + b.toNat) 0 = b := UInt8.toNat_inj.1 (by rw [byteAt_nat]; simp)
  simp only [numBytes]
  rw [e1, e0]
theorem text_row : ∀ (n : Nat) (t : List UInt8), t.length = 2 * n → textL (rowL t) = t
  | 0, t, h => by
    have : t = [] := List.eq_nil_of_length_eq_zero (by omega)
    subst this
    rfl
  | n + 1, [], h => by simp at h
  | n + 1, [_], h => by simp at h; omega
  | n + 1, a :: b :: r, h => by
    rw [rowL_cons]
    unfold textL
    rw [List.flatMap_cons, bytes_pair]
    have := text_row n r (by simp at h; omega)
    unfold textL at this
    rw [this]
    rfl
theorem row_text : ∀ (r : List Nat), (∀ x ∈ r, x < 65536) → rowL (textL r) = r
  | [], _ => rfl
  | x :: r, h => by
    have hx := h x (List.mem_cons_self ..)
    have e : textL (x :: r) = byteAt x 1 :: byteAt x 0 :: textL r := rfl
    rw [e, rowL_cons, row_text r (fun y hy => h y (List.mem_cons_of_mem _ hy)), byteAt_nat, byteAt_nat]
    congr 1
    simp
    omega

def knows (K : Nat) (P : Nat → Option (List UInt8)) (es : List (Nat × List UInt8)) : List (Nat × List Nat) := (knownP K P).map (fun i => (i, rowL ((P i).getD []))) ++ (lentE K P es).map fun e => (K + e.1, rowL e.2)
theorem knows_pts (K : Nat) (P : Nat → Option (List UInt8)) (es : List (Nat × List UInt8)) : kPts K P es = (knows K P es).map (·.1) ∧ kRows K P es = (knows K P es).map (·.2) := by
  unfold kPts kRows knows
  constructor
  · rw [List.map_append, List.map_map, List.map_map]
    congr 1
    exact (List.map_id _).symm
  · rw [List.map_append, List.map_map, List.map_map]
    rfl
/-- a lost slice's row, made out of slices that are present and of packets' slices -/
theorem made_back (R : List (List Nat)) (wd : Nat) (hR : ∀ r ∈ R, r.length = wd ∧ ∀ x ∈ r, x < 65536) (hK : R.length ≤ 1000) (P : Nat → Option (List UInt8)) (es : List (Nat × List UInt8))
    (hP : ∀ i p, i < R.length → P i = some p → rowL p = R.getD i []) (hes : ∀ e ∈ es, e.1 < 1000 ∧ rowL e.2 = extraL R wd e.1) (hnd : (es.map (·.1)).Nodup) (hen : R.length - (knownP R.length P).length ≤ es.length) (i : Nat) (hi : i < R.length) :
    mixL (kRows R.length P es) (weightsL (kPts R.length P es) (scalesL (kPts R.length P es)) i) wd = R.getD i [] := by
  have hRi : R.getD i [] ∈ R := by rw [List.getD_eq_getElem?_getD, List.getElem?_eq_getElem hi]; exact List.getElem_mem hi
  obtain ⟨l1, l2⟩ := kPts_len R.length P es hen
  have hlt := kPts_lt R.length P es hK (fun e he => (hes e he).1)
  have hws := weights_lt (kPts R.length P es) (scalesL (kPts R.length P es)) i (scales_lt _)
  refine row_ext (by rw [mix_len, (hR _ hRi).1]) (mix_lt _ hws wd) (hR _ hRi).2 (fun p hp => ?_)
  rw [(hR _ hRi).1] at hp
  have hpl : (pointsL R.length).length = R.length := by simp [pointsL]
  have hpn : (pointsL R.length).Nodup := List.nodup_range
  have hplt := points_lt R.length hK
  have hpt : ∀ k, k < R.length → qt (pointsL R.length) k = F.ofNat k := by
    intro k hk
    unfold qt pointsL
    simp [hk]
  obtain ⟨cs, hcl, hcs⟩ := interp (pointsL R.length) hpn hplt (fun k => F.ofNat ((R.getD k []).getD p 0))
  rw [hpl] at hcl hcs
  have hex : ∀ j, j < 1000 → F.ofNat ((extraL R wd j).getD p 0) = ev cs (F.ofNat (R.length + j)) := by
    intro j hj
    unfold extraL
    exact curve_at (pointsL R.length) R wd (R.length + j) p hpn hplt (by omega) hpl.symm (fun r hr => (hR r hr).2) hp cs (by rw [hpl]; exact hcl) (fun k hk => hcs k (by rw [hpl] at hk; exact hk))
  have hall : ∀ x ∈ knows R.length P es, ev cs (F.ofNat x.1) = F.ofNat (x.2.getD p 0) := by
    intro x hx
    unfold knows at hx
    rw [List.mem_append, List.mem_map, List.mem_map] at hx
    rcases hx with ⟨k, hk, rfl⟩ | ⟨e, he, rfl⟩
    · unfold knownP at hk
      rw [List.mem_filter, List.mem_range] at hk
      cases hp2 : P k with
      | none => rw [hp2] at hk; simp at hk
      | some q =>
        simp only [Option.getD_some]
        rw [hP k q hk.1 hp2, ← hpt k hk.1]
        exact hcs k hk.1
    · have := hes e (List.mem_of_mem_take he)
      simp only
      rw [this.2, hex e.1 this.1]
  obtain ⟨q1, q2⟩ := knows_pts R.length P es
  have hklen : (knows R.length P es).length = R.length := by have := congrArg List.length q1; rw [List.length_map] at this; omega
  rw [curve_at (kPts R.length P es) (kRows R.length P es) wd i p (kPts_nodup _ _ _ hnd) hlt (by omega) (by rw [l1, l2]) (fun r hr x hx => by
      rw [q2] at hr
      obtain ⟨y, hy, rfl⟩ := List.mem_map.1 hr
      unfold knows at hy
      rw [List.mem_append, List.mem_map, List.mem_map] at hy
      rcases hy with ⟨k, _, rfl⟩ | ⟨e, _, rfl⟩ <;>
      · simp only at hx
        unfold rowL at hx
        obtain ⟨m, _, rfl⟩ := List.mem_map.1 hx
        exact numAt_lt _ _) hp cs (by rw [l1]; exact hcl) (fun k hk => ?_)]
  · rw [← hpt i hi]
    exact hcs i hi
  · have hk' : k < (knows R.length P es).length := by rw [hklen, ← l1]; exact hk
    have := hall _ (List.getElem_mem hk')
    unfold qt
    rw [q1, q2]
    simp only [List.getD_eq_getElem?_getD, List.getElem?_map, List.getElem?_eq_getElem hk', Option.map_some, Option.getD_some]
    simp only [List.getD_eq_getElem?_getD] at this
    exact this
end Go.Proofs.YtonjphollmdicaaGreatDoor
