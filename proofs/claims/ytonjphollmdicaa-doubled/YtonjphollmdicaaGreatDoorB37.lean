import Derived.Test.YtonjphollmdicaaGreatDoorB34
import Derived.Test.YtonjphollmdicaaGreatDoorB36
namespace Go.Proofs.YtonjphollmdicaaGreatDoor

/-! packets twice, in another order, in one volume; some that are gone -/
theorem find_all {size : Nat} {fs : List FileL} {extra : Nat} (h0 : 0 < size) (h32 : size ≤ 32) (hg : goodSet fs size = true) : ∀ gs : List FoundL, (∀ g ∈ gs, g ∈ madeFound size fs extra) → findV (gs.map sealF).flatten = gs
  | [], _ => findV_nil
  | g :: r, h => by
    rw [List.map_cons, List.flatten_cons, made_find h0 h32 hg (h g (List.mem_cons_self ..)), find_all h0 h32 hg r (fun x hx => h x (List.mem_cons_of_mem _ hx))]
theorem handed_ok {handed : List FileL} {vs : List (List UInt8)} (hh : HandF handed) (hn : vs.length ≤ 40) (hv : ∀ t ∈ vs, t.length ≤ 4000) : handedL handed vs = true := by
  unfold handedL
  simp only [Bool.and_eq_true, decide_eq_true_eq, List.all_eq_true]
  exact ⟨⟨⟨hh.1, hn⟩, fun f hf => (hh.2 f hf).2⟩, hv⟩
theorem find_mem {vs : List (List UInt8)} {g : FoundL} : g ∈ findL vs ↔ ∃ t ∈ vs, g ∈ findV t := by unfold findL; exact List.mem_flatMap
theorem packet_found {size : Nat} {fs : List FileL} {extra : Nat} (h0 : 0 < size) (h32 : size ≤ 32) (hg : goodSet fs size = true) {g : FoundL} (h : g ∈ madeFound size fs extra) : findV (sealF g) = [g] := by
  have := made_find h0 h32 hg h []
  rwa [List.append_nil, findV_nil] at this
/-- the same volumes but for their order, some twice, and one that holds all -/
theorem dbl_looked {size : Nat} {fs : List FileL} {extra : Nat} {handed : List FileL} (hs : sliceSize (size : Int) = true) (h2 : 2 ≤ size) (h32 : size ≤ 32) (hev : size % 2 = 0) (hex : extra ≤ 20) (hg : goodSet fs size = true) (hh : HandF handed) : ∀ v : List (List UInt8), v.length ≤ 40 → (∀ t ∈ v, t ∈ packetsL size fs extra ∨ (t = (packetsL size fs extra).flatten ∧ t.length ≤ 4000)) → (∀ t ∈ packetsL size fs extra, t ∈ v) → lookedL handed v = .inl (leftOf handed ⟨size, fs.map (descOf size), (List.range 20).map fun j => if j < extra ∧ (fun _ => true) j = true then textL (extraL (rowsL size fs) (size / 2) j) else []⟩) := by
  have h0 : 0 < size := by omega
  have hsh := packets_short (extra := extra) h0 h32 hg
  obtain ⟨_, _, h6, _⟩ := set_file hg
  intro v hn hin hall
  have hLf : LeftOf size fs extra (findL v) := by
    intro g hgm
    obtain ⟨t, ht, hgt⟩ := find_mem.1 hgm
    rcases hin t ht with h | ⟨rfl, _⟩
    · rw [packets_map] at h
      obtain ⟨x, hx, rfl⟩ := List.mem_map.1 h
      rw [packet_found h0 h32 hg hx, List.mem_singleton] at hgt
      rw [hgt]
      exact .inl hx
    · rw [packets_map, find_all h0 h32 hg _ (fun x hx => hx)] at hgt
      exact .inl hgt
  have hmm : ∀ g ∈ madeFound size fs extra, g ∈ findL v := by
    intro g hgm
    refine find_mem.2 ⟨sealF g, hall _ (by rw [packets_map]; exact List.mem_map.2 ⟨g, hgm, rfl⟩), ?_⟩
    rw [packet_found h0 h32 hg hgm]
    exact List.mem_singleton.2 rfl
  have hhd := handed_ok (vs := v) hh hn (fun t ht => by
    rcases hin t ht with h | ⟨_, h⟩
    · exact hsh t h
    · exact h)
  rw [looked_left hs h0 h32 hg hLf (hmm _ (m_made _ _ _)) (fun i hi => hmm _ (f_made _ _ _ hi)) hhd, left_exs h32 hev hex hg hLf (fun _ => true) (fun j hj => by simp only [iff_true]; exact hmm _ (r_made _ _ _ hj))]
theorem double_eq {size : Nat} {fs : List FileL} {extra : Nat} {handed : List FileL} {v : List (List UInt8)} (hs : sliceSize (size : Int) = true) (h2 : 2 ≤ size) (h32 : size ≤ 32) (hev : size % 2 = 0) (hex : extra ≤ 20) (hg : goodSet fs size = true) (hh : HandF handed) (hn : v.length ≤ 40)
    (hin : ∀ t ∈ v, t ∈ packetsL size fs extra ∨ (t = (packetsL size fs extra).flatten ∧ t.length ≤ 4000)) (hall : ∀ t ∈ packetsL size fs extra, t ∈ v) : repairL handed v = repairL handed (packetsL size fs extra) := by
  have h0 : 0 < size := by omega
  obtain ⟨_, _, h6, _⟩ := set_file hg
  have key := dbl_looked (handed := handed) hs h2 h32 hev hex hg hh
  unfold repairL
  rw [key v hn hin hall, key (packetsL size fs extra) (by rw [packets_length]; omega) (fun t ht => .inl ht) (fun t ht => ht)]
theorem joinD_len : ∀ (ds : List DescL) (s : List (List UInt8)), (joinL ds s).length = ds.length
  | [], _ => rfl
  | d :: r, s => by
    unfold joinL
    rw [List.length_cons, List.length_cons, joinD_len r]
theorem dbl_len {size : Nat} {fs : List FileL} {extra : Nat} {handed : List FileL} (hs : sliceSize (size : Int) = true) (h2 : 2 ≤ size) (h32 : size ≤ 32) (hev : size % 2 = 0) (hex : extra ≤ 20) (hg : goodSet fs size = true) (hh : HandF handed) (fl : List FileL) (h : repairL handed (packetsL size fs extra) = .inl fl) : fl.length = fs.length := by
  obtain ⟨_, _, h6, _⟩ := set_file hg
  have key := dbl_looked (handed := handed) (extra := extra) hs h2 h32 hev hex hg hh
  unfold repairL at h
  rw [key (packetsL size fs extra) (by rw [packets_length]; omega) (fun t ht => .inl ht) (fun t ht => ht)] at h
  dsimp only at h
  split at h
  · cases h
  · split at h
    · cases h
      unfold madeL leftOf
      rw [joinD_len, List.length_map]
    · cases h
theorem look_err {handed : List FileL} {vs : List (List UInt8)} {n : Nat} (hd : handedL handed vs = true) (h : readL (findL vs) = .inr n) : lookP handed vs = .inr n := by
  rw [lookP_eq]
  unfold lookedL
  rw [if_pos hd, h]
theorem repair_err {handed : List FileL} {vs : List (List UInt8)} {n : Nat} (hd : handedL handed vs = true) (h : readL (findL vs) = .inr n) : repairL handed vs = .inr n := by
  unfold repairL lookedL
  rw [if_pos hd, h]
theorem found_of {size : Nat} {fs : List FileL} {extra : Nat} (h0 : 0 < size) (h32 : size ≤ 32) (hg : goodSet fs size = true) : ∀ gs : List FoundL, (∀ g ∈ gs, g ∈ madeFound size fs extra) → findL (gs.map sealF) = gs
  | [], _ => rfl
  | g :: r, h => by
    have ih := found_of h0 h32 hg r (fun x hx => h x (List.mem_cons_of_mem _ hx))
    unfold findL at ih ⊢
    rw [List.map_cons, List.flatMap_cons, packet_found h0 h32 hg (h g (List.mem_cons_self ..)), ih]
    rfl
/-- without the first packet -/
theorem look_nom {size : Nat} {fs : List FileL} {extra : Nat} {handed : List FileL} (h0 : 0 < size) (h32 : size ≤ 32) (hex : extra ≤ 20) (hg : goodSet fs size = true) (hh : HandF handed) : lookP handed ((packetsL size fs extra).drop 1) = .inr 3 := by
  obtain ⟨_, _, h6, _⟩ := set_file hg
  have hsh := packets_short (extra := extra) h0 h32 hg
  have hin : ∀ g ∈ (madeFound size fs extra).drop 1, g ∈ madeFound size fs extra := fun g h => List.mem_of_mem_drop h
  refine look_err (handed_ok hh (by rw [List.length_drop, packets_length]; omega) (fun t ht => hsh t (List.mem_of_mem_drop ht))) ?_
  rw [packets_map, ← List.map_drop, found_of h0 h32 hg _ hin]
  refine read_noset (extra := extra) (fun g hgm => .inl (hin g hgm)) ?_
  intro hm
  unfold madeFound at hm
  rw [List.drop_one, List.tail_cons, List.mem_append, List.mem_map, List.mem_map] at hm
  rcases hm with ⟨i, _, e⟩ | ⟨j, _, e⟩
  · exact absurd (congrArg FoundL.kind e) (by simp [fFound, mFound])
  · exact absurd (congrArg FoundL.kind e) (by simp [rFound, mFound])
/-- without one that describes a file -/
theorem look_nof {size : Nat} {fs : List FileL} {extra i : Nat} {handed : List FileL} (hs : sliceSize (size : Int) = true) (h0 : 0 < size) (h32 : size ≤ 32) (hex : extra ≤ 20) (hg : goodSet fs size = true) (hh : HandF handed) (hi : i < fs.length) : lookP handed ((packetsL size fs extra).take (1 + i) ++ (packetsL size fs extra).drop (1 + i + 1)) = .inr 4 := by
  obtain ⟨hff, _, h6, _⟩ := set_file hg
  have hsh := packets_short (extra := extra) h0 h32 hg
  have hin : ∀ g ∈ (madeFound size fs extra).take (1 + i) ++ (madeFound size fs extra).drop (1 + i + 1), g ∈ madeFound size fs extra := fun g h => by
    rcases List.mem_append.1 h with h | h
    · exact List.mem_of_mem_take h
    · exact List.mem_of_mem_drop h
  have hpl := packets_length size fs extra
  refine look_err (handed_ok hh (by rw [List.length_append, List.length_take, List.length_drop]; omega) (fun t ht => by
    rcases List.mem_append.1 ht with h | h
    · exact hsh t (List.mem_of_mem_take h)
    · exact hsh t (List.mem_of_mem_drop h))) ?_
  rw [packets_map, ← List.map_take, ← List.map_drop, ← List.map_append, found_of h0 h32 hg _ hin]
  refine read_nolist (extra := extra) hs h0 h32 hg (fun g hgm => .inl (hin g hgm)) ?_ hi ?_
  · refine List.mem_append_left _ ?_
    unfold madeFound
    rw [Nat.add_comm, List.take_succ_cons]
    exact List.mem_cons_self ..
  · intro hm
    have hml := made_len size fs extra
    obtain ⟨q, hq, e⟩ : ∃ q, q ≠ 1 + i ∧ (madeFound size fs extra)[q]? = some (fFound size fs i) := by
      rcases List.mem_append.1 hm with h | h
      · obtain ⟨q, hq, e⟩ := List.mem_iff_getElem.1 h
        rw [List.length_take] at hq
        rw [List.getElem_take] at e
        exact ⟨q, by omega, List.getElem?_eq_some_iff.2 ⟨by omega, e⟩⟩
      · obtain ⟨q, hq, e⟩ := List.mem_iff_getElem.1 h
        rw [List.length_drop] at hq
        rw [List.getElem_drop] at e
        exact ⟨1 + i + 1 + q, by omega, List.getElem?_eq_some_iff.2 ⟨by omega, e⟩⟩
    have hql : q < 1 + fs.length + extra := by rw [← hml]; exact (List.getElem?_eq_some_iff.1 e).1
    by_cases c0 : q = 0
    · subst c0
      unfold madeFound at e
      rw [List.getElem?_cons_zero] at e
      exact absurd (congrArg FoundL.kind (Option.some.inj e)) (by simp [fFound, mFound])
    · obtain ⟨m, rfl⟩ : ∃ m, q = m + 1 := ⟨q - 1, by omega⟩
      by_cases c1 : m < fs.length
      · rw [made_fat size fs extra m c1] at e
        have e2 := congrArg FoundL.body (Option.some.inj e)
        rw [fF_body, fF_body, body_at m c1, body_at i hi] at e2
        have a1 := hff _ (List.getElem_mem c1)
        have a2 := hff _ (List.getElem_mem hi)
        have n1 := (form_made m size fs[m].1 fs[m].2 a1.1 a1.2.1 a1.2.2 h0).2.1
        have n2 := (form_made i size fs[i].1 fs[i].2 a2.1 a2.2.1 a2.2.2 h0).2.1
        rw [e2, n2] at n1
        have := congrArg UInt8.toNat n1
        rw [byte_small (by omega), byte_small (by omega)] at this
        omega
      · have e0 := made_rat size fs extra (m - fs.length) (by omega)
        rw [show 1 + fs.length + (m - fs.length) = m + 1 from by omega] at e0
        rw [e0] at e
        exact absurd (congrArg FoundL.kind (Option.some.inj e)) (by simp [fFound, rFound])
theorem repair_none {handed : List FileL} (hh : HandF handed) : repairL handed [] = .inr 3 := repair_err (handed_ok hh (by simp) (by simp)) rfl
end Go.Proofs.YtonjphollmdicaaGreatDoor
namespace Go.Proofs.YtonjphollmdicaaGreatDoor
open Go.ChangeShapes Go.WideShapes Go.ChangeAt Go.RowKit

theorem kslice_in (len size k i : Nat) (h0 : 0 < size) (hi : i = k * size) : (i < len → k < slicesOfN len size) ∧ (¬ i < len → k ≤ slicesOfN len size → k = slicesOfN len size) := by
  have h1 := slices_ge len size h0
  have h2 := slices_lt len size
  refine ⟨fun h => ?_, fun h hk => ?_⟩
  · rcases Nat.lt_or_ge k (slicesOfN len size) with h' | h'
    · exact h'
    · have := Nat.mul_le_mul_right size h'
      omega
  · rcases Nat.lt_or_ge k (slicesOfN len size) with h' | h'
    · have := Nat.mul_le_mul_right size (show k + 1 ≤ slicesOfN len size from h')
      rw [Nat.succ_mul] at this
      omega
    · omega
theorem pad_end (len size z : Nat) (h0 : 0 < size) (hz : len + z ≤ slicesOfN len size * size) (h : (len + z) % size = 0) : len + z = slicesOfN len size * size := by
  have h2 := slices_lt len size
  have e := Nat.div_add_mod (len + z) size
  rw [h, Nat.add_zero, Nat.mul_comm] at e
  rcases Nat.lt_or_ge ((len + z) / size) (slicesOfN len size) with h' | h'
  · have := Nat.mul_le_mul_right size (show (len + z) / size + 1 ≤ slicesOfN len size from h')
    rw [Nat.succ_mul] at this
    omega
  · have := Nat.mul_le_mul_right size h'
    omega
theorem slicesL_take (size : Nat) (fs : List FileL) (j : Nat) (h : j < fs.length) : slicesL size (fs.take (j + 1)) = slicesL size (fs.take j) ++ cutL fs[j].2 size := by
  unfold slicesL
  rw [take_snoc fs j h, List.flatMap_append]
  simp
theorem slices_all_le (size : Nat) (h0 : 0 < size) : ∀ (fs : List FileL), (∀ f ∈ fs, f.2.length ≤ 400) → (slicesL size fs).length ≤ 400 * fs.length
  | [], _ => by simp [slicesL]
  | f :: r, h => by
    have h1 := slices_all_le size h0 r (fun g hg => h g (List.mem_cons_of_mem _ hg))
    have h2 := h f (List.mem_cons_self ..)
    have h3 := slicesOfN_le f.2.length size h0
    unfold slicesL at h1 ⊢
    rw [List.flatMap_cons, List.length_append, (cutL_len f.2 size h0).1, List.length_cons]
    omega

set_option maxRecDepth 100000 in
set_option maxHeartbeats 2000000 in
theorem kcut_walk (fs : List FileL) (size : Nat) (a : Option Addr) (cap : Nat) (h0 : 0 < size) (h1 : size ≤ 32) (hn : fs.length ≤ 6) (hd : ∀ f ∈ fs, f.2.length ≤ 400) (w : World) (hrd : Rd w a (filesV fs)) :
    Calls Tryz.prog 25 #[.slice a fs.length cap, .int .i64 (size : Int)] w fun e w' => ∃ v, e = .returned v ∧ w'.ownsRow w.heap.size 9 1 v (slicesL size fs).length (strV (slicesL size fs)) ∧ Below w.heap.size w w' := by
  obtain ⟨i0, hi, hz0, hz1, hz2⟩ := info_parts Tryz.infoS
  have HRD := hid_of hrd
  have HD := hid_of hd
  clear hrd hd
  go_enter Tryz.func25, Tryz.ntmps25
  go_wp2_with fail
  go_loopw [5, 6, 7, 8] (fun l i _ _ wr => ∃ j : Nat, j ≤ fs.length ∧ i = .int .i64 (j : Int) ∧ wr.ownsRow w.heap.size 9 1 l (slicesL size (fs.take j)).length (strV (slicesL size (fs.take j))) ∧ Below w.heap.size w wr)
    (fun _ i _ _ _ => fs.length - (intOf i).toNat)
  case atStart => exact ⟨0, by omega, rfl, World.ownsRow_nil _ _ _ _, Below.refl _ _⟩
  case round =>
    obtain ⟨j, hj, rfl, hownr, hbl⟩ := hrel
    by_cases hlt : j < fs.length
    · obtain ⟨b, off, rfl, hc1, hc2⟩ := fileCells HRD.out (Nat.le_refl _) hbl j hlt
      have hdl := HD.out _ (List.getElem_mem hlt)
      have hsl := slices_all_le size h0 (fs.take j) (fun f hf => HD.out f (List.mem_of_mem_take hf))
      rw [List.length_take, Nat.min_eq_left hj] at hsl
      have hst := slicesL_take size fs j hlt
      obtain ⟨data, hdata⟩ : ∃ x, x = fs[j].2 := ⟨_, rfl⟩
      rw [← hdata] at hc2 hdl hst
      obtain ⟨S, hS⟩ : ∃ x, x = slicesL size (fs.take j) := ⟨_, rfl⟩
      rw [← hS] at hownr hsl hst
      have HST := hid_of hst
      have HB := hid_of hbl
      have HO := hid_of hownr
      have hnl := slicesOfN_le data.length size h0
      have hge := slices_ge data.length size h0
      have hsm := slices_lt data.length size
      have HPE := hid_of (fun z => pad_end data.length size z h0)
      have HSI := hid_of (fun k i hi => kslice_in (slicesOfN data.length size * size) size k i h0 hi)
      have hcl := (cutL_len data size h0).1
      have HCL := hid_of hcl
      clear hst hbl hownr hS hdata hcl
      obtain ⟨N, hN⟩ : ∃ x, x = slicesOfN data.length size * size := ⟨_, rfl⟩
      rw [← hN] at hge hsm HPE HSI
      have HN := hid_of hN
      clear hN
      go_wp2_with fail
      go_loop [7] (fun d => ∃ z : Nat, data.length + z ≤ N ∧ d = .string (str (data ++ List.replicate z 0)))
        (fun d => N - (match d with | .string s => s.size | _ => 0))
      case atStart => exact ⟨0, by omega, by simp⟩
      case round =>
        obtain ⟨z, hz, rfl⟩ := hrel
        have hls : (str (data ++ List.replicate z 0)).size = data.length + z := by rw [str_size]; simp
        have hrem : ((data.length : Int) + (z : Int)) % (size : Int) = (((data.length + z) % size : Nat) : Int) := by
          rw [Int.natCast_emod, Int.natCast_add]
        have hPE := HPE.out z hz
        obtain ⟨d0, hd0⟩ : ∃ x, x = data ++ List.replicate z 0 := ⟨_, rfl⟩
        rw [← hd0] at hls ⊢
        have HD0 := hid_of hd0
        clear hd0
        by_cases hm : (data.length + z) % size = 0
        · have hm' : ((data.length : Int) + (z : Int)) % (size : Int) = 0 := by rw [hrem, hm]; rfl
          have hzN := hPE hm
          have hd0 : d0 = padL data size := by
            rw [HD0.out]
            unfold padL
            rw [← HN.out]
            congr 2
            omega
          have HD1 := hid_of hd0
          have hcm : ∀ k, k < slicesOfN data.length size → (str d0).extract (k * size) (k * size + size) = str (pieceL d0 size k) := by
            intro k _
            rw [str_extract, Nat.add_sub_cancel_left]
            rfl
          have HCM := hid_of hcm
          have hmN : (N : Int) % (size : Int) = 0 := by rw [← hzN]; simpa using hm'
          rw [hzN] at hls
          clear hrem hm hPE hd0 hcm hm' hz hzN HPE HD0
          go_wp2_with fail
          go_loopw [5, 8] (fun l k wr2 => ∃ q i' : Nat, q ≤ slicesOfN data.length size ∧ i' ≤ N ∧ Hid (i' = q * size) ∧ k = .int .i64 (i' : Int) ∧ wr2.ownsRow w.heap.size 9 1 l (S.length + q) (strV (S ++ (cutL data size).take q)) ∧ Below w.heap.size w wr2)
            (fun _ k _ => N - (intOf k).toNat)
          case atStart => exact ⟨0, 0, by omega, by omega, hid_of (by simp), rfl, by simpa using HO.out, HB.out⟩
          case round =>
            obtain ⟨q, i', hq, hi', hiq, rfl, hown2, hbl2⟩ := hrel
            have hsz := hbl2.size
            have HB2 := hid_of hbl2
            have HO2 := hid_of hown2
            clear hbl2 hown2
            by_cases hlt2 : i' < N
            · have hqn : q < slicesOfN data.length size := by
                rcases Nat.lt_or_ge q (slicesOfN data.length size) with h | h
                · exact h
                · have h2 : slicesOfN data.length size * size ≤ q * size := Nat.mul_le_mul_right _ h
                  rw [← hiq.out, ← HN.out] at h2
                  omega
              have hq1 : i' + size = (q + 1) * size := by rw [hiq.out, Nat.succ_mul]
              have hle : i' + size ≤ N := by
                have h2 : (q + 1) * size ≤ slicesOfN data.length size * size := Nat.mul_le_mul_right _ hqn
                rw [← hq1, ← HN.out] at h2
                exact h2
              have hex := HCM.out q hqn
              rw [← hiq.out] at hex
              have hnx : (cutL data size).take (q + 1) = (cutL data size).take q ++ [pieceL d0 size q] := by
                rw [take_snoc _ q (by rw [HCL.out]; exact hqn)]
                congr 2
                rw [HD1.out]
                simp [cutL]
              obtain ⟨p, hp⟩ : ∃ p, p = pieceL d0 size q := ⟨_, rfl⟩
              rw [← hp] at hex hnx
              have HNX := hid_of hnx
              have HQ1 := hid_of hq1
              clear hnx hp hq1
              go_wp2_with (at_builtin; refine wpList_append_own _ rfl (.tmp 34) (.tmp 41) 23 rfl w.heap.size 9 i0 (.string ByteArray.empty) 1 16 Tryz.underlying23 hi hz0 hz1 hz2 rfl (by decide) _ _ _ rfl (HO2.out.alloc _) ⟨wr.heap.size, 0, none⟩ 1 1 [.string (str p)] rfl rfl (cell_one_new _ _ _) ?d2 ?d3 ?d4 ?d5 ?_)
              case d2 => intro u hu; simp at hu; subst hu; rfl
              case d3 => unfold maxLen; omega
              case d4 => omega
              case d5 => simp; omega
              intro v2 w2 hown3 hg2 _
              have hbl3 := below_step HB2.out hsz HO2.out hg2
              have HO3 := hid_of hown3
              have HB3 := hid_of hbl3
              clear hown3 hbl3 hg2
              go_wp2_with fail
              refine ⟨⟨q + 1, i' + size, by omega, by omega, HQ1, by go_num, ?_, HB3.out⟩, by simp [intOf]; omega⟩
              rw [HNX.out, ← List.append_assoc, strV_append]
              exact HO3.out
            · have hqe : q = slicesOfN data.length size := by
                rcases Nat.lt_or_ge q (slicesOfN data.length size) with h | h
                · have h2 : (q + 1) * size ≤ slicesOfN data.length size * size := Nat.mul_le_mul_right _ h
                  rw [Nat.succ_mul, ← hiq.out, ← HN.out] at h2
                  omega
                · omega
              have hfin : wr.ownsRow w.heap.size 9 1 u5 (slicesL size (fs.take (j + 1))).length (strV (slicesL size (fs.take (j + 1)))) := by
                rw [HST.out, List.length_append, HCL.out, ← hqe]
                have := HO2.out
                rw [List.take_of_length_le (by rw [HCL.out, hqe]; exact Nat.le_refl _)] at this
                exact this
              have HF := hid_of hfin
              clear hfin hqe
              go_wp2_with fail
              go_roundw
              case rel => exact ⟨j + 1, by omega, by go_num, HF.out, HB2.out⟩
              case measure => simp [intOf]; omega
        · have hm' : ((data.length : Int) + (z : Int)) % (size : Int) ≠ 0 := by rw [hrem]; omega
          have hz1 : data.length + z + 1 ≤ N := by
            rcases Nat.lt_or_ge (data.length + z) N with h | h
            · omega
            · have e : data.length + z = slicesOfN data.length size * size := by rw [← HN.out]; omega
              rw [e, Nat.mul_mod_left] at hm
              exact absurd rfl hm
          have hcat : str d0 ++ (ByteArray.mk #[0]) = str (data ++ List.replicate (z + 1) 0) := by
            have : str d0 ++ str [0] = str (d0 ++ [0]) := by rw [str_add, str_data]
            rw [List.replicate_succ', ← List.append_assoc, ← HD0.out]
            exact this
          clear hrem hm hPE
          go_wp2_with fail
          refine ⟨⟨z + 1, by omega, rfl⟩, ?_⟩
          show N - (str (data ++ List.replicate (z + 1) 0)).size < N - (str d0).size
          rw [hls, str_size, List.length_append, List.length_replicate]
          omega
    · obtain rfl : j = fs.length := by omega
      rw [List.take_length] at hownr
      have HO := hid_of hownr
      clear hownr
      go_wp2_with fail
      go_ret
      exact ⟨_, rfl, HO.out, hbl⟩
end Go.Proofs.YtonjphollmdicaaGreatDoor
namespace Go.Proofs.YtonjphollmdicaaGreatDoor
open Go.ChangeShapes Go.WideShapes Go.ChangeAt Go.RowKit

set_option maxRecDepth 100000 in
set_option maxHeartbeats 2000000 in
theorem klooked_walk (w : World) (hK : Kinds w) :
    Calls Tryz.prog 51 #[] w fun e w' => e = .returned (.bool true) ∧ Below w.heap.size w w' := by
  have h0 := hK.lt
  have HK := hid_of hK
  clear hK
  go_enter Tryz.func51, Tryz.ntmps51
  go_wp2_with fail
  refine (kcreated_full w).mono ?_
  rintro e w1 ⟨ad, c, rfl, hrd, hb1⟩
  have hrf : Rd (w1.alloc (.cells #[.string ⟨#[98]⟩, .string ⟨#[9, 0, 2, 9]⟩] 62)) (some ⟨w1.heap.size, 0, none⟩) (filesV exB) := by
    intro k u hk
    refine ⟨w1.heap.size, 0, rfl, ?_⟩
    rcases k with _ | _ | k
    · simp [filesV, exB] at hk; subst hk; simp [str]
    · simp [filesV, exB] at hk; subst hk; simp [str]
    · simp [filesV, exB] at hk
  have hba := hb1.alloc hb1.size (Obj.cells #[.string ⟨#[98]⟩, .string ⟨#[9, 0, 2, 9]⟩] 62)
  have hLk := Look_walk exB (packetsL 2 exFs 1) (some ⟨w1.heap.size, 0, none⟩) (some ad) 1 c (w1.alloc (.cells #[.string ⟨#[98]⟩, .string ⟨#[9, 0, 2, 9]⟩] 62)) (HK.out.later hba h0) hrf (hrd.later (Nat.le_refl _) ((Below.refl _ _).alloc (Nat.le_refl _) _))
  rw [ex_look, packets_length] at hLk
  have HL := hid_of hLk
  have HBA := hid_of hba
  have hnil := fun W => Lib.run_eql_slice_nil (P := Tryz.prog) W 23 9 (some ad) 3 c 0 0 Tryz.underlying23
  clear hLk hba hrf hrd hb1
  go_wp2_with fail
  refine HL.out.mono ?_
  rintro e w2 ⟨hb2, v, rfl, sv, pv, rfl, hsv, hpv⟩
  have hbw : Below w.heap.size w w2 := HBA.out.trans (hb2.mono HBA.out.size)
  obtain ⟨sa, sc, rfl, hsr⟩ := row_rd hsv
  obtain ⟨pa, pc, rfl, hpr⟩ := row_rd hpv
  obtain ⟨sb, so, rfl, s0⟩ := hsr 0 _ rfl
  obtain ⟨pb, po, rfl, p0⟩ := hpr 0 _ rfl
  obtain ⟨pb', po', e, p1⟩ := hpr 1 _ rfl
  cases e
  have HBW := hid_of hbw
  clear hsv hpv hsr hpr hbw hb2 HL HBA
  rw [Nat.add_zero] at s0 p0
  have l1 := World.block_lt_of_cell? w2 _ s0
  have l2 := World.block_lt_of_cell? w2 _ p0
  have hx : ∀ (o : Obj) (x : Addr), x.block < w2.heap.size → (w2.alloc o).cell? x = w2.cell? x := fun o x hx => ((Below.refl w2.heap.size w2).alloc (Nat.le_refl _) o).cell hx
  have q0 := fun o => (hx o _ l1).trans s0
  have q1 := fun o => (hx o _ l2).trans p0
  have q2 := fun o => (hx o ⟨pb, po + 1, none⟩ l2).trans p1
  clear hx l1 l2 s0 p0 p1
  go_wp2_with fail
  go_ret
  exact ⟨rfl, HBW.out.alloc HBW.out.size _⟩
end Go.Proofs.YtonjphollmdicaaGreatDoor
