import Derived.Test.YtonjphollmdicaaGreatDoorB34
import Derived.Test.YtonjphollmdicaaGreatDoorB36
namespace Go.Proofs.YtonjphollmdicaaGreatDoor
open Go.ChangeShapes Go.WideShapes Go.ChangeAt Go.RowKit

theorem kslice_in (len size k i : Nat) (h0 : 0 < size) (hi : i = k * size) : (i < len → k < slicesOfN len size) ∧ (¬ i < len → k ≤ slicesOfN len size → k = slicesOfN len size) := by
  have h1 := slices_ge len size h0
  have h2 := slices_lt len size
  refine ⟨fun h => ?_, fun h hk => ?_⟩
  · rcases Nat.lt_or_ge k (slicesOfN len size) with h' | h'
    · exact h'
    · have := Nat.mul_le_mul_right size h'
      omega
  · rcases Nat.lt_or_ge k (slicesOfN len size) with h' | h'
    · have := Nat.mul_le_mul_right size (show k + 1 ≤ slicesOfN len size from h')
      rw [Nat.succ_mul] at this
      omega
    · omega
theorem pad_end (len size z : Nat) (h0 : 0 < size) (hz : len + z ≤ slicesOfN len size * size) (h : (len + z) % size = 0) : len + z = slicesOfN len size * size := by
  have h2 := slices_lt len size
  have e := Nat.div_add_mod (len + z) size
  rw [h, Nat.add_zero, Nat.mul_comm] at e
  rcases Nat.lt_or_ge ((len + z) / size) (slicesOfN len size) with h' | h'
  · have := Nat.mul_le_mul_right size (show (len + z) / size + 1 ≤ slicesOfN len size from h')
    rw [Nat.succ_mul] at this
    omega
  · have := Nat.mul_le_mul_right size h'
    omega
theorem slicesL_take (size : Nat) (fs : List FileL) (j : Nat) (h : j < fs.length) : slicesL size (fs.take (j + 1)) = slicesL size (fs.take j) ++ cutL fs[j].2 size := by
  unfold slicesL
  rw [take_snoc fs j h, List.flatMap_append]
  simp
theorem slices_all_le (size : Nat) (h0 : 0 < size) : ∀ (fs : List FileL), (∀ f ∈ fs, f.2.length ≤ 400) → (slicesL size fs).length ≤ 400 * fs.length
  | [], _ => by simp [slicesL]
  | f :: r, h => by
    have h1 := slices_all_le size h0 r (fun g hg => h g (List.mem_cons_of_mem _ hg))
    have h2 := h f (List.mem_cons_self ..)
    have h3 := slicesOfN_le f.2.length size h0
    unfold slicesL at h1 ⊢
    rw [List.flatMap_cons, List.length_append, (cutL_len f.2 size h0).1, List.length_cons]
    omega

set_option maxRecDepth 100000 in
set_option maxHeartbeats 2000000 in
theorem kcut_walk (fs : List FileL) (size : Nat) (a : Option Addr) (cap : Nat) (h0 : 0 < size) (h1 : size ≤ 32) (hn : fs.length ≤ 6) (hd : ∀ f ∈ fs, f.2.length ≤ 400) (w : World) (hrd : Rd w a (filesV fs)) :
    Calls Tryz.prog 25 #[.slice a fs.length cap, .int .i64 (size : Int)] w fun e w' => ∃ v, e = .returned v ∧ w'.ownsRow w.heap.size 9 1 v (slicesL size fs).length (strV (slicesL size fs)) ∧ Below w.heap.size w w' := by
  obtain ⟨i0, hi, hz0, hz1, hz2⟩ := info_parts Tryz.infoS
  have HRD := hid_of hrd
  have HD := hid_of hd
  clear hrd hd
  go_enter Tryz.func25, Tryz.ntmps25
  go_wp2_with fail
  go_loopw [5, 6, 7, 8] (fun l i _ _ wr => ∃ j : Nat, j ≤ fs.length ∧ i = .int .i64 (j : Int) ∧ wr.ownsRow w.heap.size 9 1 l (slicesL size (fs.take j)).length (strV (slicesL size (fs.take j))) ∧ Below w.heap.size w wr)
    (fun _ i _ _ _ => fs.length - (intOf i).toNat)
  case atStart => exact ⟨0, by omega, rfl, World.ownsRow_nil _ _ _ _, Below.refl _ _⟩
  case round =>
    obtain ⟨j, hj, rfl, hownr, hbl⟩ := hrel
    by_cases hlt : j < fs.length
    · obtain ⟨b, off, rfl, hc1, hc2⟩ := fileCells HRD.out (Nat.le_refl _) hbl j hlt
      have hdl := HD.out _ (List.getElem_mem hlt)
      have hsl := slices_all_le size h0 (fs.take j) (fun f hf => HD.out f (List.mem_of_mem_take hf))
      rw [List.length_take, Nat.min_eq_left hj] at hsl
      have hst := slicesL_take size fs j hlt
      obtain ⟨data, hdata⟩ : ∃ x, x = fs[j].2 := ⟨_, rfl⟩
      rw [← hdata] at hc2 hdl hst
      obtain ⟨S, hS⟩ : ∃ x, x = slicesL size (fs.take j) := ⟨_, rfl⟩
      rw [← hS] at hownr hsl hst
      have HST := hid_of hst
      have HB := hid_of hbl
      have HO := hid_of hownr
      have hnl := slicesOfN_le data.length size h0
      have hge := slices_ge data.length size h0
      have hsm := slices_lt data.length size
      have HPE := hid_of (fun z => pad_end data.length size z h0)
      have HSI := hid_of (fun k i hi => kslice_in (slicesOfN data.length size * size) size k i h0 hi)
      have hcl := (cutL_len data size h0).1
      have HCL := hid_of hcl
      clear hst hbl hownr hS hdata hcl
      obtain ⟨N, hN⟩ : ∃ x, x = slicesOfN data.length size * size := ⟨_, rfl⟩
      rw [← hN] at hge hsm HPE HSI
      have HN := hid_of hN
      clear hN
      go_wp2_with fail
      go_loop [7] (fun d => ∃ z : Nat, data.length + z ≤ N ∧ d = .string (str (data ++ List.replicate z 0)))
        (fun d => N - (match d with | .string s => s.size | _ => 0))
      case atStart => exact ⟨0, by omega, by simp⟩
      case round =>
        obtain ⟨z, hz, rfl⟩ := hrel
        have hls : (str (data ++ List.replicate z 0)).size = data.length + z := by rw [str_size]; simp
        have hrem : ((data.length : Int) + (z : Int)) % (size : Int) = (((data.length + z) % size : Nat) : Int) := by
          rw [Int.natCast_emod, Int.natCast_add]
        have hPE := HPE.out z hz
        obtain ⟨d0, hd0⟩ : ∃ x, x = data ++ List.replicate z 0 := ⟨_, rfl⟩
        rw [← hd0] at hls ⊢
        have HD0 := hid_of hd0
        clear hd0
        by_cases hm : (data.length + z) % size = 0
        · have hm' : ((data.length : Int) + (z : Int)) % (size : Int) = 0 := by rw [hrem, hm]; rfl
          have hzN := hPE hm
          have hd0 : d0 = padL data size := by
            rw [HD0.out]
            unfold padL
            rw [← HN.out]
            congr 2
            omega
          have HD1 := hid_of hd0
          have hcm : ∀ k, k < slicesOfN data.length size → (str d0).extract (k * size) (k * size + size) = str (pieceL d0 size k) := by
            intro k _
            rw [str_extract, Nat.add_sub_cancel_left]
            rfl
          have HCM := hid_of hcm
          have hmN : (N : Int) % (size : Int) = 0 := by rw [← hzN]; simpa using hm'
          rw [hzN] at hls
          clear hrem hm hPE hd0 hcm hm' hz hzN HPE HD0
          go_wp2_with fail
          go_loopw [5, 8] (fun l k wr2 => ∃ q i' : Nat, q ≤ slicesOfN data.length size ∧ i' ≤ N ∧ Hid (i' = q * size) ∧ k = .int .i64 (i' : Int) ∧ wr2.ownsRow w.heap.size 9 1 l (S.length + q) (strV (S ++ (cutL data size).take q)) ∧ Below w.heap.size w wr2)
            (fun _ k _ => N - (intOf k).toNat)
          case atStart => exact ⟨0, 0, by omega, by omega, hid_of (by simp), rfl, by simpa using HO.out, HB.out⟩
          case round =>
            obtain ⟨q, i', hq, hi', hiq, rfl, hown2, hbl2⟩ := hrel
            have hsz := hbl2.size
            have HB2 := hid_of hbl2
            have HO2 := hid_of hown2
            clear hbl2 hown2
            by_cases hlt2 : i' < N
            · have hqn : q < slicesOfN data.length size := by
                rcases Nat.lt_or_ge q (slicesOfN data.length size) with h | h
                · exact h
                · have h2 : slicesOfN data.length size * size ≤ q * size := Nat.mul_le_mul_right _ h
                  rw [← hiq.out, ← HN.out] at h2
                  omega
              have hq1 : i' + size = (q + 1) * size := by rw [hiq.out, Nat.succ_mul]
              have hle : i' + size ≤ N := by
                have h2 : (q + 1) * size ≤ slicesOfN data.length size * size := Nat.mul_le_mul_right _ hqn
                rw [← hq1, ← HN.out] at h2
                exact h2
              have hex := HCM.out q hqn
              rw [← hiq.out] at hex
              have hnx : (cutL data size).take (q + 1) = (cutL data size).take q ++ [pieceL d0 size q] := by
                rw [take_snoc _ q (by rw [HCL.out]; exact hqn)]
                congr 2
                rw [HD1.out]
                simp [cutL]
              obtain ⟨p, hp⟩ : ∃ p, p = pieceL d0 size q := ⟨_, rfl⟩
              rw [← hp] at hex hnx
              have HNX := hid_of hnx
              have HQ1 := hid_of hq1
              clear hnx hp hq1
              go_wp2_with (at_builtin; refine wpList_append_own _ rfl (.tmp 34) (.tmp 41) 23 rfl w.heap.size 9 i0 (.string ByteArray.empty) 1 16 Tryz.underlying23 hi hz0 hz1 hz2 rfl (by decide) _ _ _ rfl (HO2.out.alloc _) ⟨wr.heap.size, 0, none⟩ 1 1 [.string (str p)] rfl rfl (cell_one_new _ _ _) ?d2 ?d3 ?d4 ?d5 ?_)
              case d2 => intro u hu; simp at hu; subst hu; rfl
              case d3 => unfold maxLen; omega
              case d4 => omega
              case d5 => simp; omega
              intro v2 w2 hown3 hg2 _
              have hbl3 := below_step HB2.out hsz HO2.out hg2
              have HO3 := hid_of hown3
              have HB3 := hid_of hbl3
              clear hown3 hbl3 hg2
              go_wp2_with fail
              refine ⟨⟨q + 1, i' + size, by omega, by omega, HQ1, by go_num, ?_, HB3.out⟩, by simp [intOf]; omega⟩
              rw [HNX.out, ← List.append_assoc, strV_append]
              exact HO3.out
            · have hqe : q = slicesOfN data.length size := by
                rcases Nat.lt_or_ge q (slicesOfN data.length size) with h | h
                · have h2 : (q + 1) * size ≤ slicesOfN data.length size * size := Nat.mul_le_mul_right _ h
                  rw [Nat.succ_mul, ← hiq.out, ← HN.out] at h2
                  omega
                · omega
              have hfin : wr.ownsRow w.heap.size 9 1 u5 (slicesL size (fs.take (j + 1))).length (strV (slicesL size (fs.take (j + 1)))) := by
                rw [HST.out, List.length_append, HCL.out, ← hqe]
                have := HO2.out
                rw [List.take_of_length_le (by rw [HCL.out, hqe]; exact Nat.le_refl _)] at this
                exact this
              have HF := hid_of hfin
              clear hfin hqe
              go_wp2_with fail
              go_roundw
              case rel => exact ⟨j + 1, by omega, by go_num, HF.out, HB2.out⟩
              case measure => simp [intOf]; omega
        · have hm' : ((data.length : Int) + (z : Int)) % (size : Int) ≠ 0 := by rw [hrem]; omega
          have hz1 : data.length + z + 1 ≤ N := by
            rcases Nat.lt_or_ge (data.length + z) N with h | h
            · omega
            · have e : data.length + z = slicesOfN data.length size * size := by rw [← HN.out]; omega
              rw [e, Nat.mul_mod_left] at hm
              exact absurd rfl hm
          have hcat : str d0 ++ (ByteArray.mk #[0]) = str (data ++ List.replicate (z + 1) 0) := by
            have : str d0 ++ str [0] = str (d0 ++ [0]) := by rw [str_add, str_data]
            rw [List.replicate_succ', ← List.append_assoc, ← HD0.out]
            exact this
          clear hrem hm hPE
          go_wp2_with fail
          refine ⟨⟨z + 1, by omega, rfl⟩, ?_⟩
          show N - (str (data ++ List.replicate (z + 1) 0)).size < N - (str d0).size
          rw [hls, str_size, List.length_append, List.length_replicate]
          omega
    · obtain rfl : j = fs.length := by omega
      rw [List.take_length] at hownr
      have HO := hid_of hownr
      clear hownr
      go_wp2_with fail
      go_ret
      exact ⟨_, rfl, HO.out, hbl⟩
end Go.Proofs.YtonjphollmdicaaGreatDoor
namespace Go.Proofs.YtonjphollmdicaaGreatDoor
open Go.ChangeShapes Go.WideShapes Go.ChangeAt Go.RowKit

set_option maxRecDepth 100000 in
set_option maxHeartbeats 2000000 in
theorem klooked_walk (w : World) (hK : Kinds w) :
    Calls Tryz.prog 51 #[] w fun e w' => e = .returned (.bool true) ∧ Below w.heap.size w w' := by
  have h0 := hK.lt
  have HK := hid_of hK
  clear hK
  go_enter Tryz.func51, Tryz.ntmps51
  go_wp2_with fail
  refine (kcreated_full w).mono ?_
  rintro e w1 ⟨ad, c, rfl, hrd, hb1⟩
  have hrf : Rd (w1.alloc (.cells #[.string ⟨#[98]⟩, .string ⟨#[9, 0, 2, 9]⟩] 62)) (some ⟨w1.heap.size, 0, none⟩) (filesV exB) := by
    intro k u hk
    refine ⟨w1.heap.size, 0, rfl, ?_⟩
    rcases k with _ | _ | k
    · simp [filesV, exB] at hk; subst hk; simp [str]
    · simp [filesV, exB] at hk; subst hk; simp [str]
    · simp [filesV, exB] at hk
  have hba := hb1.alloc hb1.size (Obj.cells #[.string ⟨#[98]⟩, .string ⟨#[9, 0, 2, 9]⟩] 62)
  have hLk := Look_walk exB (packetsL 2 exFs 1) (some ⟨w1.heap.size, 0, none⟩) (some ad) 1 c (w1.alloc (.cells #[.string ⟨#[98]⟩, .string ⟨#[9, 0, 2, 9]⟩] 62)) (HK.out.later hba h0) hrf (hrd.later (Nat.le_refl _) ((Below.refl _ _).alloc (Nat.le_refl _) _))
  rw [ex_look, packets_length] at hLk
  have HL := hid_of hLk
  have HBA := hid_of hba
  have hnil := fun W => Lib.run_eql_slice_nil (P := Tryz.prog) W 23 9 (some ad) 3 c 0 0 Tryz.underlying23
  clear hLk hba hrf hrd hb1
  go_wp2_with fail
  refine HL.out.mono ?_
  rintro e w2 ⟨hb2, v, rfl, sv, pv, rfl, hsv, hpv⟩
  have hbw : Below w.heap.size w w2 := HBA.out.trans (hb2.mono HBA.out.size)
  obtain ⟨sa, sc, rfl, hsr⟩ := row_rd hsv
  obtain ⟨pa, pc, rfl, hpr⟩ := row_rd hpv
  obtain ⟨sb, so, rfl, s0⟩ := hsr 0 _ rfl
  obtain ⟨pb, po, rfl, p0⟩ := hpr 0 _ rfl
  obtain ⟨pb', po', e, p1⟩ := hpr 1 _ rfl
  cases e
  have HBW := hid_of hbw
  clear hsv hpv hsr hpr hbw hb2 HL HBA
  rw [Nat.add_zero] at s0 p0
  have l1 := World.block_lt_of_cell? w2 _ s0
  have l2 := World.block_lt_of_cell? w2 _ p0
  have hx : ∀ (o : Obj) (x : Addr), x.block < w2.heap.size → (w2.alloc o).cell? x = w2.cell? x := fun o x hx => ((Below.refl w2.heap.size w2).alloc (Nat.le_refl _) o).cell hx
  have q0 := fun o => (hx o _ l1).trans s0
  have q1 := fun o => (hx o _ l2).trans p0
  have q2 := fun o => (hx o ⟨pb, po + 1, none⟩ l2).trans p1
  clear hx l1 l2 s0 p0 p1
  go_wp2_with fail
  go_ret
  exact ⟨rfl, HBW.out.alloc HBW.out.size _⟩
end Go.Proofs.YtonjphollmdicaaGreatDoor
