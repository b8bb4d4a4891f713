import Derived.Test.YtonjphollmdicaaGreatDoorB41
namespace Go.Proofs.YtonjphollmdicaaGreatDoor
open Go.ChangeShapes Go.WideShapes Go.ChangeAt Go.RowKit

set_option maxRecDepth 100000 in
set_option maxHeartbeats 4000000 in
theorem doubled_walk (s : KSet) (a : Option Addr) (cap : Nat) (keep order : List Int) (ka oa : Option Addr) (kc oc : Nat) (gone : Int) (hgo : -9223372036854775808 ≤ gone ∧ gone ≤ 9223372036854775807) (w : World) (hK : Kinds w) (h : KOk w s a cap) (hk : Ints w keep ka) (ho : Ints w order oa) :
    Calls Tryz.prog 7 #[kV s a cap, .slice ka keep.length kc, .slice oa order.length oc, .int .i64 gone] w fun e w' => e = .returned (.bool true) ∧ Below w.heap.size w w' := by
  have hb0 : Below w.heap.size w (w.alloc (.cells #[.slice a s.D.length cap, .int .i64 s.sl, .int .i64 s.ex] 54)) := (Below.refl _ _).alloc (Nat.le_refl _) _
  have hbk := Blk.new w #[.slice a s.D.length cap, .int .i64 s.sl, .int .i64 s.ex] 54
  obtain ⟨W0, hW0⟩ : ∃ W0, W0 = w.alloc (.cells #[.slice a s.D.length cap, .int .i64 s.sl, .int .i64 s.ex] 54) := ⟨_, rfl⟩
  rw [← hW0] at hb0 hbk
  have hall : ∀ W, Below W0.heap.size W0 W → Kinds W ∧ KOk W s a cap ∧ (W.cell? ⟨w.heap.size, 0, none⟩ = some (.slice a s.D.length cap) ∧ W.cell? ⟨w.heap.size, 1, none⟩ = some (.int .i64 s.sl) ∧ W.cell? ⟨w.heap.size, 2, none⟩ = some (.int .i64 s.ex)) ∧ Ints W keep ka ∧ Ints W order oa := by
    intro W hW
    have hb := Below.next hb0 hW
    have hk' := hbk.touch (Touch.of_below hW []) (by simp)
    exact ⟨hK.later hb hK.lt, h.later hb, ⟨(hk' 0 _ rfl).1, (hk' 1 _ rfl).1, (hk' 2 _ rfl).1⟩, hk.later hb, ho.later hb⟩
  have HA := hid_of hall
  have HW := hid_of hW0
  have HB0 := hid_of hb0
  have hol := ho.len
  have hkl := hk.len
  unfold kV
  clear hall hW0 hb0 hbk h hK hk ho
  go_enter Tryz.func7, Tryz.ntmps7
  go_wp2_with fail
  rw [← HW.out]
  refine (krepaired_walk W0 (HA.out W0 (Below.refl _ _)).1).mono ?_
  rintro e w1 ⟨rfl, hb1⟩
  obtain ⟨_, hok1, ⟨q0, q1, q2⟩, _, _⟩ := HA.out w1 hb1
  have hM := kmade_walk s a cap w1 hok1
  unfold kV at hM
  have HM := hid_of hM
  have HB1 := hid_of hb1
  clear hM hb1 hok1
  go_wp2_with fail
  refine HM.out.mono ?_
  rintro e w2 ⟨g1, c1, vp, rfl, hrdf, hownp, hb2⟩
  have hb02 := Below.next HB1.out hb2
  obtain ⟨k1, k2, k3⟩ := kFiles_short s
  have hex := kExtra_le s
  obtain ⟨z0, z1, z2, z3⟩ := kSize_facts s
  have hgd := kSet_good s
  obtain ⟨sl1, sl2⟩ := kSlices s
  obtain ⟨gp, cp, hvp⟩ : ∃ gp cp, vp = .slice (some ⟨gp, 0, none⟩) (1 + (kFiles s).length + kExtra s) cp := by
    rcases hownp.2 with ⟨_, h1⟩ | ⟨g, c, cur, h1, _⟩
    · omega
    · exact ⟨_, _, h1⟩
  subst hvp
  have hpc : 1 + (kFiles s).length + kExtra s ≤ cp := by
    rcases hownp.2 with ⟨h0, _⟩ | ⟨g, c, cur, h1, _, _, hc, _⟩
    · cases h0
    · cases h1; exact hc
  have hrp : Rd w2 (some ⟨gp, 0, none⟩) (strV (packetsL (kSize s) (kFiles s) (kExtra s))) := by
    obtain ⟨a', c', e, hr⟩ := row_rd hownp
    cases e
    exact hr
  have hks := fun W (hW : Below w2.heap.size w2 W) => kslice_walk s a cap W (HA.out W (Below.next hb02 hW)).2.1
  have hkc := fun W (hW : Below w2.heap.size w2 W) => kcut_walk (kFiles s) (kSize s) (some ⟨g1, 0, none⟩) c1 z0 (by omega) (by omega) (fun f hf => by have := (k1 f hf).2; omega) W (hrdf.later (Nat.le_refl _) hW)
  have hkL := fun W (sa : Option Addr) (sc : Nat) (hW : Below w2.heap.size w2 W) (hS : Rd W sa (strV (slicesL (kSize s) (kFiles s)))) => kleft_walk (slicesL (kSize s) (kFiles s)) keep [] sa ka none sc kc 0 sl1 sl2 W hS (HA.out W (Below.next hb02 hW)).2.2.2.1 ⟨fun k u hk => by simp [i64V] at hk, by simp, by simp, by simp⟩
  unfold kV at hks
  have HKS := hid_of hks
  have HKC := hid_of hkc
  have HKL := hid_of hkL
  have HB2 := hid_of hb02
  have HRP := hid_of hrp
  have HRF := hid_of hrdf
  have HGD := hid_of hgd
  have HZ3 := hid_of z3
  have HK1 := hid_of k1
  obtain ⟨sz, hsz⟩ : ∃ n, n = kSize s := ⟨_, rfl⟩
  obtain ⟨FS, hFS⟩ : ∃ n, n = kFiles s := ⟨_, rfl⟩
  obtain ⟨ex, hexx⟩ : ∃ n, n = kExtra s := ⟨_, rfl⟩
  rw [← hsz] at HKS HKC HKL HRP HGD HZ3 z0 z1 z2
  rw [← hFS] at HKC HKL HRP HGD HRF HK1 k2 k3 hpc ⊢
  rw [← hexx] at HRP hpc hex ⊢
  obtain ⟨nf, hnf⟩ : ∃ n, n = FS.length := ⟨_, rfl⟩
  obtain ⟨SL, hSL⟩ : ∃ n, n = slicesL sz FS := ⟨_, rfl⟩
  rw [← hSL] at HKC HKL
  rw [← hnf] at k2 k3 hpc HKC ⊢
  have hcur : Below w2.heap.size w2 w2 := Below.refl _ _
  have hS : ∀ W, Below w2.heap.size w2 W → W.cell? ⟨w.heap.size, 0, none⟩ = some (.slice a s.D.length cap) ∧ W.cell? ⟨w.heap.size, 1, none⟩ = some (.int .i64 s.sl) ∧ W.cell? ⟨w.heap.size, 2, none⟩ = some (.int .i64 s.ex) ∧ Below w2.heap.size w2 W := fun W hW => ⟨(HA.out W (Below.next HB2.out hW)).2.2.1.1, (HA.out W (Below.next HB2.out hW)).2.2.1.2.1, (HA.out W (Below.next HB2.out hW)).2.2.1.2.2, hW⟩
  have HS := hid_of hS
  have HNF := hid_of hnf
  obtain ⟨q0, q1, q2, _⟩ := hS w2 hcur
  clear hks hkc hkL hb02 hrp hrdf hgd z3 k1 hsz hFS hexx hnf hSL hownp hb2 HM HB1 sl1 sl2 hS
  go_wp2_with fail
  refine (HKS.out w2 hcur).mono ?_
  rintro e w3 ⟨rfl, hb3⟩
  have H3 := hid_of (HKC.out w3 hb3)
  have HB3 := hid_of hb3
  clear hb3 HKS HKC hcur q0 q1 q2
  go_wp2_with fail
  refine H3.out.mono ?_
  rintro e w4 ⟨v4, rfl, ho4, hb4⟩
  obtain ⟨a4, c4, rfl, hr4⟩ := row_rd ho4
  have hb24 := Below.next HB3.out hb4
  have H4 := hid_of (HKL.out w4 a4 c4 hb24 hr4)
  have HB4 := hid_of hb24
  clear hb4 hb24 ho4 hr4 H3 HB3 HKL
  go_wp2_with fail
  refine H4.out.mono ?_
  rintro e w5 ⟨HF, v5, rfl, hHF, hHF1, ho5, hb5⟩
  obtain ⟨a5, c5, rfl, hr5⟩ := row_rd ho5
  have hb25 := Below.next HB4.out hb5
  have hb05 := Below.next HB2.out hb25
  have hp5 := HRP.out.later (Nat.le_refl _) hb25
  obtain ⟨P, hP⟩ : ∃ x, x = packetsL sz FS ex := ⟨_, rfl⟩
  rw [← hP] at hp5 HRP
  have hPl : P.length = 1 + nf + ex := by rw [hP, packets_length, HNF.out]
  have hrep := fun W (hW : Below w5.heap.size w5 W) b cb vs (hv : Rd W b (strV vs)) => Repair_walk HF vs a5 b c5 cb W (HA.out W (Below.next hb05 hW)).1 (hr5.later (Nat.le_refl _) hW) hv
  have hlok := fun W (hW : Below w5.heap.size w5 W) b cb vs (hv : Rd W b (strV vs)) => Look_walk HF vs a5 b c5 cb W (HA.out W (Below.next hb05 hW)).1 (hr5.later (Nat.le_refl _) hW) hv
  simp only [repairP_eq] at hrep
  have HREP := hid_of hrep
  have HLOK := hid_of hlok
  have HB5 := hid_of hb05
  have HHF := hid_of hHF
  have HP := hid_of hP
  have HP5 := hid_of hp5
  have HRF5 := hid_of (HRF.out.later (Nat.le_refl _) hb25)
  have H5 := hid_of (HREP.out w5 (Below.refl _ _) (some ⟨gp, 0, none⟩) cp P HP5.out)
  rw [hPl] at H5
  obtain ⟨hn, hhn⟩ : ∃ x, x = HF.length := ⟨_, rfl⟩
  rw [← hhn] at H5 HREP HLOK hHF1 ⊢
  clear hrep hlok hb05 hHF hP hp5 hb25 ho5 hb5 hr5 HRP HRF HB4 H4 hhn
  go_wp2_with fail
  refine H5.out.mono ?_
  rintro e w6 hg6
  obtain ⟨hb6, ra, rc, rfl, hra⟩ := rep_out hg6
  obtain ⟨R, hR⟩ : ∃ x, x = repairL HF P := ⟨_, rfl⟩
  rw [← hR] at hra ⊢
  obtain ⟨i0, hi, hzz0, hzz1, hzz2⟩ := info_parts Tryz.infoS
  have HB6 := hid_of hb6
  have HRA := hid_of hra
  have HR := hid_of hR
  clear hg6 hb6 hra hR H5
  have hPs : ∀ t ∈ P, t.length ≤ 4000 := by rw [HP.out]; exact packets_short (by omega) (by omega) HGD.out
  have HPS := hid_of hPs
  have hge6 : w5.heap.size ≤ w6.heap.size := HB6.out.size
  obtain ⟨n, hn'⟩ : ∃ x, x = 1 + nf + ex := ⟨_, rfl⟩
  rw [← hn'] at hPl hpc ⊢
  have hn25 : n ≤ 25 := by omega
  have HN' := hid_of hn'
  clear hPs hn'
  go_wp2_with fail
  go_loopw [16, 17, 18] (fun v al i wr => ∃ (k : Nat) (VL : List (List UInt8)) (AL : List UInt8), k ≤ n ∧ VL.length = k ∧ i = .int .i64 (k : Int) ∧ al = .string (str AL) ∧ AL.length ≤ 4000 * k ∧ wr.ownsRow w6.heap.size 9 1 v k (strV VL) ∧ Hid (AL = (P.take k).flatten ∧ ∀ t, t ∈ VL ↔ t ∈ P.take k) ∧ Below w6.heap.size w6 wr)
    (fun _ _ i _ => n - (intOf i).toNat)
  case atStart => exact ⟨0, [], [], by omega, rfl, rfl, rfl, by simp, World.ownsRow_nil _ _ _ _, hid_of ⟨by simp, by simp⟩, Below.refl _ _⟩
  case round =>
    obtain ⟨k, VL, AL, hk, hVL, rfl, rfl, hAL, hown, hmem, hbl⟩ := hrel
    have hb5r := Below.next HB6.out hbl
    have hszr := hbl.size
    by_cases hlt : k < n
    · have hltP : k < P.length := by omega
      obtain ⟨b', o', e, hpk⟩ := (HP5.out.later (Nat.le_refl _) hb5r) k (.string (str P[k])) (by simp [strV, hltP])
      cases e
      rw [Nat.zero_add] at hpk
      have hpl := HPS.out _ (List.getElem_mem hltP)
      obtain ⟨T, hT⟩ : ∃ x, x = P[k] := ⟨_, rfl⟩
      have hnext : (P.take (k + 1)).flatten = (P.take k).flatten ++ T ∧ (∀ t, t ∈ P.take (k + 1) ↔ t ∈ P.take k ∨ t = T) := by
        refine ⟨?_, fun t => ?_⟩
        · rw [take_snoc P k hltP, List.flatten_append, hT, List.flatten_cons, List.flatten_nil, List.append_nil]
        · rw [take_snoc P k hltP, List.mem_append, List.mem_singleton, hT]
      rw [← hT] at hpk hpl
      have HT := hid_of hT
      have HNX := hid_of hnext
      have hTa := str_size T
      have hAa := str_size AL
      have hcat : str AL ++ str T = str (AL ++ T) := by rw [str_add, str_data]
      clear hT hnext
      have hint := (HA.out wr (Below.next HB5.out hb5r)).2.2.2.2
      obtain ⟨at', hat⟩ : ∃ x, x = if k < order.length then pickN (order.getD k 0) (k + 1) else 0 := ⟨_, rfl⟩
      have hatk : at' ≤ k := by
        rw [hat]
        split
        · have := pickN_lt (order.getD k 0) (k + 1) (by omega)
          omega
        · omega
      have HO := hid_of hown
      have HB := hid_of hbl
      clear hown hbl hb5r
      by_cases hc : k < order.length
      · obtain ⟨ob, oo, rfl, hoc⟩ := hint.cell k hc
        have hxlo := hint.lo _ (List.getElem_mem hc)
        have hxhi := hint.hi _ (List.getElem_mem hc)
        have hgd : order.getD k 0 = order[k] := by simp [hc]
        rw [if_pos hc, hgd] at hat
        obtain ⟨x, hx⟩ : ∃ x, x = order[k] := ⟨_, rfl⟩
        rw [← hx] at hoc hxlo hxhi hat
        have hpick := kpick_walk x (k + 1) (by omega) (by omega) hxlo hxhi
        rw [← hat, show ((k + 1 : Nat) : Int) = (k : Int) + 1 from by omega] at hpick
        have HPI := hid_of hpick
        clear hx hat hpick hgd hint
        rcases row_all HO.out with ⟨hv0, hk0⟩ | ⟨gv, vc, hv, hvc, hvr⟩
        · obtain rfl : k = 0 := by omega
          have hVn : VL = [] := List.eq_nil_of_length_eq_zero hVL
          subst hVn hv0
          obtain rfl : at' = 0 := by omega
          have hp0 := HPI.out
          rw [show ((0 : Nat) : Int) + 1 = 1 from rfl] at hp0
          have HP0 := hid_of hp0
          rw [Nat.add_zero] at hoc
          clear hp0 HPI
          go_wp2_with fail
          refine (HP0.out _).mono ?_
          rintro e w' ⟨rfl, hw'⟩
          rw [hw']
          clear hw' w'
          go_wp2_with (at_builtin; refine wpList_append_rd rfl (.tmp 75) (.tmp 78) 23 rfl wr.heap.size 9 i0 (.string ByteArray.empty) 16 Tryz.underlying23 hi hzz0 hzz1 hzz2 rfl _ _ _ rfl (World.ownsRow_nil _ _ _ _) none 0 0 [] rfl rfl (fun j u hj => by simp at hj) (fun _ => rfl) (by simp) (by unfold maxLen; omega) (by omega) (Nat.le_refl _) ?_)
          intro v7 w7 ho7 hg7
          have hb7 : Below wr.heap.size wr w7 := (Below.refl _ wr).grown hg7 (Nat.le_refl _) (by intro k hk; cases hk)
          have hl1 : (⟨gp, 0, none⟩ : Addr).block < wr.heap.size := World.block_lt_of_cell? wr _ hpk
          have hpk7 : w7.cell? ⟨gp, 0, none⟩ = some (.string (str T)) := (hb7.cell hl1).trans hpk
          have hs7 := hb7.size
          have HB7 := hid_of hb7
          have HO7 := hid_of ho7
          clear hb7 ho7 hg7
          go_wp2_with (at_builtin; refine wpList_append_own _ rfl (.tmp 80) (.tmp 85) 23 rfl wr.heap.size 9 i0 (.string ByteArray.empty) 1 16 Tryz.underlying23 hi hzz0 hzz1 hzz2 rfl (by decide) _ _ _ rfl (HO7.out.alloc _) ⟨w7.heap.size, 0, none⟩ 1 1 [.string (str T)] rfl rfl (cell_one_new _ _ _) (strV_one [T]) (by unfold maxLen; omega) (by omega) (by simp; omega) ?_)
          intro v8 w8 ho8 hg8 _
          have hb8 := below_step HB7.out hs7 HO7.out hg8
          have hs8 := hb8.size
          have HB8 := hid_of hb8
          have HO8 := hid_of ho8
          have hpk8 : w8.cell? ⟨gp, 0, none⟩ = some (.string (str T)) := (hb8.cell hl1).trans hpk
          clear hb8 ho8 hg8
          go_wp2_with (at_builtin; refine wpList_append_rd rfl (.tmp 87) (.tmp 90) 23 rfl wr.heap.size 9 i0 (.string ByteArray.empty) 16 Tryz.underlying23 hi hzz0 hzz1 hzz2 rfl _ _ _ rfl HO8.out none 0 0 [] rfl rfl (fun j u hj => by simp at hj) (fun _ => rfl) (by simp) (by unfold maxLen; omega) (by omega) hs8 ?_)
          all_goals
            intro v9 w9 ho9 hg9
            have hb9 : Below wr.heap.size wr w9 := HB8.out.grown hg9 hs8 (fun g hg => (HO8.out.lt g hg).1)
            have hpk9 : w9.cell? ⟨gp, 0, none⟩ = some (.string (str T)) := (hb9.cell hl1).trans hpk
            have K1 : Hid (w9.ownsRow w6.heap.size 9 1 v9 (0 + 1) (strV (insL [] 0 T))) := hid_of (ins_row (by omega) ho9 (by omega) (by simp [insL, strV]))
            have K2 := hid_of (HB.out.trans (hb9.mono hszr))
            have K3 : Hid (AL ++ T = (P.take (0 + 1)).flatten ∧ ∀ t, t ∈ insL [] 0 T ↔ t ∈ P.take (0 + 1)) := hid_of ⟨by rw [HNX.out.1, ← hmem.out.1], fun t => by rw [insL_mem, HNX.out.2 t, hmem.out.2 t]⟩
            clear hb9 ho9 hg9
            go_wp2_with fail
            exact ⟨⟨0 + 1, insL [] 0 T, AL ++ T, by omega, by simp [insL] <;> omega, by go_num, rfl, by simp; omega, K1.out, K3, K2.out⟩, by simp [intOf]; omega⟩
        · subst hv
          go_wp2_with fail
          refine (HPI.out _).mono ?_
          rintro e w' ⟨rfl, hw'⟩
          rw [hw']
          clear hw' w'
          have hv1 : Rd wr (some ⟨gv, 0, none⟩) (strV (VL.take at')) := by
            have := hvr.take at'
            unfold strV at this ⊢
            rw [List.map_take]
            exact this
          have HV1 := hid_of hv1
          clear hv1
          have HV := hid_of hvr
          clear hvr
          go_wp2_with (at_builtin; refine wpList_append_rd rfl (.tmp 75) (.tmp 78) 23 rfl wr.heap.size 9 i0 (.string ByteArray.empty) 16 Tryz.underlying23 hi hzz0 hzz1 hzz2 rfl _ _ _ rfl (World.ownsRow_nil _ _ _ _) (some ⟨gv, 0, none⟩) at' vc (strV (VL.take at')) rfl (by simp [strV]; omega) HV1.out (by intro h; cases h) (strV_one _) (by unfold maxLen; omega) (by omega) (Nat.le_refl _) ?_)
          intro v7 w7 ho7 hg7
          have hb7 : Below wr.heap.size wr w7 := (Below.refl _ wr).grown hg7 (Nat.le_refl _) (by intro k hk; cases hk)
          have hl1 : (⟨gp, k, none⟩ : Addr).block < wr.heap.size := World.block_lt_of_cell? wr _ hpk
          have hpk7 : w7.cell? ⟨gp, k, none⟩ = some (.string (str T)) := (hb7.cell hl1).trans hpk
          have hs7 := hb7.size
          have HB7 := hid_of hb7
          have HO7 := hid_of ho7
          clear hb7 ho7 hg7
          go_wp2_with (at_builtin; refine wpList_append_own _ rfl (.tmp 80) (.tmp 85) 23 rfl wr.heap.size 9 i0 (.string ByteArray.empty) 1 16 Tryz.underlying23 hi hzz0 hzz1 hzz2 rfl (by decide) _ _ _ rfl (HO7.out.alloc _) ⟨w7.heap.size, 0, none⟩ 1 1 [.string (str T)] rfl rfl (cell_one_new _ _ _) (strV_one [T]) (by unfold maxLen; omega) (by omega) (by simp; omega) ?_)
          intro v8 w8 ho8 hg8 _
          have hb8 := below_step HB7.out hs7 HO7.out hg8
          have hs8 := hb8.size
          have HB8 := hid_of hb8
          have HO8 := hid_of ho8
          have HV8 := hid_of (HV.out.later (Nat.le_refl _) hb8)
          have hpk8 : w8.cell? ⟨gp, k, none⟩ = some (.string (str T)) := (hb8.cell hl1).trans hpk
          clear hb8 ho8 hg8
          go_wp2_with (at_builtin; refine wpList_append_rd rfl (.tmp 87) (.tmp 90) 23 rfl wr.heap.size 9 i0 (.string ByteArray.empty) 16 Tryz.underlying23 hi hzz0 hzz1 hzz2 rfl _ _ _ rfl HO8.out _ (k - at') (vc - at') (strV (VL.drop at')) rfl (by simp [strV]; omega) (rd_tail (A := at') HV8.out hVL hvc _ (by first | exact .inl rfl | (split <;> simp_all))) (by intro h; first | cases h | (split at h <;> cases h)) (strV_one _) (by unfold maxLen; omega) (by omega) hs8 ?_)
          all_goals
            intro v9 w9 ho9 hg9
            have hb9 : Below wr.heap.size wr w9 := HB8.out.grown hg9 hs8 (fun g hg => (HO8.out.lt g hg).1)
            have hpk9 : w9.cell? ⟨gp, k, none⟩ = some (.string (str T)) := (hb9.cell hl1).trans hpk
            have K1 : Hid (w9.ownsRow w6.heap.size 9 1 v9 (k + 1) (strV (insL VL at' T))) := hid_of (ins_row (by omega) ho9 (by omega) (by simp [insL, strV]))
            have K2 := hid_of (HB.out.trans (hb9.mono hszr))
            have K3 : Hid (AL ++ T = (P.take (k + 1)).flatten ∧ ∀ t, t ∈ insL VL at' T ↔ t ∈ P.take (k + 1)) := hid_of ⟨by rw [HNX.out.1, ← hmem.out.1], fun t => by rw [insL_mem, HNX.out.2 t, hmem.out.2 t]⟩
            clear hb9 ho9 hg9
            go_wp2_with fail
            exact ⟨⟨k + 1, insL VL at' T, AL ++ T, by omega, by simp [insL] <;> omega, by go_num, rfl, by simp; omega, K1.out, K3, K2.out⟩, by simp [intOf]; omega⟩
      · rcases row_all HO.out with ⟨hv0, hk0⟩ | ⟨gv, vc, hv, hvc, hvr⟩
        · obtain rfl : k = 0 := by omega
          have hVn : VL = [] := List.eq_nil_of_length_eq_zero hVL
          subst hVn hv0
          go_wp2_with (at_builtin; refine wpList_append_rd rfl (.tmp 75) (.tmp 78) 23 rfl wr.heap.size 9 i0 (.string ByteArray.empty) 16 Tryz.underlying23 hi hzz0 hzz1 hzz2 rfl _ _ _ rfl (World.ownsRow_nil _ _ _ _) none 0 0 [] rfl rfl (fun j u hj => by simp at hj) (fun _ => rfl) (by simp) (by unfold maxLen; omega) (by omega) (Nat.le_refl _) ?_)
          intro v7 w7 ho7 hg7
          have hb7 : Below wr.heap.size wr w7 := (Below.refl _ wr).grown hg7 (Nat.le_refl _) (by intro k hk; cases hk)
          have hl1 : (⟨gp, 0, none⟩ : Addr).block < wr.heap.size := World.block_lt_of_cell? wr _ hpk
          have hpk7 : w7.cell? ⟨gp, 0, none⟩ = some (.string (str T)) := (hb7.cell hl1).trans hpk
          have hs7 := hb7.size
          have HB7 := hid_of hb7
          have HO7 := hid_of ho7
          clear hb7 ho7 hg7
          go_wp2_with (at_builtin; refine wpList_append_own _ rfl (.tmp 80) (.tmp 85) 23 rfl wr.heap.size 9 i0 (.string ByteArray.empty) 1 16 Tryz.underlying23 hi hzz0 hzz1 hzz2 rfl (by decide) _ _ _ rfl (HO7.out.alloc _) ⟨w7.heap.size, 0, none⟩ 1 1 [.string (str T)] rfl rfl (cell_one_new _ _ _) (strV_one [T]) (by unfold maxLen; omega) (by omega) (by simp; omega) ?_)
          intro v8 w8 ho8 hg8 _
          have hb8 := below_step HB7.out hs7 HO7.out hg8
          have hs8 := hb8.size
          have HB8 := hid_of hb8
          have HO8 := hid_of ho8
          have hpk8 : w8.cell? ⟨gp, 0, none⟩ = some (.string (str T)) := (hb8.cell hl1).trans hpk
          clear hb8 ho8 hg8
          go_wp2_with (at_builtin; refine wpList_append_rd rfl (.tmp 87) (.tmp 90) 23 rfl wr.heap.size 9 i0 (.string ByteArray.empty) 16 Tryz.underlying23 hi hzz0 hzz1 hzz2 rfl _ _ _ rfl HO8.out none 0 0 [] rfl rfl (fun j u hj => by simp at hj) (fun _ => rfl) (by simp) (by unfold maxLen; omega) (by omega) hs8 ?_)
          all_goals
            intro v9 w9 ho9 hg9
            have hb9 : Below wr.heap.size wr w9 := HB8.out.grown hg9 hs8 (fun g hg => (HO8.out.lt g hg).1)
            have hpk9 : w9.cell? ⟨gp, 0, none⟩ = some (.string (str T)) := (hb9.cell hl1).trans hpk
            have K1 : Hid (w9.ownsRow w6.heap.size 9 1 v9 (0 + 1) (strV (insL [] 0 T))) := hid_of (ins_row (by omega) ho9 (by omega) (by simp [insL, strV]))
            have K2 := hid_of (HB.out.trans (hb9.mono hszr))
            have K3 : Hid (AL ++ T = (P.take (0 + 1)).flatten ∧ ∀ t, t ∈ insL [] 0 T ↔ t ∈ P.take (0 + 1)) := hid_of ⟨by rw [HNX.out.1, ← hmem.out.1], fun t => by rw [insL_mem, HNX.out.2 t, hmem.out.2 t]⟩
            clear hb9 ho9 hg9
            go_wp2_with fail
            exact ⟨⟨0 + 1, insL [] 0 T, AL ++ T, by omega, by simp [insL] <;> omega, by go_num, rfl, by simp; omega, K1.out, K3, K2.out⟩, by simp [intOf]; omega⟩
        · subst hv
          have HV := hid_of hvr
          clear hvr
          go_wp2_with (at_builtin; refine wpList_append_rd rfl (.tmp 75) (.tmp 78) 23 rfl wr.heap.size 9 i0 (.string ByteArray.empty) 16 Tryz.underlying23 hi hzz0 hzz1 hzz2 rfl _ _ _ rfl (World.ownsRow_nil _ _ _ _) (some ⟨gv, 0, none⟩) 0 vc [] rfl rfl (fun j u hj => by simp at hj) (by intro h; cases h) (by simp) (by unfold maxLen; omega) (by omega) (Nat.le_refl _) ?_)
          intro v7 w7 ho7 hg7
          have hb7 : Below wr.heap.size wr w7 := (Below.refl _ wr).grown hg7 (Nat.le_refl _) (by intro k hk; cases hk)
          have hl1 : (⟨gp, k, none⟩ : Addr).block < wr.heap.size := World.block_lt_of_cell? wr _ hpk
          have hpk7 : w7.cell? ⟨gp, k, none⟩ = some (.string (str T)) := (hb7.cell hl1).trans hpk
          have hs7 := hb7.size
          have HB7 := hid_of hb7
          have HO7 := hid_of ho7
          clear hb7 ho7 hg7
          go_wp2_with (at_builtin; refine wpList_append_own _ rfl (.tmp 80) (.tmp 85) 23 rfl wr.heap.size 9 i0 (.string ByteArray.empty) 1 16 Tryz.underlying23 hi hzz0 hzz1 hzz2 rfl (by decide) _ _ _ rfl (HO7.out.alloc _) ⟨w7.heap.size, 0, none⟩ 1 1 [.string (str T)] rfl rfl (cell_one_new _ _ _) (strV_one [T]) (by unfold maxLen; omega) (by omega) (by simp; omega) ?_)
          intro v8 w8 ho8 hg8 _
          have hb8 := below_step HB7.out hs7 HO7.out hg8
          have hs8 := hb8.size
          have HB8 := hid_of hb8
          have HO8 := hid_of ho8
          have HV8 := hid_of (HV.out.later (Nat.le_refl _) hb8)
          have hpk8 : w8.cell? ⟨gp, k, none⟩ = some (.string (str T)) := (hb8.cell hl1).trans hpk
          clear hb8 ho8 hg8
          go_wp2_with (at_builtin; refine wpList_append_rd rfl (.tmp 87) (.tmp 90) 23 rfl wr.heap.size 9 i0 (.string ByteArray.empty) 16 Tryz.underlying23 hi hzz0 hzz1 hzz2 rfl _ _ _ rfl HO8.out (some ⟨gv, 0, none⟩) k vc (strV VL) rfl (by simp [strV]; omega) HV8.out (by intro h; cases h) (strV_one _) (by unfold maxLen; omega) (by omega) hs8 ?_)
          all_goals
            intro v9 w9 ho9 hg9
            have hb9 : Below wr.heap.size wr w9 := HB8.out.grown hg9 hs8 (fun g hg => (HO8.out.lt g hg).1)
            have hpk9 : w9.cell? ⟨gp, k, none⟩ = some (.string (str T)) := (hb9.cell hl1).trans hpk
            have K1 : Hid (w9.ownsRow w6.heap.size 9 1 v9 (k + 1) (strV (insL VL 0 T))) := hid_of (ins_row (by omega) ho9 (by omega) (by simp [insL, strV]))
            have K2 := hid_of (HB.out.trans (hb9.mono hszr))
            have K3 : Hid (AL ++ T = (P.take (k + 1)).flatten ∧ ∀ t, t ∈ insL VL 0 T ↔ t ∈ P.take (k + 1)) := hid_of ⟨by rw [HNX.out.1, ← hmem.out.1], fun t => by rw [insL_mem, HNX.out.2 t, hmem.out.2 t]⟩
            clear hb9 ho9 hg9
            go_wp2_with fail
            exact ⟨⟨k + 1, insL VL 0 T, AL ++ T, by omega, by simp [insL] <;> omega, by go_num, rfl, by simp; omega, K1.out, K3, K2.out⟩, by simp [intOf]; omega⟩
    · obtain rfl : k = n := by omega
      have hAe : AL = P.flatten := by rw [hmem.out.1, List.take_of_length_le (by omega)]
      have hVm : ∀ t, t ∈ VL ↔ t ∈ P := fun t => by rw [hmem.out.2 t, List.take_of_length_le (by omega)]
      have hAa := str_size AL
      have HO := hid_of hown
      have HB := hid_of hbl
      have HAE := hid_of hAe
      have HVM := hid_of hVm
      have hk1 : 1 ≤ k := by have := HN'.out; omega
      obtain ⟨gv, vc, hv, hvc, hvr⟩ : ∃ g c, u16 = .slice (some ⟨g, 0, none⟩) k c ∧ k ≤ c ∧ Rd wr (some ⟨g, 0, none⟩) (strV VL) := by
        rcases row_all hown with ⟨_, h0⟩ | h
        · omega
        · exact h
      subst hv
      clear hown hbl hAe hVm hmem hvr
      have hRl : (outA R).length ≤ 1000000 := by
        cases hR2 : R with
        | inr n => simp [outA]
        | inl fl =>
          have := dbl_len HZ3.out (by omega) (by omega) z2 hex HGD.out HHF.out fl (by rw [← HP.out, ← HR.out]; exact hR2)
          rw [← HNF.out] at this
          show fl.length ≤ _
          omega
      have hk2 : 2 ≤ k := by have := HN'.out; omega
      have hcp2 : 2 ≤ cp := by omega
      by_cases h4 : AL.length ≤ 4000
      · go_wp2_with (at_builtin; refine wpList_append_own _ rfl (.tmp 101) (.tmp 103) 23 rfl w6.heap.size 9 i0 (.string ByteArray.empty) 1 16 Tryz.underlying23 hi hzz0 hzz1 hzz2 rfl (by decide) _ _ _ rfl (HO.out.alloc _) ⟨wr.heap.size, 0, none⟩ 1 1 [.string (str AL)] rfl rfl (cell_one_new _ _ _) (strV_one [AL]) (by unfold maxLen; omega) (by omega) (by simp; omega) ?_)
        intro v7 w7 ho7 hg7 _
        have hb7 := below_step HB.out hszr HO.out hg7
        obtain ⟨gw, vd, hv7, hvd, hvr7⟩ : ∃ g c, v7 = .slice (some ⟨g, 0, none⟩) (k + 1) c ∧ k + 1 ≤ c ∧ Rd w7 (some ⟨g, 0, none⟩) (strV VL ++ [.string (str AL)]) := by
          rcases row_all ho7 with ⟨_, h0⟩ | h
          · omega
          · exact h
        subst hv7
        have hrv : Rd w7 (some ⟨gw, 0, none⟩) (strV (VL ++ [AL])) := by
          unfold strV at hvr7 ⊢
          rw [List.map_append]
          exact hvr7
        have hdb : repairL HF (VL ++ [AL]) = R := by
          rw [HR.out, HP.out]
          refine double_eq HZ3.out (by omega) (by omega) z2 hex HGD.out HHF.out (by simp; omega) (fun t ht => ?_) (fun t ht => ?_)
          · rw [← HP.out]
            rcases List.mem_append.1 ht with h | h
            · exact .inl ((HVM.out t).1 h)
            · rw [List.mem_singleton] at h
              rw [h]
              exact .inr ⟨HAE.out, h4⟩
          · rw [← HP.out] at ht
            exact List.mem_append.2 (.inl ((HVM.out t).2 ht))
        have hb57 := Below.next HB6.out hb7
        have h7 := HREP.out w7 hb57 (some ⟨gw, 0, none⟩) vd (VL ++ [AL]) hrv
        rw [hdb, show (VL ++ [AL]).length = k + 1 from by simp [hVL]] at h7
        obtain ⟨m, hm⟩ : ∃ m, m = k + 1 := ⟨_, rfl⟩
        rw [← hm] at h7 ⊢
        have HB7 := hid_of hb57
        have H7 := hid_of h7
        have HRA7 := hid_of (HRA.out.later (Nat.le_refl _) hb7)
        clear h7 hb57 hdb hrv hvr7 hb7 hg7 ho7 hm
        go_wp2_with fail
        refine H7.out.mono ?_
        rintro e w8 hg8
        obtain ⟨hb8, rb, rd, rfl, hrb⟩ := rep_out hg8
        have hb58 := Below.next HB7.out hb8
        have hs7 := ksame_walk (outA R) (outA R) ra rb rc rd (by omega) (by omega) w8 (HRA7.out.later (Nat.le_refl _) hb8) hrb
        have HB8 := hid_of hb58
        have HS7 := hid_of hs7
        clear hg8 hb8 hb58 hrb hs7 H7 HRA7
        go_wp2_with fail
        refine HS7.out.mono ?_
        rintro e w9 ⟨rfl, hb9⟩
        rw [beq_self_eq_true]
        have HB9 := hid_of (Below.next HB8.out hb9)
        have h9 := HLOK.out w9 HB9.out (some ⟨gp, 1, none⟩) (cp - 1) (P.drop 1) (rd_tail (HP5.out.later (Nat.le_refl _) HB9.out) hPl hpc _ (.inl rfl))
        rw [List.length_drop, hPl, show lookP HF (P.drop 1) = .inr 3 from by rw [HP.out]; exact look_nom z0 (by omega) hex HGD.out HHF.out] at h9
        have H9 := hid_of h9
        clear hb9 HS7 HB8 h9
        go_wp2_with fail
        refine H9.out.mono ?_
        rintro e w10 hg10
        obtain ⟨hb10, rfl⟩ := look_no hg10
        have HB10 := hid_of (Below.next HB9.out hb10)
        have hpick := fun W => kpick_walk gone nf (by omega) (by omega) hgo.1 hgo.2 W
        obtain ⟨y, hy⟩ : ∃ y, y = pickN gone nf := ⟨_, rfl⟩
        have hyl : y < nf := by rw [hy]; exact pickN_lt _ _ (by omega)
        rw [← hy] at hpick
        have HPK := hid_of hpick
        clear hb10 hg10 H9 HB9 hpick hy
        go_wp2_with fail
        refine (HPK.out _).mono ?_
        rintro e w' ⟨rfl, hw'⟩
        rw [hw']
        have hyk : 1 + y + 1 ≤ k := by have := HN'.out; omega
        have hyc : 1 + y + 1 ≤ cp := by omega
        have hb11 : Below w5.heap.size w5 (w10.alloc (.cells #[.slice none 0 0, .slice none 0 0, .int .i64 0, .int .i64 0] 34)) := HB10.out.alloc HB10.out.size _
        have hs10 := HB10.out.size
        obtain ⟨W11, hW11⟩ : ∃ x, x = w10.alloc (.cells #[.slice none 0 0, .slice none 0 0, .int .i64 0, .int .i64 0] 34) := ⟨_, rfl⟩
        rw [← hW11] at hb11 ⊢
        have hr1 : Rd W11 (some ⟨gp, 0, none⟩) (strV (P.take (1 + y))) := by
          have := (HP5.out.later (Nat.le_refl _) hb11).take (1 + y)
          unfold strV at this ⊢
          rw [List.map_take]
          exact this
        have HR1 := hid_of hr1
        have HB11 := hid_of hb11
        clear hw' w' HPK hr1 hb11 hW11 HB10
        go_wp2_with (at_builtin; refine wpList_append_rd rfl (.tmp 126) (.tmp 129) 23 rfl W11.heap.size 9 i0 (.string ByteArray.empty) 16 Tryz.underlying23 hi hzz0 hzz1 hzz2 rfl _ _ _ rfl (World.ownsRow_nil _ _ _ _) (some ⟨gp, 0, none⟩) (1 + y) cp (strV (P.take (1 + y))) rfl (by simp [strV]; omega) HR1.out (by intro h; cases h) (strV_one _) (by unfold maxLen; omega) (by omega) (Nat.le_refl _) ?_)
        intro v12 w12 ho12 hg12
        have hb12 : Below W11.heap.size W11 w12 := (Below.refl _ W11).grown hg12 (Nat.le_refl _) (by intro k hk; cases hk)
        have hs12 := hb12.size
        have HR12 := hid_of (HP5.out.later (Nat.le_refl _) (Below.next HB11.out hb12))
        have HB12 := hid_of hb12
        have HO12 := hid_of ho12
        clear hb12 ho12 hg12 HR1
        go_wp2_with (at_builtin; refine wpList_append_rd rfl (.tmp 131) (.tmp 135) 23 rfl W11.heap.size 9 i0 (.string ByteArray.empty) 16 Tryz.underlying23 hi hzz0 hzz1 hzz2 rfl _ _ _ rfl HO12.out _ (k - (1 + y + 1)) (cp - (1 + y + 1)) (strV (P.drop (1 + y + 1))) rfl (by simp [strV]; omega) (rd_tail (A := 1 + y + 1) HR12.out hPl hpc _ (by first | exact .inl rfl | (split <;> simp_all))) (by intro h; first | cases h | (split at h <;> cases h)) (strV_one _) (by unfold maxLen; omega) (by omega) hs12 ?_)
        all_goals
          intro v13 w13 ho13 hg13
          have hb13 : Below W11.heap.size W11 w13 := HB12.out.grown hg13 hs12 (fun g hg => (HO12.out.lt g hg).1)
          obtain ⟨a13, c13, rfl, hr13⟩ := row_rd ho13
          have hrv : Rd w13 a13 (strV (P.take (1 + y) ++ P.drop (1 + y + 1))) := by
            unfold strV at hr13 ⊢
            rw [List.map_append]
            exact hr13
          have h13 := HLOK.out w13 (Below.next HB11.out hb13) a13 c13 (P.take (1 + y) ++ P.drop (1 + y + 1)) hrv
          rw [List.length_append, List.length_take, List.length_drop, hPl, Nat.min_eq_left (show 1 + y ≤ k by omega), show lookP HF (P.take (1 + y) ++ P.drop (1 + y + 1)) = .inr 4 from by rw [HP.out]; exact look_nof HZ3.out z0 (by omega) hex HGD.out HHF.out (by rw [← HNF.out]; exact hyl)] at h13
          have H13 := hid_of h13
          have HB13 := hid_of (Below.next HB11.out hb13)
          clear h13 hrv hr13 hb13 ho13 hg13 HB11 HB12 HO12 HR12
          go_wp2_with fail
          refine H13.out.mono ?_
          rintro e w14 hg14
          obtain ⟨hb14, rfl⟩ := look_no hg14
          have hB14 := Below.next HB13.out hb14
          have hset : Below w5.heap.size w5 (w14.alloc (.cells #[.slice none 0 0, .slice none 0 0, .int .i64 0, .int .i64 0] 34)) := hB14.alloc hB14.size _
          have h15 := HREP.out _ hset none 0 [] (fun k u hk => by simp [strV] at hk)
          rw [repair_none HHF.out] at h15
          have H15 := hid_of h15
          have HB15 := hid_of hset
          clear h15 hset hB14  hb14 hg14 H13 HB13
          go_wp2_with fail
          refine H15.out.mono ?_
          rintro e w16 hg16
          obtain ⟨hb16, rfl⟩ := rep_no hg16
          have HFIN := hid_of (Below.next (Below.next HB0.out HB5.out) (Below.next HB15.out hb16))
          clear hb16 hg16 H15 HB15
          go_wp2_with fail
          first | exact ⟨rfl, HFIN.out⟩ | exact bodyPost_ret (by simp [results, Tryz.results7, go_sem]) rfl ⟨rfl, HFIN.out⟩
      · have hdb : repairL HF VL = R := by
          rw [HR.out, HP.out]
          refine double_eq HZ3.out (by omega) (by omega) z2 hex HGD.out HHF.out (by omega) (fun t ht => ?_) (fun t ht => ?_)
          · rw [← HP.out]
            exact .inl ((HVM.out t).1 ht)
          · rw [← HP.out] at ht
            exact (HVM.out t).2 ht
        have hvr : Rd wr (some ⟨gv, 0, none⟩) (strV VL) := by
          rcases row_all HO.out with ⟨h0, _⟩ | ⟨g, c, h0, _, h⟩
          · cases h0
          · cases h0
            exact h
        have hb57 := Below.next HB6.out HB.out
        have h7 := HREP.out wr hb57 (some ⟨gv, 0, none⟩) vc VL hvr
        rw [hdb, hVL] at h7
        have HB7 := hid_of hb57
        have H7 := hid_of h7
        have HRA7 := hid_of (HRA.out.later (Nat.le_refl _) HB.out)
        clear h7 hb57 hdb hvr
        go_wp2_with fail
        refine H7.out.mono ?_
        rintro e w8 hg8
        obtain ⟨hb8, rb, rd, rfl, hrb⟩ := rep_out hg8
        have hb58 := Below.next HB7.out hb8
        have hs7 := ksame_walk (outA R) (outA R) ra rb rc rd (by omega) (by omega) w8 (HRA7.out.later (Nat.le_refl _) hb8) hrb
        have HB8 := hid_of hb58
        have HS7 := hid_of hs7
        clear hg8 hb8 hb58 hrb hs7 H7 HRA7
        go_wp2_with fail
        refine HS7.out.mono ?_
        rintro e w9 ⟨rfl, hb9⟩
        rw [beq_self_eq_true]
        have HB9 := hid_of (Below.next HB8.out hb9)
        have h9 := HLOK.out w9 HB9.out (some ⟨gp, 1, none⟩) (cp - 1) (P.drop 1) (rd_tail (HP5.out.later (Nat.le_refl _) HB9.out) hPl hpc _ (.inl rfl))
        rw [List.length_drop, hPl, show lookP HF (P.drop 1) = .inr 3 from by rw [HP.out]; exact look_nom z0 (by omega) hex HGD.out HHF.out] at h9
        have H9 := hid_of h9
        clear hb9 HS7 HB8 h9
        go_wp2_with fail
        refine H9.out.mono ?_
        rintro e w10 hg10
        obtain ⟨hb10, rfl⟩ := look_no hg10
        have HB10 := hid_of (Below.next HB9.out hb10)
        have hpick := fun W => kpick_walk gone nf (by omega) (by omega) hgo.1 hgo.2 W
        obtain ⟨y, hy⟩ : ∃ y, y = pickN gone nf := ⟨_, rfl⟩
        have hyl : y < nf := by rw [hy]; exact pickN_lt _ _ (by omega)
        rw [← hy] at hpick
        have HPK := hid_of hpick
        clear hb10 hg10 H9 HB9 hpick hy
        go_wp2_with fail
        refine (HPK.out _).mono ?_
        rintro e w' ⟨rfl, hw'⟩
        rw [hw']
        have hyk : 1 + y + 1 ≤ k := by have := HN'.out; omega
        have hyc : 1 + y + 1 ≤ cp := by omega
        have hb11 : Below w5.heap.size w5 (w10.alloc (.cells #[.slice none 0 0, .slice none 0 0, .int .i64 0, .int .i64 0] 34)) := HB10.out.alloc HB10.out.size _
        have hs10 := HB10.out.size
        obtain ⟨W11, hW11⟩ : ∃ x, x = w10.alloc (.cells #[.slice none 0 0, .slice none 0 0, .int .i64 0, .int .i64 0] 34) := ⟨_, rfl⟩
        rw [← hW11] at hb11 ⊢
        have hr1 : Rd W11 (some ⟨gp, 0, none⟩) (strV (P.take (1 + y))) := by
          have := (HP5.out.later (Nat.le_refl _) hb11).take (1 + y)
          unfold strV at this ⊢
          rw [List.map_take]
          exact this
        have HR1 := hid_of hr1
        have HB11 := hid_of hb11
        clear hw' w' HPK hr1 hb11 hW11 HB10
        go_wp2_with (at_builtin; refine wpList_append_rd rfl (.tmp 126) (.tmp 129) 23 rfl W11.heap.size 9 i0 (.string ByteArray.empty) 16 Tryz.underlying23 hi hzz0 hzz1 hzz2 rfl _ _ _ rfl (World.ownsRow_nil _ _ _ _) (some ⟨gp, 0, none⟩) (1 + y) cp (strV (P.take (1 + y))) rfl (by simp [strV]; omega) HR1.out (by intro h; cases h) (strV_one _) (by unfold maxLen; omega) (by omega) (Nat.le_refl _) ?_)
        intro v12 w12 ho12 hg12
        have hb12 : Below W11.heap.size W11 w12 := (Below.refl _ W11).grown hg12 (Nat.le_refl _) (by intro k hk; cases hk)
        have hs12 := hb12.size
        have HR12 := hid_of (HP5.out.later (Nat.le_refl _) (Below.next HB11.out hb12))
        have HB12 := hid_of hb12
        have HO12 := hid_of ho12
        clear hb12 ho12 hg12 HR1
        go_wp2_with (at_builtin; refine wpList_append_rd rfl (.tmp 131) (.tmp 135) 23 rfl W11.heap.size 9 i0 (.string ByteArray.empty) 16 Tryz.underlying23 hi hzz0 hzz1 hzz2 rfl _ _ _ rfl HO12.out _ (k - (1 + y + 1)) (cp - (1 + y + 1)) (strV (P.drop (1 + y + 1))) rfl (by simp [strV]; omega) (rd_tail (A := 1 + y + 1) HR12.out hPl hpc _ (by first | exact .inl rfl | (split <;> simp_all))) (by intro h; first | cases h | (split at h <;> cases h)) (strV_one _) (by unfold maxLen; omega) (by omega) hs12 ?_)
        all_goals
          intro v13 w13 ho13 hg13
          have hb13 : Below W11.heap.size W11 w13 := HB12.out.grown hg13 hs12 (fun g hg => (HO12.out.lt g hg).1)
          obtain ⟨a13, c13, rfl, hr13⟩ := row_rd ho13
          have hrv : Rd w13 a13 (strV (P.take (1 + y) ++ P.drop (1 + y + 1))) := by
            unfold strV at hr13 ⊢
            rw [List.map_append]
            exact hr13
          have h13 := HLOK.out w13 (Below.next HB11.out hb13) a13 c13 (P.take (1 + y) ++ P.drop (1 + y + 1)) hrv
          rw [List.length_append, List.length_take, List.length_drop, hPl, Nat.min_eq_left (show 1 + y ≤ k by omega), show lookP HF (P.take (1 + y) ++ P.drop (1 + y + 1)) = .inr 4 from by rw [HP.out]; exact look_nof HZ3.out z0 (by omega) hex HGD.out HHF.out (by rw [← HNF.out]; exact hyl)] at h13
          have H13 := hid_of h13
          have HB13 := hid_of (Below.next HB11.out hb13)
          clear h13 hrv hr13 hb13 ho13 hg13 HB11 HB12 HO12 HR12
          go_wp2_with fail
          refine H13.out.mono ?_
          rintro e w14 hg14
          obtain ⟨hb14, rfl⟩ := look_no hg14
          have hB14 := Below.next HB13.out hb14
          have hset : Below w5.heap.size w5 (w14.alloc (.cells #[.slice none 0 0, .slice none 0 0, .int .i64 0, .int .i64 0] 34)) := hB14.alloc hB14.size _
          have h15 := HREP.out _ hset none 0 [] (fun k u hk => by simp [strV] at hk)
          rw [repair_none HHF.out] at h15
          have H15 := hid_of h15
          have HB15 := hid_of hset
          clear h15 hset hB14  hb14 hg14 H13 HB13
          go_wp2_with fail
          refine H15.out.mono ?_
          rintro e w16 hg16
          obtain ⟨hb16, rfl⟩ := rep_no hg16
          have HFIN := hid_of (Below.next (Below.next HB0.out HB5.out) (Below.next HB15.out hb16))
          clear hb16 hg16 H15 HB15
          go_wp2_with fail
          first | exact ⟨rfl, HFIN.out⟩ | exact bodyPost_ret (by simp [results, Tryz.results7, go_sem]) rfl ⟨rfl, HFIN.out⟩
end Go.Proofs.YtonjphollmdicaaGreatDoor
