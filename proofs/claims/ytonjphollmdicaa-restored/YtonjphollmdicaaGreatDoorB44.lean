import Derived.Test.YtonjphollmdicaaGreatDoorB39
import Derived.Test.YtonjphollmdicaaGreatDoorB43
namespace Go.Proofs.YtonjphollmdicaaGreatDoor
open Go.ChangeShapes Go.WideShapes Go.ChangeAt Go.RowKit

set_option maxRecDepth 100000 in
set_option maxHeartbeats 40000000 in
theorem restored_walk (s : KSet) (a : Option Addr) (cap : Nat) (keep strange pk : List Int) (ka ta oa : Option Addr) (kc tc oc : Nat) (w : World) (hK : Kinds w) (h : KOk w s a cap) (hk : Ints w keep ka) (ht : Ints w strange ta) (ho : Ints w pk oa) :
    Calls Tryz.prog 6 #[kV s a cap, .slice ka keep.length kc, .slice ta strange.length tc, .slice oa pk.length oc] w fun e w' => e = .returned (.bool true) ∧ Below w.heap.size w w' := by
  have hb0 : Below w.heap.size w (w.alloc (.cells #[.slice a s.D.length cap, .int .i64 s.sl, .int .i64 s.ex] 54)) := (Below.refl _ _).alloc (Nat.le_refl _) _
  have hbk := Blk.new w #[.slice a s.D.length cap, .int .i64 s.sl, .int .i64 s.ex] 54
  obtain ⟨W0, hW0⟩ : ∃ W0, W0 = w.alloc (.cells #[.slice a s.D.length cap, .int .i64 s.sl, .int .i64 s.ex] 54) := ⟨_, rfl⟩
  rw [← hW0] at hb0 hbk
  have hall : ∀ W, Below W0.heap.size W0 W → Kinds W ∧ KOk W s a cap ∧ (W.cell? ⟨w.heap.size, 0, none⟩ = some (.slice a s.D.length cap) ∧ W.cell? ⟨w.heap.size, 1, none⟩ = some (.int .i64 s.sl) ∧ W.cell? ⟨w.heap.size, 2, none⟩ = some (.int .i64 s.ex)) ∧ Ints W keep ka ∧ Ints W strange ta ∧ Ints W pk oa := by
    intro W hW
    have hb := Below.next hb0 hW
    have hk' := hbk.touch (Touch.of_below hW []) (by simp)
    exact ⟨hK.later hb hK.lt, h.later hb, ⟨(hk' 0 _ rfl).1, (hk' 1 _ rfl).1, (hk' 2 _ rfl).1⟩, hk.later hb, ht.later hb, ho.later hb⟩
  have HA := hid_of hall
  have HW := hid_of hW0
  have HB0 := hid_of hb0
  have hol := ho.len
  have hkl := hk.len
  have htl := ht.len
  unfold kV
  clear hall hW0 hb0 hbk h hK hk ht ho
  go_enter Tryz.func6, Tryz.ntmps6
  go_wp2_with fail
  rw [← HW.out]
  refine (krepaired_walk W0 (HA.out W0 (Below.refl _ _)).1).mono ?_
  rintro e w1 ⟨rfl, hb1⟩
  obtain ⟨_, hok1, ⟨q0, q1, q2⟩, _, _, _⟩ := HA.out w1 hb1
  have hM := kmade_walk s a cap w1 hok1
  unfold kV at hM
  have HM := hid_of hM
  have HB1 := hid_of hb1
  clear hM hb1 hok1
  go_wp2_with fail
  refine HM.out.mono ?_
  rintro e w2 ⟨g1, c1, vp, rfl, hrdf, hownp, hb2⟩
  have hb02 := Below.next HB1.out hb2
  obtain ⟨k1, k2, k3⟩ := kFiles_short s
  have hex := kExtra_le s
  obtain ⟨z0, z1, z2, z3⟩ := kSize_facts s
  have hgd := kSet_good s
  obtain ⟨sl1, sl2⟩ := kSlices s
  obtain ⟨gp, cp, hvp⟩ : ∃ gp cp, vp = .slice (some ⟨gp, 0, none⟩) (1 + (kFiles s).length + kExtra s) cp := by
    rcases hownp.2 with ⟨_, h1⟩ | ⟨g, c, cur, h1, _⟩
    · omega
    · exact ⟨_, _, h1⟩
  subst hvp
  have hpc : 1 + (kFiles s).length + kExtra s ≤ cp := by
    rcases hownp.2 with ⟨h0, _⟩ | ⟨g, c, cur, h1, _, _, hc, _⟩
    · cases h0
    · cases h1; exact hc
  have hrp : Rd w2 (some ⟨gp, 0, none⟩) (strV (packetsL (kSize s) (kFiles s) (kExtra s))) := by
    obtain ⟨a', c', e, hr⟩ := row_rd hownp
    cases e
    exact hr
  have hks := fun W (hW : Below w2.heap.size w2 W) => kslice_walk s a cap W (HA.out W (Below.next hb02 hW)).2.1
  have hkc := fun W (hW : Below w2.heap.size w2 W) => kcut_walk (kFiles s) (kSize s) (some ⟨g1, 0, none⟩) c1 z0 (by omega) (by omega) (fun f hf => by have := (k1 f hf).2; omega) W (hrdf.later (Nat.le_refl _) hW)
  have hkL := fun W (sa : Option Addr) (sc : Nat) (hW : Below w2.heap.size w2 W) (hS : Rd W sa (strV (slicesL (kSize s) (kFiles s)))) => kleft_walk (slicesL (kSize s) (kFiles s)) keep strange sa ka ta sc kc tc sl1 sl2 W hS (HA.out W (Below.next hb02 hW)).2.2.2.1 (HA.out W (Below.next hb02 hW)).2.2.2.2.1
  unfold kV at hks
  have HKS := hid_of hks
  have HKC := hid_of hkc
  have HKL := hid_of hkL
  have HB2 := hid_of hb02
  have HRP := hid_of hrp
  have HRF := hid_of hrdf
  have HGD := hid_of hgd
  have HZ3 := hid_of z3
  have HK1 := hid_of k1
  obtain ⟨sz, hsz⟩ : ∃ n, n = kSize s := ⟨_, rfl⟩
  obtain ⟨FS, hFS⟩ : ∃ n, n = kFiles s := ⟨_, rfl⟩
  obtain ⟨ex, hexx⟩ : ∃ n, n = kExtra s := ⟨_, rfl⟩
  rw [← hsz] at HKS HKC HKL HRP HGD HZ3 z0 z1 z2
  rw [← hFS] at HKC HKL HRP HGD HRF HK1 k2 k3 hpc ⊢
  rw [← hexx] at HRP hpc hex ⊢
  obtain ⟨nf, hnf⟩ : ∃ n, n = FS.length := ⟨_, rfl⟩
  obtain ⟨SL, hSL⟩ : ∃ n, n = slicesL sz FS := ⟨_, rfl⟩
  rw [← hSL] at HKC HKL
  rw [← hsz, ← hFS, ← hSL] at sl1 sl2
  have HSL2 := hid_of sl2
  have HSL := hid_of hSL
  clear sl2 hSL
  rw [← hnf] at k2 k3 hpc HKC ⊢
  have hcur : Below w2.heap.size w2 w2 := Below.refl _ _
  have hS : ∀ W, Below w2.heap.size w2 W → W.cell? ⟨w.heap.size, 0, none⟩ = some (.slice a s.D.length cap) ∧ W.cell? ⟨w.heap.size, 1, none⟩ = some (.int .i64 s.sl) ∧ W.cell? ⟨w.heap.size, 2, none⟩ = some (.int .i64 s.ex) ∧ Below w2.heap.size w2 W := fun W hW => ⟨(HA.out W (Below.next HB2.out hW)).2.2.1.1, (HA.out W (Below.next HB2.out hW)).2.2.1.2.1, (HA.out W (Below.next HB2.out hW)).2.2.1.2.2, hW⟩
  have HS := hid_of hS
  have HNF := hid_of hnf
  obtain ⟨q0, q1, q2, _⟩ := hS w2 hcur
  clear hks hkc hkL hb02 hrp hrdf hgd z3 k1 hsz hFS hexx hnf hownp hb2 HM HB1 hS
  go_wp2_with fail
  refine (HKS.out w2 hcur).mono ?_
  rintro e w3 ⟨rfl, hb3⟩
  have H3 := hid_of (HKC.out w3 hb3)
  have HB3 := hid_of hb3
  clear hb3 HKS HKC hcur q0 q1 q2
  go_wp2_with fail
  refine H3.out.mono ?_
  rintro e w4 ⟨v4, rfl, ho4, hb4⟩
  obtain ⟨a4, c4, rfl, hr4⟩ := row_rd ho4
  have hb24 := Below.next HB3.out hb4
  have H4 := hid_of (HKL.out w4 a4 c4 hb24 hr4)
  have HB4 := hid_of hb24
  have HR4 := hid_of hr4
  clear hb4 hb24 ho4 hr4 H3 HB3 HKL
  go_wp2_with fail
  refine H4.out.mono ?_
  rintro e w5 ⟨HF, v5, rfl, hHF, hHF1, ho5, hb5⟩
  obtain ⟨a5, c5, rfl, hr5⟩ := row_rd ho5
  have hb25 := Below.next HB4.out hb5
  have HR45 := hid_of (HR4.out.later (Nat.le_refl _) hb5)
  have hb05 := Below.next HB2.out hb25
  have hp5 := HRP.out.later (Nat.le_refl _) hb25
  obtain ⟨P, hP⟩ : ∃ x, x = packetsL sz FS ex := ⟨_, rfl⟩
  rw [← hP] at hp5 HRP
  have hPl : P.length = 1 + nf + ex := by rw [hP, packets_length, HNF.out]
  have hrep := fun W (hW : Below w5.heap.size w5 W) b cb vs (hv : Rd W b (strV vs)) => Repair_walk HF vs a5 b c5 cb W (HA.out W (Below.next hb05 hW)).1 (hr5.later (Nat.le_refl _) hW) hv
  have hthr := fun W (hW : Below w5.heap.size w5 W) t => kthere_walk HF sz t a5 c5 (by omega) (by omega) (by have := hHF.1; omega) (fun f hf => by have := (hHF.2 f hf).2; omega) W (hr5.later (Nat.le_refl _) hW)
  have hcla := fun W (hW : Below w5.heap.size w5 W) => kclash_walk HF sz SL a5 a4 c5 c4 (by omega) (by omega) (by have := hHF.1; omega) (fun f hf => by have := (hHF.2 f hf).2; omega) (by omega) (fun t ht => by have := HSL2.out t ht; omega) W (hr5.later (Nat.le_refl _) hW) (HR45.out.later (Nat.le_refl _) hW)
  simp only [repairP_eq] at hrep
  have HREP := hid_of hrep
  have HTHR := hid_of hthr
  have HCLA := hid_of hcla
  have HB5 := hid_of hb05
  have HHF := hid_of hHF
  have HP := hid_of hP
  have HP5 := hid_of hp5
  have HRF5 := hid_of (HRF.out.later (Nat.le_refl _) hb25)
  obtain ⟨hn, hhn⟩ : ∃ x, x = HF.length := ⟨_, rfl⟩
  rw [← hhn] at HREP HTHR HCLA hHF1 ⊢
  obtain ⟨sn, hsn⟩ : ∃ x, x = SL.length := ⟨_, rfl⟩
  rw [← hsn] at HCLA sl1 ⊢
  have HSN := hid_of hsn
  clear hrep hthr hcla hb05 hHF hP hp5 hb25 ho5 hb5 hr5 HRP HRF HB4 H4 hhn hsn HR4
  obtain ⟨i0, hi, hzz0, hzz1, hzz2⟩ := info_parts Tryz.infoS
  have hPs : ∀ t ∈ P, t.length ≤ 3300 := by rw [HP.out]; exact packets_shorter (by omega) (by omega) HGD.out
  have HPS := hid_of hPs
  obtain ⟨n, hn'⟩ : ∃ x, x = 1 + nf + ex := ⟨_, rfl⟩
  rw [← hn'] at hPl hpc ⊢
  have hn25 : n ≤ 25 := by omega
  have HN' := hid_of hn'
  clear hPs hn'
  go_wp2_with fail
  go_loopw [16, 17, 18] (fun v cn i wr => ∃ (k : Nat) (VL : List (List UInt8)) (cnt : Nat), k ≤ n ∧ VL.length ≤ k ∧ i = .int .i64 (k : Int) ∧ cn = .int .i64 (cnt : Int) ∧ cnt ≤ k ∧ wr.ownsRow w5.heap.size 9 1 v VL.length (strV VL) ∧ Hid (VInv sz FS ex pk k VL cnt) ∧ Below w5.heap.size w5 wr)
    (fun _ _ i _ => n - (intOf i).toNat)
  case atStart => exact ⟨0, [], 0, by omega, by simp, rfl, rfl, by omega, World.ownsRow_nil _ _ _ _, hid_of (VInv.zero _ _ _ _), Below.refl _ _⟩
  case round =>
    obtain ⟨k, VL, cnt, hk, hVL, rfl, rfl, hcnt, hown, hinv, hbl⟩ := hrel
    have hszr := hbl.size
    obtain ⟨m, hm⟩ : ∃ m, m = VL.length := ⟨_, rfl⟩
    rw [← hm] at hVL hown
    have HM := hid_of hm
    clear hm
    by_cases hlt : k < n
    · have hltP : k < P.length := by omega
      obtain ⟨b', o', e, hpk⟩ := (HP5.out.later (Nat.le_refl _) hbl) k (.string (str P[k])) (by simp [strV, hltP])
      cases e
      rw [Nat.zero_add] at hpk
      have hpl := HPS.out _ (List.getElem_mem hltP)
      obtain ⟨T, hT⟩ : ∃ x, x = P[k] := ⟨_, rfl⟩
      rw [← hT] at hpk hpl
      have hgk : ∃ g, (madeFound sz FS ex)[k]? = some g ∧ g ∈ madeFound sz FS ex ∧ T = sealF g := by
        have hlm : k < (madeFound sz FS ex).length := by rw [made_len, ← HNF.out, ← HN'.out]; exact hlt
        refine ⟨(madeFound sz FS ex)[k], List.getElem?_eq_getElem hlm, List.getElem_mem hlm, ?_⟩
        have e : P[k]? = ((madeFound sz FS ex).map sealF)[k]? := by rw [HP.out, packets_map]
        rw [List.getElem?_eq_getElem hltP, List.getElem?_map, List.getElem?_eq_getElem hlm] at e
        rw [hT]
        exact Option.some.inj e
      obtain ⟨g, hg1, hg2, hTg⟩ := hgk
      have hTa := str_size T
      obtain ⟨_, _, _, _, hits, hint⟩ := HA.out wr (Below.next HB5.out hbl)
      clear hT hltP
      by_cases hkp : keptAt FS.length pk k = false
      · have hkk := hkp
        unfold keptAt at hkk
        simp only [Bool.not_eq_false', Bool.and_eq_true, decide_eq_true_eq] at hkk
        rw [← HNF.out] at hkk
        obtain ⟨⟨hnf, hc⟩, hod⟩ := hkk
        obtain ⟨ob, oo, rfl, hoc⟩ := hint.cell k hc
        have hgd : pk.getD k 0 = pk[k] := by simp [hc]
        rw [hgd] at hod
        obtain ⟨x, hx⟩ : ∃ x, x = pk[k] := ⟨_, rfl⟩
        rw [← hx] at hoc hod
        have HO := hid_of hown
        have HB := hid_of hbl
        clear hown hbl hx hgd hits hint
        go_wp2_with fail
        exact ⟨⟨k + 1, VL, cnt, by omega, by have := HM.out; omega, by go_num, rfl, by omega, by rw [← HM.out]; exact HO.out, hid_of (hinv.out.skip hkp), HB.out⟩, by simp [intOf]; omega⟩
      · rw [Bool.not_eq_false] at hkp
        have hnil : m = 0 → k = 0 := by
          intro h0
          by_cases c : k = 0
          · exact c
          · obtain ⟨t, ht, _⟩ := hinv.out.full 0 (by omega) (kept_low (by omega))
            rw [List.eq_nil_of_length_eq_zero (HM.out.symm.trans h0)] at ht
            cases ht
        have hnilV : k = 0 → VL = [] := fun h => List.eq_nil_of_length_eq_zero (by rw [← HM.out]; omega)
        have HG := hid_of hg2
        have HTG := hid_of hTg
        have HHI := hid_of hint
        have HOW := hid_of hown
        have HBL := hid_of hbl
        clear hg2 hTg hint hown hbl
        obtain ⟨cnt', hcn⟩ : ∃ x : Nat, x = cnt + if nf < k then 1 else 0 := ⟨_, rfl⟩
        by_cases hst : k < strange.length
        case' pos =>
          obtain ⟨tb, tq, rfl, htc⟩ := hits.cell k hst
          obtain ⟨y, hy⟩ : ∃ y, y = strange[k] := ⟨_, rfl⟩
          rw [← hy] at htc
          have hcv := fun W => byte_string W ((y % 256).toNat) (by omega) (y % 256) (by omega)
          obtain ⟨cb, hcb⟩ : ∃ x, x = UInt8.ofNat ((y % 256).toNat) := ⟨_, rfl⟩
          rw [← hcb] at hcv
          have hcat1 : str [cb] ++ str T = str (cb :: T) := by rw [str_add, str_data]; rfl
          have hcat2 : str (cb :: T) ++ ByteArray.mk #[83, 65, 76] = str (cb :: (T ++ [83, 65, 76])) := by rw [str_add]; rfl
          have hscb : (str [cb]).size = 1 := str_size [cb]
          have hsct : (str (cb :: T)).size = T.length + 1 := str_size (cb :: T)
          obtain ⟨T', hT'⟩ : ∃ x, x = cb :: (T ++ [83, 65, 76]) := ⟨_, rfl⟩
          rw [← hT'] at hcat2
          have hfind : findV T' = [g] := by rw [hT', HTG.out]; exact made_around z0 (by omega) HGD.out HG.out cb
          have hTl' : T'.length ≤ 4000 := by rw [hT', List.length_cons, List.length_append]; simp; omega
          obtain ⟨Wx, hWx⟩ : ∃ x, x = wr.alloc (.cells #[.int .u8 (y % 256)] 5) := ⟨_, rfl⟩
          have hbx : Below wr.heap.size wr Wx := by rw [hWx]; exact (Below.refl _ _).alloc (Nat.le_refl _) _
          clear hy hcb hT'
        case' neg =>
          obtain ⟨T', rfl⟩ : ∃ x, x = T := ⟨_, rfl⟩
          have hfind : findV T' = [g] := by rw [HTG.out]; exact packet_found z0 (by omega) HGD.out HG.out
          have hTl' : T'.length ≤ 4000 := by omega
          obtain ⟨Wx, rfl⟩ : ∃ x, x = wr := ⟨_, rfl⟩
          have hWx : Wx = Wx := rfl
          have hbx : Below Wx.heap.size Wx Wx := Below.refl _ _
        all_goals
          have HWX := hid_of hWx
          have HO := hid_of (ownsRow_later HOW.out (Nat.le_refl _) hbx)
          have HB := hid_of (HBL.out.trans (hbx.mono hszr))
          have hsx : w5.heap.size ≤ Wx.heap.size := HB.out.size
          clear hWx hbx hits HOW HBL
          by_cases hc : k < pk.length
          · obtain ⟨ob, oo, rfl, hoc⟩ := HHI.out.cell k hc
            have hxlo := HHI.out.lo _ (List.getElem_mem hc)
            have hxhi := HHI.out.hi _ (List.getElem_mem hc)
            have hgd : pk.getD k 0 = pk[k] := by simp [hc]
            have hod : nf < k → ¬ Int.tmod (pk.getD k 0) 3 = 0 := by
              intro h1 h2
              have hk2 := hkp
              unfold keptAt at hk2
              rw [← HNF.out, decide_eq_true h1, decide_eq_true hc, decide_eq_true h2] at hk2
              cases hk2
            rw [hgd] at hod
            obtain ⟨x, hx⟩ : ∃ x, x = pk[k] := ⟨_, rfl⟩
            rw [← hx] at hoc hxlo hxhi hod
            have hpick := kpick_walk x (m + 1) (by omega) (by omega) hxlo hxhi
            obtain ⟨at', hat⟩ : ∃ q, q = pickN x (m + 1) := ⟨_, rfl⟩
            have hatk : at' ≤ m := by have := pickN_lt x (m + 1) (by omega); omega
            rw [← hat, show ((m + 1 : Nat) : Int) = (m : Int) + 1 from by omega] at hpick
            have HPI := hid_of hpick
            clear hx hat hpick hgd HHI
            rcases row_all HO.out with ⟨hv0, hk0⟩ | ⟨gv, vc, hv, hvc, hvr⟩
            · obtain rfl := hnil hk0
              have hVn := hnilV rfl
              subst hVn hv0 hk0
              have hnf : ¬ nf < 0 := by omega
              obtain rfl : cnt = 0 := by omega
              clear hnil hnilV hcnt hVL
              obtain rfl : at' = 0 := by omega
              have hp0 := HPI.out
              rw [show ((0 : Nat) : Int) + 1 = 1 from rfl] at hp0
              have HP0 := hid_of hp0
              rw [Nat.add_zero] at hoc
              clear hp0 HPI hod
              try rw [Nat.add_zero] at htc
              go_wp2_with fail
              refine (HP0.out _).mono ?_
              rintro e w' ⟨rfl, hw'⟩
              rw [hw']
              clear hw' w'
              go_wp2_with (at_builtin; (first | rw [← HWX.out] | skip); refine wpList_append_rd rfl (.tmp 111) (.tmp 114) 23 rfl Wx.heap.size 9 i0 (.string ByteArray.empty) 16 Tryz.underlying23 hi hzz0 hzz1 hzz2 rfl _ _ _ rfl (World.ownsRow_nil _ _ _ _) none 0 0 [] rfl rfl (fun j u hj => by simp at hj) (fun _ => rfl) (by simp) (by unfold maxLen; omega) (by omega) (Nat.le_refl _) ?_)
              intro v7 w7 ho7 hg7
              have hb7 : Below Wx.heap.size Wx w7 := (Below.refl _ Wx).grown hg7 (Nat.le_refl _) (by intro k hk; cases hk)
              have hs7 := hb7.size
              have HB7 := hid_of hb7
              have HO7 := hid_of ho7
              clear hb7 ho7 hg7
              go_wp2_with (at_builtin; refine wpList_append_own _ rfl (.tmp 116) (.tmp 118) 23 rfl Wx.heap.size 9 i0 (.string ByteArray.empty) 1 16 Tryz.underlying23 hi hzz0 hzz1 hzz2 rfl (by decide) _ _ _ rfl (HO7.out.alloc _) ⟨w7.heap.size, 0, none⟩ 1 1 [.string (str T')] rfl rfl (cell_one_new _ _ _) (strV_one [T']) (by unfold maxLen; omega) (by omega) (by simp; omega) ?_)
              intro v8 w8 ho8 hg8 _
              have hb8 := below_step HB7.out hs7 HO7.out hg8
              have hs8 := hb8.size
              have HB8 := hid_of hb8
              have HO8 := hid_of ho8
              clear hb8 ho8 hg8
              go_wp2_with (at_builtin; refine wpList_append_rd rfl (.tmp 120) (.tmp 123) 23 rfl Wx.heap.size 9 i0 (.string ByteArray.empty) 16 Tryz.underlying23 hi hzz0 hzz1 hzz2 rfl _ _ _ rfl HO8.out none 0 0 [] rfl rfl (fun j u hj => by simp at hj) (fun _ => rfl) (by simp) (by unfold maxLen; omega) (by omega) hs8 ?_)
              all_goals
                intro v9 w9 ho9 hg9
                have hb9 : Below Wx.heap.size Wx w9 := HB8.out.grown hg9 hs8 (fun g hg => (HO8.out.lt g hg).1)
                have hmm := HM.out
                have K0 : (insL ([] : List (List UInt8)) 0 T').length = ([] : List (List UInt8)).length + 1 := by simp [insL] <;> omega
                have K1 : Hid (w9.ownsRow w5.heap.size 9 1 v9 (insL ([] : List (List UInt8)) 0 T').length (strV (insL ([] : List (List UInt8)) 0 T'))) := hid_of (ins_row (by omega) ho9 (by rw [K0, ← hmm] <;> omega) (by simp [insL, strV]))
                have K2 := hid_of (HB.out.trans (hb9.mono hsx))
                have K3 : Hid (VInv sz FS ex pk (0 + 1) (insL ([] : List (List UInt8)) 0 T') cnt') := hid_of (hinv.out.add hkp hg1 hfind hTl' (fun x => insL_mem _ _ _ _) K0 (by rw [← HNF.out]; exact hcn))
                have K4 : (insL ([] : List (List UInt8)) 0 T').length ≤ 0 + 1 := by rw [K0, ← hmm] <;> omega
                clear hb9 ho9 hg9 hmm
                go_wp2_with fail
                exact ⟨⟨0 + 1, insL ([] : List (List UInt8)) 0 T', cnt', by omega, K4, by go_num, by rw [hcn]; first | (rw [if_pos hnf]; first | rfl | go_num) | (rw [if_neg hnf]; first | rfl | go_num), by rw [hcn]; split <;> omega, K1.out, K3, K2.out⟩, by simp [intOf]; omega⟩

            · subst hv
              have hv1 : Rd Wx (some ⟨gv, 0, none⟩) (strV (VL.take at')) := by
                have := hvr.take at'
                unfold strV at this ⊢
                rw [List.map_take]
                exact this
              have HV1 := hid_of hv1
              have HV := hid_of hvr
              clear hv1 hvr
              by_cases hnf : nf < k
              case' pos => have hodd := hod hnf
              all_goals
                clear hod
                go_wp2_with fail
                refine (HPI.out _).mono ?_
                rintro e w' ⟨rfl, hw'⟩
                rw [hw']
                clear hw' w'
                go_wp2_with (at_builtin; (first | rw [← HWX.out] | skip); refine wpList_append_rd rfl (.tmp 111) (.tmp 114) 23 rfl Wx.heap.size 9 i0 (.string ByteArray.empty) 16 Tryz.underlying23 hi hzz0 hzz1 hzz2 rfl _ _ _ rfl (World.ownsRow_nil _ _ _ _) (some ⟨gv, 0, none⟩) at' vc (strV (VL.take at')) rfl (by have := HM.out; simp [strV]; omega) HV1.out (by intro h; cases h) (strV_one _) (by unfold maxLen; omega) (by omega) (Nat.le_refl _) ?_)
                intro v7 w7 ho7 hg7
                have hb7 : Below Wx.heap.size Wx w7 := (Below.refl _ Wx).grown hg7 (Nat.le_refl _) (by intro k hk; cases hk)
                have hs7 := hb7.size
                have HB7 := hid_of hb7
                have HO7 := hid_of ho7
                clear hb7 ho7 hg7
                go_wp2_with (at_builtin; refine wpList_append_own _ rfl (.tmp 116) (.tmp 118) 23 rfl Wx.heap.size 9 i0 (.string ByteArray.empty) 1 16 Tryz.underlying23 hi hzz0 hzz1 hzz2 rfl (by decide) _ _ _ rfl (HO7.out.alloc _) ⟨w7.heap.size, 0, none⟩ 1 1 [.string (str T')] rfl rfl (cell_one_new _ _ _) (strV_one [T']) (by unfold maxLen; omega) (by omega) (by simp; omega) ?_)
                intro v8 w8 ho8 hg8 _
                have hb8 := below_step HB7.out hs7 HO7.out hg8
                have hs8 := hb8.size
                have HB8 := hid_of hb8
                have HO8 := hid_of ho8
                have HV8 := hid_of (HV.out.later (Nat.le_refl _) hb8)
                clear hb8 ho8 hg8
                go_wp2_with (at_builtin; refine wpList_append_rd rfl (.tmp 120) (.tmp 123) 23 rfl Wx.heap.size 9 i0 (.string ByteArray.empty) 16 Tryz.underlying23 hi hzz0 hzz1 hzz2 rfl _ _ _ rfl HO8.out _ (m - at') (vc - at') (strV (VL.drop at')) rfl (by have := HM.out; simp [strV]; omega) (rd_tail (A := at') HV8.out HM.out.symm hvc _ (by first | exact .inl rfl | (split <;> simp_all))) (by intro h; first | cases h | (split at h <;> cases h)) (strV_one _) (by unfold maxLen; omega) (by omega) hs8 ?_)
                all_goals
                  intro v9 w9 ho9 hg9
                  have hb9 : Below Wx.heap.size Wx w9 := HB8.out.grown hg9 hs8 (fun g hg => (HO8.out.lt g hg).1)
                  have hmm := HM.out
                  have K0 : (insL VL at' T').length = VL.length + 1 := by simp [insL] <;> omega
                  have K1 : Hid (w9.ownsRow w5.heap.size 9 1 v9 (insL VL at' T').length (strV (insL VL at' T'))) := hid_of (ins_row (by omega) ho9 (by rw [K0, ← hmm] <;> omega) (by simp [insL, strV]))
                  have K2 := hid_of (HB.out.trans (hb9.mono hsx))
                  have K3 : Hid (VInv sz FS ex pk (k + 1) (insL VL at' T') cnt') := hid_of (hinv.out.add hkp hg1 hfind hTl' (fun x => insL_mem _ _ _ _) K0 (by rw [← HNF.out]; exact hcn))
                  have K4 : (insL VL at' T').length ≤ k + 1 := by rw [K0, ← hmm] <;> omega
                  clear hb9 ho9 hg9 hmm
                  go_wp2_with fail
                  exact ⟨⟨k + 1, insL VL at' T', cnt', by omega, K4, by go_num, by rw [hcn]; first | (rw [if_pos hnf]; first | rfl | go_num) | (rw [if_neg hnf]; first | rfl | go_num), by rw [hcn]; split <;> omega, K1.out, K3, K2.out⟩, by simp [intOf]; omega⟩

          · rcases row_all HO.out with ⟨hv0, hk0⟩ | ⟨gv, vc, hv, hvc, hvr⟩
            · obtain rfl := hnil hk0
              have hVn := hnilV rfl
              subst hVn hv0 hk0
              have hnf : ¬ nf < 0 := by omega
              obtain rfl : cnt = 0 := by omega
              clear hnil hnilV hcnt hVL
              try rw [Nat.add_zero] at htc
              go_wp2_with (at_builtin; (first | rw [← HWX.out] | skip); refine wpList_append_rd rfl (.tmp 111) (.tmp 114) 23 rfl Wx.heap.size 9 i0 (.string ByteArray.empty) 16 Tryz.underlying23 hi hzz0 hzz1 hzz2 rfl _ _ _ rfl (World.ownsRow_nil _ _ _ _) none 0 0 [] rfl rfl (fun j u hj => by simp at hj) (fun _ => rfl) (by simp) (by unfold maxLen; omega) (by omega) (Nat.le_refl _) ?_)
              intro v7 w7 ho7 hg7
              have hb7 : Below Wx.heap.size Wx w7 := (Below.refl _ Wx).grown hg7 (Nat.le_refl _) (by intro k hk; cases hk)
              have hs7 := hb7.size
              have HB7 := hid_of hb7
              have HO7 := hid_of ho7
              clear hb7 ho7 hg7
              go_wp2_with (at_builtin; refine wpList_append_own _ rfl (.tmp 116) (.tmp 118) 23 rfl Wx.heap.size 9 i0 (.string ByteArray.empty) 1 16 Tryz.underlying23 hi hzz0 hzz1 hzz2 rfl (by decide) _ _ _ rfl (HO7.out.alloc _) ⟨w7.heap.size, 0, none⟩ 1 1 [.string (str T')] rfl rfl (cell_one_new _ _ _) (strV_one [T']) (by unfold maxLen; omega) (by omega) (by simp; omega) ?_)
              intro v8 w8 ho8 hg8 _
              have hb8 := below_step HB7.out hs7 HO7.out hg8
              have hs8 := hb8.size
              have HB8 := hid_of hb8
              have HO8 := hid_of ho8
              clear hb8 ho8 hg8
              go_wp2_with (at_builtin; refine wpList_append_rd rfl (.tmp 120) (.tmp 123) 23 rfl Wx.heap.size 9 i0 (.string ByteArray.empty) 16 Tryz.underlying23 hi hzz0 hzz1 hzz2 rfl _ _ _ rfl HO8.out none 0 0 [] rfl rfl (fun j u hj => by simp at hj) (fun _ => rfl) (by simp) (by unfold maxLen; omega) (by omega) hs8 ?_)
              all_goals
                intro v9 w9 ho9 hg9
                have hb9 : Below Wx.heap.size Wx w9 := HB8.out.grown hg9 hs8 (fun g hg => (HO8.out.lt g hg).1)
                have hmm := HM.out
                have K0 : (insL ([] : List (List UInt8)) 0 T').length = ([] : List (List UInt8)).length + 1 := by simp [insL] <;> omega
                have K1 : Hid (w9.ownsRow w5.heap.size 9 1 v9 (insL ([] : List (List UInt8)) 0 T').length (strV (insL ([] : List (List UInt8)) 0 T'))) := hid_of (ins_row (by omega) ho9 (by rw [K0, ← hmm] <;> omega) (by simp [insL, strV]))
                have K2 := hid_of (HB.out.trans (hb9.mono hsx))
                have K3 : Hid (VInv sz FS ex pk (0 + 1) (insL ([] : List (List UInt8)) 0 T') cnt') := hid_of (hinv.out.add hkp hg1 hfind hTl' (fun x => insL_mem _ _ _ _) K0 (by rw [← HNF.out]; exact hcn))
                have K4 : (insL ([] : List (List UInt8)) 0 T').length ≤ 0 + 1 := by rw [K0, ← hmm] <;> omega
                clear hb9 ho9 hg9 hmm
                go_wp2_with fail
                exact ⟨⟨0 + 1, insL ([] : List (List UInt8)) 0 T', cnt', by omega, K4, by go_num, by rw [hcn]; first | (rw [if_pos hnf]; first | rfl | go_num) | (rw [if_neg hnf]; first | rfl | go_num), by rw [hcn]; split <;> omega, K1.out, K3, K2.out⟩, by simp [intOf]; omega⟩

            · subst hv
              have HV := hid_of hvr
              clear hvr
              by_cases hnf : nf < k
              all_goals
                go_wp2_with (at_builtin; (first | rw [← HWX.out] | skip); refine wpList_append_rd rfl (.tmp 111) (.tmp 114) 23 rfl Wx.heap.size 9 i0 (.string ByteArray.empty) 16 Tryz.underlying23 hi hzz0 hzz1 hzz2 rfl _ _ _ rfl (World.ownsRow_nil _ _ _ _) (some ⟨gv, 0, none⟩) 0 vc [] rfl rfl (fun j u hj => by simp at hj) (by intro h; cases h) (by simp) (by unfold maxLen; omega) (by omega) (Nat.le_refl _) ?_)
                intro v7 w7 ho7 hg7
                have hb7 : Below Wx.heap.size Wx w7 := (Below.refl _ Wx).grown hg7 (Nat.le_refl _) (by intro k hk; cases hk)
                have hs7 := hb7.size
                have HB7 := hid_of hb7
                have HO7 := hid_of ho7
                clear hb7 ho7 hg7
                go_wp2_with (at_builtin; refine wpList_append_own _ rfl (.tmp 116) (.tmp 118) 23 rfl Wx.heap.size 9 i0 (.string ByteArray.empty) 1 16 Tryz.underlying23 hi hzz0 hzz1 hzz2 rfl (by decide) _ _ _ rfl (HO7.out.alloc _) ⟨w7.heap.size, 0, none⟩ 1 1 [.string (str T')] rfl rfl (cell_one_new _ _ _) (strV_one [T']) (by unfold maxLen; omega) (by omega) (by simp; omega) ?_)
                intro v8 w8 ho8 hg8 _
                have hb8 := below_step HB7.out hs7 HO7.out hg8
                have hs8 := hb8.size
                have HB8 := hid_of hb8
                have HO8 := hid_of ho8
                have HV8 := hid_of (HV.out.later (Nat.le_refl _) hb8)
                clear hb8 ho8 hg8
                go_wp2_with (at_builtin; refine wpList_append_rd rfl (.tmp 120) (.tmp 123) 23 rfl Wx.heap.size 9 i0 (.string ByteArray.empty) 16 Tryz.underlying23 hi hzz0 hzz1 hzz2 rfl _ _ _ rfl HO8.out (some ⟨gv, 0, none⟩) m vc (strV VL) rfl (by have := HM.out; simp [strV]; omega) HV8.out (by intro h; cases h) (strV_one _) (by unfold maxLen; omega) (by omega) hs8 ?_)
                all_goals
                  intro v9 w9 ho9 hg9
                  have hb9 : Below Wx.heap.size Wx w9 := HB8.out.grown hg9 hs8 (fun g hg => (HO8.out.lt g hg).1)
                  have hmm := HM.out
                  have K0 : (insL VL 0 T').length = VL.length + 1 := by simp [insL] <;> omega
                  have K1 : Hid (w9.ownsRow w5.heap.size 9 1 v9 (insL VL 0 T').length (strV (insL VL 0 T'))) := hid_of (ins_row (by omega) ho9 (by rw [K0, ← hmm] <;> omega) (by simp [insL, strV]))
                  have K2 := hid_of (HB.out.trans (hb9.mono hsx))
                  have K3 : Hid (VInv sz FS ex pk (k + 1) (insL VL 0 T') cnt') := hid_of (hinv.out.add hkp hg1 hfind hTl' (fun x => insL_mem _ _ _ _) K0 (by rw [← HNF.out]; exact hcn))
                  have K4 : (insL VL 0 T').length ≤ k + 1 := by rw [K0, ← hmm] <;> omega
                  clear hb9 ho9 hg9 hmm
                  go_wp2_with fail
                  exact ⟨⟨k + 1, insL VL 0 T', cnt', by omega, K4, by go_num, by rw [hcn]; first | (rw [if_pos hnf]; first | rfl | go_num) | (rw [if_neg hnf]; first | rfl | go_num), by rw [hcn]; split <;> omega, K1.out, K3, K2.out⟩, by simp [intOf]; omega⟩

    · obtain rfl : k = n := by omega
      have hV : VInv sz FS ex pk (1 + FS.length + ex) VL cnt := by rw [← HNF.out, ← HN'.out]; exact hinv.out
      obtain ⟨gv, vc, hv, hvc, hvr⟩ : ∃ g c, u16 = .slice (some ⟨g, 0, none⟩) m c ∧ m ≤ c ∧ Rd wr (some ⟨g, 0, none⟩) (strV VL) := by
        rcases row_all hown with ⟨_, h0⟩ | h
        · obtain ⟨t, ht, _⟩ := hinv.out.full 0 (by have := HN'.out; omega) (kept_low (by omega))
          rw [List.eq_nil_of_length_eq_zero (HM.out.symm.trans h0)] at ht
          cases ht
        · exact h
      subst hv
      have HVI := hid_of hV
      have HB := hid_of hbl
      have HVR := hid_of hvr
      clear hown hbl hvr hinv hV
      obtain ⟨Wo, rfl⟩ : ∃ x, x = wr := ⟨wr, rfl⟩
      go_wp2_with fail
      go_loopw [22, 23] (fun lo i wr => ∃ (j q : Nat), j ≤ sn ∧ q ≤ j ∧ lo = .int .i64 (q : Int) ∧ i = .int .i64 (j : Int) ∧ Hid (q = lostT HF sz (SL.take j)) ∧ Below Wo.heap.size Wo wr)
        (fun _ i _ => sn - (intOf i).toNat)
      case atStart => exact ⟨0, 0, by omega, by omega, rfl, rfl, hid_of rfl, Below.refl _ _⟩
      case round =>
        obtain ⟨j, q, hj, hq, rfl, rfl, hlo, hbl⟩ := hrel
        have hb5 := Below.next HB.out hbl
        by_cases hlt2 : j < sn
        · have hjS : j < SL.length := by rw [← HSN.out]; exact hlt2
          obtain ⟨sb, so, rfl, hsc⟩ := (HR45.out.later (Nat.le_refl _) hb5) j (.string (str SL[j])) (by simp [strV, hjS])
          have hth := HTHR.out wr hb5 SL[j]
          have hsn := lostT_snoc HF sz (SL.take j) SL[j]
          rw [← take_snoc SL j hjS] at hsn
          obtain ⟨S, hS⟩ : ∃ x, x = SL[j] := ⟨_, rfl⟩
          rw [← hS] at hsc hth hsn
          have HTH := hid_of hth
          have HSO := hid_of hsn
          have HBL := hid_of hbl
          have hszr2 := hbl.size
          clear hth hsn hbl hS hb5 hjS
          go_wp2_with fail
          refine HTH.out.mono ?_
          rintro e w6 ⟨rfl, hb6⟩
          have HB6 := hid_of (HBL.out.trans (hb6.mono hszr2))
          clear hb6 HBL HTH
          cases hv : thereL HF sz S with
          | true =>
            go_wp2_with fail
            exact ⟨⟨j + 1, q, by omega, by omega, rfl, by go_num, hid_of (by rw [HSO.out, hv, hlo.out]; rfl), HB6.out⟩, by simp [intOf]; omega⟩
          | false =>
            go_wp2_with fail
            exact ⟨⟨j + 1, q + 1, by omega, by omega, by go_num, by go_num, hid_of (by rw [HSO.out, hv, hlo.out]; rfl), HB6.out⟩, by simp [intOf]; omega⟩
        · obtain rfl : j = sn := by omega
          have hqT : q = lostT HF sz SL := by rw [hlo.out, List.take_of_length_le (by rw [← HSN.out]; exact Nat.le_refl _)]
          have h7 := HREP.out wr hb5 (some ⟨gv, 0, none⟩) vc VL (HVR.out.later (Nat.le_refl _) hbl)
          rw [← HM.out] at h7
          obtain ⟨R, hR⟩ : ∃ x, x = repairL HF VL := ⟨_, rfl⟩
          rw [← hR] at h7
          have H7 := hid_of h7
          have HR := hid_of hR
          have HQT := hid_of hqT
          have HB7 := hid_of hb5
          clear h7 hR hqT hb5 hbl hlo
          go_wp2_with fail
          refine H7.out.mono ?_
          rintro e w8 hg8
          obtain ⟨hb8, rb, rd, rfl, hrb⟩ := rep_out hg8
          have hb58 := Below.next HB7.out hb8
          have H8 := hid_of (HCLA.out w8 hb58)
          have HB8 := hid_of hb58
          have HRB := hid_of hrb
          clear hg8 hb8 hb58 hrb H7
          go_wp2_with fail
          refine H8.out.mono ?_
          rintro e w9 ⟨⟨v, rfl, hno⟩, hb9⟩
          have HB9 := hid_of (Below.next HB8.out hb9)
          have HRB9 := hid_of (HRB.out.later (Nat.le_refl _) hb9)
          clear hb9 H8 HRB HB8
          cases v with
          | true =>
            have HFIN := hid_of (Below.next (Below.next HB0.out HB5.out) HB9.out)
            clear hno HB9 HRB9
            go_wp2_with fail
            first | exact ⟨rfl, HFIN.out⟩ | exact bodyPost_ret (by simp [results, Tryz.results6, go_sem]) rfl ⟨rfl, HFIN.out⟩
          | false =>
            have hno := hno rfl
            have hRe := restored_eq HZ3.out (by omega) (by omega) z2 hex HGD.out HVI.out HHF.out (by rw [← HSL.out]; exact hno)
            rw [← HSL.out, ← HQT.out, ← HR.out] at hRe
            by_cases hl : cnt < q
            · rw [if_pos hl] at hRe
              subst hRe
              have HFIN := hid_of (Below.next (Below.next HB0.out HB5.out) HB9.out)
              clear hno HB9 HRB9
              dsimp only [outA, outN', List.length_nil]
              go_wp2_with fail
              first | exact ⟨rfl, HFIN.out⟩ | exact bodyPost_ret (by simp [results, Tryz.results6, go_sem]) rfl ⟨rfl, HFIN.out⟩
            · rw [if_neg hl] at hRe
              subst hRe
              have hks := ksame_walk FS FS rb (some ⟨g1, 0, none⟩) rd c1 (by rw [← HNF.out]; omega) (by rw [← HNF.out]; omega) w9 HRB9.out (HRF5.out.later (Nat.le_refl _) HB9.out)
              rw [beq_self_eq_true, ← HNF.out] at hks
              dsimp only [outA, outN']
              rw [← HNF.out]
              have HKS := hid_of hks
              clear hno hks HRB9
              go_wp2_with fail
              refine HKS.out.mono ?_
              rintro e w10 ⟨rfl, hb10⟩
              have HFIN := hid_of (Below.next (Below.next HB0.out HB5.out) (Below.next HB9.out hb10))
              clear hb10 HKS HB9
              go_wp2_with fail
              first | exact ⟨rfl, HFIN.out⟩ | exact bodyPost_ret (by simp [results, Tryz.results6, go_sem]) rfl ⟨rfl, HFIN.out⟩
end Go.Proofs.YtonjphollmdicaaGreatDoor
