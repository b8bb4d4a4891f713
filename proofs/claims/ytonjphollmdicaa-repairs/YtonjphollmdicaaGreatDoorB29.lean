import Derived.Test.YtonjphollmdicaaGreatDoorB04
import Derived.Test.YtonjphollmdicaaGreatDoorB27
import Derived.Test.YtonjphollmdicaaGreatDoorB28
import Derived.Deep.QuietTactic
import Derived.BigQuiet
import Derived.Deep.RegionHeld
import Derived.Deep.RegionHeldLaw
import Derived.Laws.AppendOwnNone
namespace Go.Proofs.YtonjphollmdicaaGreatDoor
open Go.ChangeShapes Go.WideShapes Go.ChangeAt Go.RowKit
theorem rsize_walk (n : Int) (w : World) :
    Calls Tryz.prog 65 #[.int .i64 n] w fun e w' => e = .returned (.bool (sliceSize n)) ∧ w' = w := by
  by_cases h1 : 2 ≤ n
  · by_cases h2 : n ≤ 32
    · have e : n.tmod 2 = n % 2 := Int.tmod_eq_emod_of_nonneg (by omega)
      go_enter Tryz.func65, Tryz.ntmps65
      go_wp2
      go_ret
      refine ⟨?_, rfl⟩
      show Ending.returned (.bool (n % 2 == 0)) = _
      have e2 : (n % 2 == 0) = sliceSize n := by
        unfold sliceSize
        by_cases h3 : n % 2 = 0
        · simp [h1, h2, h3]
        · simp [h3]
      rw [e2]
    · go_enter Tryz.func65, Tryz.ntmps65
      go_wp2
      go_ret
      refine ⟨?_, rfl⟩
      have e2 : sliceSize n = false := by unfold sliceSize; exact decide_eq_false (by omega)
      rw [e2]
      rfl
  · go_enter Tryz.func65, Tryz.ntmps65
    go_wp2
    go_ret
    refine ⟨?_, rfl⟩
    have e2 : sliceSize n = false := by unfold sliceSize; exact decide_eq_false (by omega)
    rw [e2]
    rfl
theorem rinverse_walk (a : Nat) (ha : a < 65536) (w : World) :
    Calls Tryz.prog 105 #[.int .u16 (a : Int)] w fun e w' => e = .returned (.int .u16 ((Math.inv a : Nat) : Int)) ∧ w' = w := by
  go_enter Tryz.func105, Tryz.ntmps105
  go_wp2
  go_loop [0, 3, 4] (fun x p i => ∃ k a' p' : Nat, k ≤ 15 ∧ a' < 65536 ∧ p' < 65536 ∧ Hid (Math.invGo (15 - k) a' p' = Math.inv a) ∧ x = .int .u16 (a' : Int) ∧ p = .int .u16 (p' : Int) ∧ i = .int .i64 (k : Int))
                    (fun _ _ i => 15 - (intOf i).toNat)
  case atStart => exact ⟨0, a, 1, by omega, ha, by omega, hid_of rfl, rfl, rfl, rfl⟩
  case round =>
    obtain ⟨k, a', p', hk, ha', hp', hm, rfl, rfl, rfl⟩ := hrel
    by_cases hlt : k < 15
    · have hs : Math.mul a' a' < 65536 := Math.mul_lt ha' a'
      go_wp2_with fail
      refine (refTimes_walk a' a' ha' ha' w).mono ?_
      rintro e w' ⟨rfl, rfl⟩
      go_wp2_with fail
      refine (refTimes_walk p' (Math.mul a' a') hp' hs _).mono ?_
      rintro e w' ⟨rfl, rfl⟩
      go_wp2_with fail
      refine ⟨⟨k + 1, Math.sq a', Math.mul p' (Math.sq a'), by omega, Math.sq_lt ha', Math.mul_lt hp' _, hid_of ?_, rfl, rfl, by go_num⟩, ?_⟩
      · have := hm.out
        rw [show 15 - k = (15 - (k + 1)) + 1 from by omega] at this
        exact this
      · simp [intOf]; omega
    · have hk15 : k = 15 := by omega
      subst hk15
      go_wp2_with fail
      go_ret
      have := hm.out
      simp only [Nat.sub_self, Math.invGo] at this
      rw [← this]
      exact ⟨rfl, rfl⟩
set_option maxRecDepth 100000 in
theorem rPacket_walk (kd : UInt8) (set : Nat) (body : List UInt8) (hset : set < P64) (hl : body.length ≤ 60000) (w : World) :
    Calls Tryz.prog 70 #[.string (str [kd]), .int .u64 (set : Int), .string (str body)] w fun e w' => e = .returned (.string (str (sealL kd set body))) ∧ Below w.heap.size w w' := by
  have sb := str_size body
  have hlen : (headL kd set body).length = 14 + body.length := by simp [headL, numBytes_len]; omega
  have hH := hashL_lt (headL kd set body)
  have HH := hid_of hH
  have HS := hid_of hset
  have hp : (({ data := #[83, 65, 76] } : ByteArray) ++ str [kd]) = str [83, 65, 76, kd] := strs [83, 65, 76] [kd]
  have s1 : (str [83, 65, 76, kd]).size = 4 := rfl
  have s0 : (str [kd]).size = 1 := rfl
  have s2 : (str (numBytes set 8)).size = 8 := by rw [str_size, numBytes_len]
  have s3 : (str (numBytes body.length 2)).size = 2 := by rw [str_size, numBytes_len]
  obtain ⟨p1, hp1⟩ : ∃ p, p = [83, 65, 76, kd] ++ numBytes set 8 := ⟨_, rfl⟩
  have e1 : str [83, 65, 76, kd] ++ str (numBytes set 8) = str p1 := by rw [hp1]; exact strs _ _
  have z1 : (str p1).size = 12 := by rw [str_size, hp1]; simp [numBytes_len]
  obtain ⟨p2, hp2⟩ : ∃ p, p = p1 ++ numBytes body.length 2 := ⟨_, rfl⟩
  have e2 : str p1 ++ str (numBytes body.length 2) = str p2 := by rw [hp2]; exact strs _ _
  have z2 : (str p2).size = 14 := by rw [str_size, hp2, hp1]; simp [numBytes_len]
  have e3 : str p2 ++ str body = str (headL kd set body) := by rw [hp2, hp1]; exact strs _ _
  have z3 : (str (headL kd set body)).size = 14 + body.length := by rw [str_size, hlen]
  have e4 : str (headL kd set body) ++ str (numBytes (hashL (headL kd set body)) 8) = str (sealL kd set body) := strs _ _
  have s4 : (str (numBytes (hashL (headL kd set body)) 8)).size = 8 := by rw [str_size, numBytes_len]
  have E4 := hid_of e4
  clear hH hset e4 hp1 hp2
  have wl : IntKind.u64.wrap (body.length : Int) = (body.length : Int) := by rw [IntKind.wrap_u64]; omega
  go_enter Tryz.func70, Tryz.ntmps70
  go_wp2_with fail
  refine (rBytes_walk 8 set w (by omega) HS.out).mono ?_
  rintro e w1 ⟨rfl, hb1⟩
  go_wp2_with fail
  refine (rBytes_walk 2 body.length w1 (by omega) (by unfold P64; omega)).mono ?_
  rintro e w2 ⟨rfl, hb2⟩
  go_wp2_with fail
  refine (rHash_l (headL kd set body) (by omega) _).mono ?_
  rintro e w3 ⟨rfl, rfl⟩
  go_wp2_with fail
  refine (rBytes_walk 8 (hashL (headL kd set body)) _ (by omega) HH.out).mono ?_
  rintro e w4 ⟨rfl, hb4⟩
  go_wp2_with fail
  go_ret
  refine ⟨congrArg (fun s => Ending.returned (Value.string s)) E4.out, Below.next (Below.next hb1 hb2) hb4⟩
theorem hasNameL_drop (fs : List FileL) (name : List UInt8) (i k : Nat) (hi : i ≤ fs.length) (hk : k < i) : hasNameL ((fs.take i).drop k) name = ((fs[k]'(by omega)).1 == name || hasNameL ((fs.take i).drop (k + 1)) name) := by
  rw [List.drop_eq_getElem_cons (by rw [List.length_take]; omega)]
  simp only [hasNameL, List.any_cons, List.getElem_take]
set_option maxRecDepth 100000 in
theorem twice_walk (fs : List FileL) (a : Option Addr) (cap : Nat) (hn : fs.length ≤ 1000) (w : World) (hrd : Rd w a (filesV fs)) :
    Calls Tryz.prog 89 #[.slice a fs.length cap] w fun e w' => e = .returned (.bool (twiceL fs)) ∧ Below w.heap.size w w' := by
  go_enter Tryz.func89, Tryz.ntmps89
  go_wp2_with fail
  go_loopw [3, 4] (fun i _ wr => ∃ k : Nat, k ≤ fs.length ∧ i = .int .i64 (k : Int) ∧ Below w.heap.size w wr ∧ Hid (∀ j, j < k → dupAt fs j = false))
    (fun i _ _ => fs.length - (intOf i).toNat)
  case atStart => exact ⟨0, by omega, rfl, Below.refl _ _, hid_of (by intro j hj; omega)⟩
  case round =>
    obtain ⟨k, hk, rfl, hbl, hd⟩ := hrel
    have HB0 := hid_of hbl
    clear hbl
    by_cases hlt : k < fs.length
    · have hdup : dupAt fs k = hasNameL (fs.take k) fs[k].1 := by unfold dupAt; rw [List.getElem?_eq_getElem hlt]
      have hyes : dupAt fs k = true → twiceL fs = true := fun h => List.any_eq_true.2 ⟨k, by simpa using hlt, h⟩
      have hno : dupAt fs k = false → ∀ j, j < k + 1 → dupAt fs j = false := by
        intro h j hj
        rcases Nat.lt_or_ge j k with h' | h'
        · exact hd.out j h'
        · have : j = k := by omega
          subst this
          exact h
      rw [hdup] at hyes hno
      have HY := hid_of hyes
      have HN := hid_of hno
      clear hyes hno hdup hd
      go_wp2_with fail
      go_loopw [4] (fun i wr => ∃ q : Nat, q ≤ k ∧ i = .int .i64 (q : Int) ∧ Below w.heap.size w wr ∧ Hid (hasNameL ((fs.take k).drop q) fs[k].1 = hasNameL (fs.take k) fs[k].1))
        (fun i _ => k - (intOf i).toNat)
      case atStart => exact ⟨0, by omega, rfl, HB0.out, hid_of rfl⟩
      case round =>
        clear HB0
        obtain ⟨q, hq, rfl, hbl, hm⟩ := hrel
        by_cases hql : q < k
        · have hdk := hasNameL_drop fs fs[k].1 k q (by omega) hql
          have HD := hid_of hdk
          clear hdk
          obtain ⟨b, off, rfl, hc1, _⟩ := fileCells hrd (Nat.le_refl _) hbl k hlt
          obtain ⟨b', off', e', hc3, _⟩ := fileCells hrd (Nat.le_refl _) hbl q (by omega)
          cases e'
          have hq2 : q < fs.length := by omega
          have g1 : (k : Int) < (fs.length : Int) := by omega
          have g2 : (q : Int) < (fs.length : Int) := by omega
          obtain ⟨n1, hn1⟩ : ∃ x, x = fs[k].1 := ⟨_, rfl⟩
          obtain ⟨n2, hn2⟩ : ∃ x, x = fs[q].1 := ⟨_, rfl⟩
          rw [← hn1] at HD hm hc1 HY HN
          rw [← hn2] at HD hc3
          have HN1 := hid_of hn1
          clear hn1 hn2
          have HB := hid_of hbl
          have HR := hid_of hrd
          clear hbl hrd
          go_wp2_with fail
          go_quiet (fail)
          go_wp2_with fail
          · go_ret
            have he : ((str n1).toList == (str n2).toList) = true := by assumption
            rw [str_toList, str_toList] at he
            have h2 := beq_iff_eq.1 he
            subst h2
            have := hm.out
            rw [HD.out] at this
            simp at this
            rw [HY.out this]
            exact ⟨rfl, rdrewN HB.out _⟩
          · have he : ((str n1).toList == (str n2).toList) = false := by assumption
            rw [str_toList, str_toList] at he
            have := hm.out
            rw [HD.out, show (n2 == n1) = false from by rw [beq_eq_false_iff_ne] at he ⊢; exact fun h => he h.symm] at this
            rw [HN1.out] at this
            exact ⟨⟨q + 1, by omega, by go_num, rdrewN HB.out _, hid_of (by simpa using this)⟩, by simp [intOf]; omega⟩
        · obtain rfl : q = k := by omega
          have h0 : hasNameL (fs.take q) fs[q].1 = false := by
            rw [← hm.out, List.drop_eq_nil_of_le (by rw [List.length_take]; omega)]
            rfl
          have H2 := hid_of (HN.out h0)
          have HB := hid_of hbl
          clear h0 HY HN hm hbl
          go_wp2_with fail
          exact ⟨⟨q + 1, by omega, by go_num, HB.out, H2⟩, by simp [intOf]; omega⟩
    · obtain rfl : k = fs.length := by omega
      go_wp2_with fail
      go_ret
      have e : twiceL fs = false := by
        unfold twiceL
        rw [List.any_eq_false]
        intro j hj
        have := hd.out j (by simpa using hj)
        simp [this]
      rw [e]
      exact ⟨rfl, HB0.out⟩
theorem isSetL_parts (fs : List FileL) : isSetL fs = (decide (1 ≤ fs.length ∧ fs.length ≤ 6) && fs.all fitsL && !twiceL fs) := by
  have h : (List.range fs.length).all (okAt fs) = (fs.all fitsL && !twiceL fs) := by
    rw [Bool.eq_iff_iff, Bool.and_eq_true, List.all_eq_true, List.all_eq_true, Bool.not_eq_true', twiceL, List.any_eq_false]
    constructor
    · intro h
      refine ⟨?_, ?_⟩
      · intro f hf
        obtain ⟨i, hi, rfl⟩ := List.mem_iff_getElem.1 hf
        have := h i (by simpa using hi)
        unfold okAt at this
        rw [List.getElem?_eq_getElem hi, Bool.and_eq_true] at this
        exact this.1
      · intro i hi
        have hi' : i < fs.length := by simpa using hi
        have := h i hi
        unfold okAt at this
        rw [List.getElem?_eq_getElem hi', Bool.and_eq_true] at this
        unfold dupAt
        rw [List.getElem?_eq_getElem hi']
        simpa using this.2
    · rintro ⟨h1, h2⟩ i hi
      have hi' : i < fs.length := by simpa using hi
      unfold okAt
      rw [List.getElem?_eq_getElem hi']
      have := h2 i hi
      unfold dupAt at this
      rw [List.getElem?_eq_getElem hi'] at this
      simp only [Bool.and_eq_true]
      exact ⟨h1 _ (List.getElem_mem hi'), by simpa using this⟩
  unfold isSetL
  rw [h, Bool.and_assoc]
set_option maxRecDepth 100000 in
theorem rset_walk (fs : List FileL) (a : Option Addr) (cap : Nat) (hl : ∀ f ∈ fs, f.1.length < 140737488355328 ∧ f.2.length < 140737488355328) (w : World) (hrd : Rd w a (filesV fs)) :
    Calls Tryz.prog 66 #[.slice a fs.length cap] w fun e w' => e = .returned (.bool (isSetL fs)) ∧ Below w.heap.size w w' := by
  by_cases h1 : fs.length < 1
  · have e : isSetL fs = false := by unfold isSetL; rw [decide_eq_false (by omega)]; rfl
    go_enter Tryz.func66, Tryz.ntmps66
    go_wp2
    go_ret
    exact ⟨by first | rfl | (rw [e]; rfl), Below.refl _ _⟩
  · by_cases h2 : 6 < fs.length
    · have e : isSetL fs = false := by unfold isSetL; rw [decide_eq_false (by omega)]; rfl
      go_enter Tryz.func66, Tryz.ntmps66
      go_wp2
      go_ret
      exact ⟨by first | rfl | (rw [e]; rfl), Below.refl _ _⟩
    · go_enter Tryz.func66, Tryz.ntmps66
      go_wp2_with fail
      go_loop [3] (fun i => ∃ k : Nat, k ≤ fs.length ∧ i = .int .i64 (k : Int) ∧ Hid (∀ f ∈ fs.take k, fitsL f = true))
        (fun i => fs.length - (intOf i).toNat)
      case atStart => exact ⟨0, by omega, rfl, hid_of (by intro f hf; simp at hf)⟩
      case round =>
        obtain ⟨k, hk, rfl, hd⟩ := hrel
        by_cases hlt : k < fs.length
        · obtain ⟨b, off, rfl, hc1, hc2⟩ := fileCells hrd (Nat.le_refl _) (Below.refl _ w) k hlt
          have hf := hl fs[k] (List.getElem_mem hlt)
          have hyes : fitsL fs[k] = true → ∀ f ∈ fs.take (k + 1), fitsL f = true := by
            intro h f hf
            rw [take_snoc fs k hlt, List.mem_append] at hf
            rcases hf with hf | hf
            · exact hd.out f hf
            · simp at hf; subst hf; exact h
          have hno : fitsL fs[k] = false → isSetL fs = false := by
            intro h
            rw [isSetL_parts, show fs.all fitsL = false from List.all_eq_false.2 ⟨fs[k], List.getElem_mem hlt, by simp [h]⟩]
            simp
          have hfe : fitsL fs[k] = decide (1 ≤ fs[k].1.length ∧ fs[k].1.length ≤ 20 ∧ fs[k].2.length ≤ 400) := rfl
          obtain ⟨n1, hn1⟩ : ∃ x, x = fs[k].1 := ⟨_, rfl⟩
          obtain ⟨n2, hn2⟩ : ∃ x, x = fs[k].2 := ⟨_, rfl⟩
          rw [← hn1] at hfe hf hc1
          rw [← hn2] at hfe hf hc2
          have HF := hid_of hfe
          have HY := hid_of hyes
          have HN := hid_of hno
          have HRD := hid_of hrd
          have HL := hid_of hl
          clear hn1 hn2 hfe hyes hno hd hrd hl
          have s1 := str_size n1
          have s2 := str_size n2
          have hB : Hid (Below w.heap.size w w) := hid_of (Below.refl _ _)
          by_cases t1 : n1.length < 1
          · go_wp2_with fail
            go_ret
            rw [HN.out (by rw [HF.out]; exact decide_eq_false (by omega))]
            exact ⟨rfl, hB.out⟩
          · by_cases t2 : 20 < n1.length
            · go_wp2_with fail
              go_ret
              rw [HN.out (by rw [HF.out]; exact decide_eq_false (by omega))]
              exact ⟨rfl, hB.out⟩
            · by_cases t3 : 400 < n2.length
              · go_wp2_with fail
                go_ret
                rw [HN.out (by rw [HF.out]; exact decide_eq_false (by omega))]
                exact ⟨rfl, hB.out⟩
              · go_wp2_with fail
                exact ⟨⟨k + 1, by omega, by go_num, hid_of (HY.out (by rw [HF.out]; exact decide_eq_true (by omega)))⟩, by simp [intOf]; omega⟩
        · obtain rfl : k = fs.length := by omega
          have hall : fs.all fitsL = true := by
            rw [List.all_eq_true]
            intro f hf
            exact hd.out f (by rw [List.take_length]; exact hf)
          have hset : isSetL fs = !twiceL fs := by
            rw [isSetL_parts, hall, decide_eq_true (by omega)]
            simp
          have HS := hid_of hset
          clear hset hall hd
          have HRD := hid_of hrd
          clear hl hrd
          go_wp2_with fail
          refine (twice_walk fs a cap (by omega) w HRD.out).mono ?_
          rintro e w1 ⟨rfl, hb1⟩
          go_wp2_with fail
          go_ret
          rw [HS.out]
          exact ⟨rfl, hb1⟩
end Go.Proofs.YtonjphollmdicaaGreatDoor
namespace Go.Proofs.YtonjphollmdicaaGreatDoor
open Go.ChangeShapes Go.WideShapes Go.ChangeAt Go.RowKit
set_option maxRecDepth 100000 in
theorem rslice_walk (r : List Nat) (a : Option Addr) (cap : Nat) (hr : r.length ≤ 1000) (hx : ∀ x ∈ r, x < 65536) (w : World) (hrd : Rd w a (u16V r)) :
  Calls Tryz.prog 73 #[.slice a r.length cap] w fun e w' => e = .returned (.string (str (textL r))) ∧ Below w.heap.size w w' := by
 go_enter Tryz.func73, Tryz.ntmps73
 go_wp2_with fail
 go_loopw [3, 4] (fun s i wr => ∃ k : Nat, k ≤ r.length ∧ s = .string (str (textL (r.take k))) ∧ i = .int .i64 (k : Int) ∧ Below w.heap.size w wr)
  (fun _ i _ => r.length - (intOf i).toNat)
 case atStart => exact ⟨0, by omega, rfl, rfl, Below.refl _ _⟩
 case round =>
  obtain ⟨k, hk, rfl, rfl, hbl⟩ := hrel
  have hsz := hbl.size
  by_cases hlt : k < r.length
  ·obtain ⟨b, off, rfl, hc0⟩ := u16_get hrd k (by omega)
   have hc : wr.cell? ⟨b, off + k, none⟩ = some (.int .u16 ((r.getD k 0 : Nat) : Int)) := by
    rw [hbl.cell (World.block_lt_of_cell? w _ hc0)]; exact hc0
   have hxl := getD_lt hx k
   have hs1 : (str (textL (r.take k))).size ≤ 2000 := by rw [str_size, textL_len, List.length_take]; omega
   have e : textL (r.take (k + 1)) = textL (r.take k) ++ numBytes (r.getD k 0) 2 := by
    rw [take_snoc r k hlt, textL_snoc]
    congr 2
    simp [hlt]
   have e2 : str (textL (r.take k)) ++ str (numBytes (r.getD k 0) 2) = str (textL (r.take (k + 1))) := by rw [strs, e]
   have hs2 : (str (numBytes (r.getD k 0) 2)).size = 2 := by rw [str_size, numBytes_len]
   obtain ⟨x, hxe⟩ : ∃ x, x = r.getD k 0 := ⟨_, rfl⟩
   rw [← hxe] at hc hxl e2 hs2
   obtain ⟨s0, hs0⟩ : ∃ x, x = textL (r.take k) := ⟨_, rfl⟩
   rw [← hs0] at e2 hs1 ⊢
   have HE2 := hid_of e2
   have HB := hid_of hbl
   have HRD := hid_of hrd
   have HX := hid_of hx
   clear e e2 hxe hs0 hbl hrd hx hc0
   go_wp2_with fail
   refine (rBytes_walk 2 x wr (by omega) (by unfold P64; omega)).mono ?_
   rintro e w1 ⟨rfl, hb1⟩
   go_wp2_with fail
   exact ⟨⟨k + 1, by omega, by rw [HE2.out], by go_num, HB.out.trans (hb1.mono hsz)⟩, by simp [intOf]; omega⟩
  ·obtain rfl : k = r.length := by omega
   go_wp2_with fail
   go_ret
   exact ⟨by first | rfl | (rw [List.take_length]; rfl), hbl⟩
theorem slicesL_snoc (size : Nat) (fs : List FileL) (k : Nat) (h : k < fs.length) : slicesL size (fs.take (k + 1)) = slicesL size (fs.take k) ++ cutL fs[k].2 size := by
 unfold slicesL
 rw [take_snoc fs k h, List.flatMap_append]
 simp
theorem slicesL_len (size : Nat) (fs : List FileL) (h0 : 0 < size) : (slicesL size fs).length = countL fs size := by
 have := rowsL_count size fs h0
 simpa [rowsL] using this
theorem countL_snoc (size : Nat) (fs : List FileL) (k : Nat) (h : k < fs.length) : countL (fs.take (k + 1)) size = countL (fs.take k) size + slicesOfN fs[k].2.length size := by
 unfold countL
 rw [take_snoc fs k h, List.map_append, List.sum_append]
 rfl
theorem own_apart {W W' : World} {b b' : Nat} {e : TypeId} {s s' : Nat} {v v' : Value} {n n' : Nat} {xs xs' : List Value} (h : W.ownsRow b e s v n xs) (hlt : W.heap.size ≤ b') (h' : W'.ownsRow b' e s' v' n' xs') : v.ownBlock = none ∨ v.ownBlock ≠ v'.ownBlock := by
 rcases h.2 with ⟨rfl, _⟩ | ⟨g, cap, cur, rfl, hg, hc, _⟩
 ·exact Or.inl rfl
 ·right
  have : g < W.heap.size := by
   rw [Array.getElem?_eq_some_iff] at hc
   exact hc.1
  rcases h'.2 with ⟨rfl, _⟩ | ⟨g', cap', cur', rfl, hg', _⟩
  ·simp [Value.ownBlock]
  ·simp [Value.ownBlock]; omega
set_option maxRecDepth 100000 in
theorem rall_of (hS : ∀ (data : List UInt8) (size : Nat), 0 < size → size ≤ 32 → data.length ≤ 400 → ∀ w : World,
  Calls Tryz.prog 104 #[.string (str data), .int .i64 (size : Int)] w fun e w' => ∃ v', e = .returned v' ∧ w'.ownsRow w.heap.size 9 1 v' (slicesOfN data.length size) (strV (cutL data size)) ∧ Below w.heap.size w w')
  (fs : List FileL) (size : Nat) (a : Option Addr) (cap : Nat) (h0 : 0 < size) (h1 : size ≤ 32) (hn : fs.length ≤ 6) (hf : ∀ f ∈ fs, f.2.length ≤ 400) (w : World) (hrd : Rd w a (filesV fs)) :
  Calls Tryz.prog 67 #[.slice a fs.length cap, .int .i64 (size : Int)] w fun e w' => ∃ v', e = .returned v' ∧ w'.ownsRow w.heap.size 9 1 v' (countL fs size) (strV (slicesL size fs)) ∧ Below w.heap.size w w' := by
 obtain ⟨i0, hi, hz0, hz1, hz2⟩ := info_parts Tryz.infoS
 have HS := hid_of hS
 clear hS
 go_enter Tryz.func67, Tryz.ntmps67
 go_wp2_with fail
 go_loopw [5, 6, 7] (fun l i _ wr => ∃ k : Nat, k ≤ fs.length ∧ i = .int .i64 (k : Int) ∧ wr.ownsRow w.heap.size 9 1 l (countL (fs.take k) size) (strV (slicesL size (fs.take k))) ∧ Below w.heap.size w wr)
  (fun _ i _ _ => fs.length - (intOf i).toNat)
 case atStart => exact ⟨0, by omega, rfl, World.ownsRow_nil _ _ _ _, Below.refl _ _⟩
 case round =>
  obtain ⟨k, hk, rfl, hownr, hbl⟩ := hrel
  have hsz := hbl.size
  by_cases hlt : k < fs.length
  ·obtain ⟨b, off, rfl, hc1, hc2⟩ := fileCells hrd (Nat.le_refl _) hbl k hlt
   have hdl := hf fs[k] (List.getElem_mem hlt)
   have ecount := countL_snoc size fs k hlt
   have eslices := slicesL_snoc size fs k hlt
   have hsl := slicesOfN_le fs[k].2.length size h0
   have hcl : countL (fs.take k) size ≤ 2400 := by
    have h2 := rowsL_len size (fs.take k) h0 (fun f hf' => hf f (List.mem_of_mem_take hf'))
    rw [rowsL_count size _ h0, List.length_take] at h2
    omega
   obtain ⟨data, hdata⟩ : ∃ x, x = fs[k].2 := ⟨_, rfl⟩
   rw [← hdata] at hc2 hdl ecount eslices hsl
   obtain ⟨m, hm⟩ : ∃ x, x = slicesOfN data.length size := ⟨_, rfl⟩
   obtain ⟨c0, hc0⟩ : ∃ x, x = countL (fs.take k) size := ⟨_, rfl⟩
   rw [← hm] at ecount hsl
   rw [← hc0] at ecount hcl hownr
   have HM := hid_of hm
   have HEC := hid_of ecount
   have HES := hid_of eslices
   have HRD := hid_of hrd
   have HF := hid_of hf
   have HB := hid_of hbl
   have HO := hid_of hownr
   clear hdata hm hc0 ecount eslices hrd hf hc1
   go_wp2_with fail
   refine (HS.out data size h0 h1 hdl wr).mono ?_
   rintro e w1 ⟨v1, rfl, hown1, hb1⟩
   rw [← HM.out] at hown1
   have hownr1 := ownsRow_later HO.out (Nat.le_refl _) hb1
   have hbl1 : Below w.heap.size w w1 := HB.out.trans (hb1.mono hsz)
   have hsz1 := hbl1.size
   have hap := own_apart HO.out (Nat.le_refl _) hown1
   rcases hown1.2 with ⟨rfl, hm0⟩ | ⟨g, c1, cur, rfl, hg, hcur, hmc, hcm, hcs, htk⟩
   ·have hcut : cutL data size = [] := by
     have := hown1.1
     rw [hm0] at this
     simpa [strV] using this
    have HCUT := hid_of hcut
    have HB1 := hid_of hbl1
    have HO1 := hid_of hownr1
    clear hown1 hb1 hbl hbl1 hcut hap
    go_wp2_with (at_builtin; refine wpList_append_own_none rfl (.tmp 21) (.tmp 22) 23 rfl w.heap.size 9 i0 1 Tryz.underlying23 hi _ _ _ rfl HO1.out rfl ?_)
    refine ⟨⟨k + 1, by omega, by go_num, ?_, HB1.out⟩, by simp [intOf]; omega⟩
    rw [HEC.out, hm0, HES.out, HCUT.out, List.append_nil]
    exact HO1.out
   ·have HB1 := hid_of hbl1
    have HO1 := hid_of hownr1
    have H1 := hid_of hown1
    clear hown1 hb1 hbl hbl1 hownr hownr1 hcur htk hcs
    go_wp2_with (at_builtin; refine wpList_append_own _ rfl (.tmp 21) (.tmp 22) 23 rfl w.heap.size 9 i0 (.string ByteArray.empty) 1 16 Tryz.underlying23 hi hz0 hz1 hz2 rfl (by decide) _ _ _ rfl HO1.out ⟨g, 0, none⟩ m c1 (strV (cutL data size)) rfl ?d1 ?d0 ?d2 ?d3 ?d4 ?d5 ?_)
    case d1 => exact H1.out.1
    case d0 => intro j u hj; exact H1.out.cells (g := g) rfl j u hj
    case d2 => intro u hu; simp only [strV, List.mem_map] at hu; obtain ⟨x, _, rfl⟩ := hu; rfl
    case d3 => unfold maxLen; omega
    case d4 => omega
    case d5 => omega
    intro v2 w2 hown2 hg2 _
    have hbl2 := below_grown HB1.out hsz1 HO1.out hg2
    go_wp2_with fail
    refine ⟨⟨k + 1, by omega, by go_num, ?_, hbl2⟩, by simp [intOf]; omega⟩
    rw [HEC.out, HES.out, strV_append]
    exact hown2
  ·obtain rfl : k = fs.length := by omega
   rw [List.take_length] at hownr
   go_wp2_with fail
   go_ret
   exact ⟨_, rfl, hownr, hbl⟩
end Go.Proofs.YtonjphollmdicaaGreatDoor
namespace Go.Proofs.YtonjphollmdicaaGreatDoor
open Go.ChangeShapes Go.WideShapes Go.ChangeAt Go.RowKit
theorem foundsV_length (l : List FoundL) : (foundsV l).length = 3 * l.length := by
 induction l with
 | nil => rfl
 | cons f r ih => simp only [foundsV, List.flatMap_cons, List.length_append, List.length_cons, List.length_nil] at ih ⊢; omega
theorem Tryz.infoFo : (Tryz.prog.info? 148).map (fun i => (i.zero, i.size, i.bytes)) = some (some (.agg #[.int .u8 0, .int .u64 0, .string ByteArray.empty]), 3, 32) := by kernel_rfl
set_option maxRecDepth 100000 in
set_option maxHeartbeats 2000000 in
theorem rFind_walk (vs : List (List UInt8)) (a : Option Addr) (cap : Nat) (hn : vs.length ≤ 1000) (hv : ∀ v ∈ vs, v.length ≤ 1000000) (w : World) (hrd : Rd w a (strV vs)) :
  Calls Tryz.prog 85 #[.slice a vs.length cap] w fun e w' => ∃ v, e = .returned v ∧ w'.ownsRow w.heap.size 148 3 v (findL vs).length (foundsV (findL vs)) ∧ Below w.heap.size w w' := by
 obtain ⟨i0, hi, hz0, hz1, hz2⟩ := info_parts Tryz.infoFo
 have HRD := hid_of hrd
 have HV := hid_of hv
 clear hrd hv
 go_enter Tryz.func85, Tryz.ntmps85
 go_wp2_with fail
 go_loopw [3, 4, 5, 6, 7] (fun l i _ _ _ wr => ∃ k : Nat, k ≤ vs.length ∧ i = .int .i64 (k : Int) ∧ wr.ownsRow w.heap.size 148 3 l (findL (vs.take k)).length (foundsV (findL (vs.take k))) ∧ Below w.heap.size w wr)
  (fun _ i _ _ _ _ => vs.length - (intOf i).toNat)
 case atStart => exact ⟨0, by omega, rfl, World.ownsRow_nil _ _ _ _, Below.refl _ _⟩
 case round =>
  obtain ⟨k, hk, rfl, hownr, hbl⟩ := hrel
  by_cases hlt : k < vs.length
  ·have hvl := HV.out vs[k] (List.getElem_mem hlt)
   have hsn := findL_snoc vs k hlt
   obtain ⟨bb, off, rfl, hc0⟩ := HRD.out k (.string (str vs[k])) (by simp [strV, hlt])
   have hcnt : (findL (vs.take (k + 1))).length ≤ 1000000000 := by
    have := findL_len (vs.take (k + 1)) 1000000 (fun v hv => HV.out v (List.mem_of_mem_take hv))
    rw [List.length_take] at this
    have h9 : min (k + 1) vs.length * 1000000 ≤ 1000 * 1000000 := Nat.mul_le_mul_right _ (by omega)
    omega
   obtain ⟨v, hve⟩ : ∃ x, x = vs[k] := ⟨_, rfl⟩
   rw [← hve] at hvl hsn hc0
   have hss := str_size v
   have HC0 := hid_of hc0
   have HSN := hid_of hsn
   have HO := hid_of hownr
   have HB := hid_of hbl
   clear hownr hbl hsn hve hc0
   go_wp2_with fail
   go_loopw [3, 5, 6, 7] (fun l at' _ _ W => ∃ (j : Nat) (F : List FoundL), j ≤ v.length ∧ at' = .int .i64 (j : Int) ∧ W.ownsRow w.heap.size 148 3 l F.length (foundsV F) ∧ Hid (F ++ findV (v.drop j) = findL (vs.take (k + 1))) ∧ Below w.heap.size w W)
    (fun _ at' _ _ _ => v.length - (intOf at').toNat)
   case atStart => exact ⟨0, _, by omega, rfl, HO.out, hid_of (by rw [HSN.out]; rfl), HB.out⟩
   case round =>
    clear HO HB
    obtain ⟨j, F, hj, rfl, hownr, HF, hbl⟩ := hrel
    have hsz := hbl.size
    have hcv : wr.cell? ⟨bb, off + k, none⟩ = some (.string (str v)) := by
     rw [hbl.cell (World.block_lt_of_cell? w _ HC0.out)]; exact HC0.out
    by_cases hjl : j < v.length
    ·have hst := findV_step (v.drop j) (by rw [List.length_drop]; omega)
     have hR := rright_walk v j hvl (by omega) wr
     have hFl : F.length + (findV (v.drop j)).length ≤ 1000000000 := by
      have := congrArg List.length HF.out
      rw [List.length_append] at this
      omega
     have HO := hid_of hownr
     have HB := hid_of hbl
     clear hownr hbl
     unfold rightV at hR
     cases hr : rightL (v.drop j) with
     | none =>
      rw [hr] at hR hst
      simp only [foundV, noFound] at hR
      have HR := hid_of hR
      have hn2 : Hid (F ++ findV (v.drop (j + 1)) = findL (vs.take (k + 1))) := hid_of (by rw [← HF.out, hst]; simp [List.drop_drop])
      clear hR hst hr hFl
      go_wp2_with fail
      refine HR.out.mono ?_
      rintro e w2 ⟨rfl, hb2⟩
      have L1 := hid_of (ownsRow_later HO.out (Nat.le_refl _) hb2)
      have L2 := hid_of (HB.out.trans (hb2.mono hsz))
      clear hb2 HO HB
      go_wp2_with fail
      exact ⟨⟨j + 1, F, by omega, by go_num, L1.out.alloc _, hn2, L2.out.alloc L2.out.size _⟩, by simp [intOf]; omega⟩
     | some x =>
      obtain ⟨f, n⟩ := x
      rw [hr] at hR hst
      simp only [foundV] at hR
      have hpos := right_pos hr
      rw [List.length_drop] at hpos
      have HR := hid_of hR
      have hn2 : Hid ((F ++ [f]) ++ findV (v.drop (j + n)) = findL (vs.take (k + 1))) := hid_of (by rw [← HF.out, hst]; simp [List.drop_drop])
      have hFl2 : F.length + 1 ≤ 1000000000 := by
       have := congrArg List.length hst
       simp only [List.length_cons] at this
       omega
      clear hR hst hr hFl
      have hn0 : (0 : Int) < (n : Int) := by omega
      go_wp2_with fail
      refine HR.out.mono ?_
      rintro e w2 ⟨rfl, hb2⟩
      have L1 := hid_of (ownsRow_later HO.out (Nat.le_refl _) hb2)
      have L2 := hid_of (HB.out.trans (hb2.mono hsz))
      have hsz2 : w.heap.size ≤ w2.heap.size := L2.out.size
      clear hb2 HO HB hcv
      obtain ⟨x1, hx1⟩ : ∃ x, x = Value.int .u8 (f.kind.toNat : Int) := ⟨_, rfl⟩
      obtain ⟨x2, hx2⟩ : ∃ x, x = Value.int .u64 (f.set : Int) := ⟨_, rfl⟩
      have hsn := foundsV_snoc F f
      have H3 := hid_of hsn
      clear hsn hx1 hx2 x1 x2
      go_wp2_with (at_builtin; refine wpList_append_own _ rfl (.tmp 32) (.tmp 34) 145 rfl w.heap.size 148 i0 (.agg #[.int .u8 0, .int .u64 0, .string ByteArray.empty]) 3 32 Tryz.underlying145 hi hz0 hz1 hz2 rfl (by decide) _ _ _ rfl ((L1.out.alloc _).alloc _) ⟨w2.heap.size + 1, 0, none⟩ 1 1 [.int .u8 (f.kind.toNat : Int), .int .u64 (f.set : Int), .string (str f.body)] rfl rfl ?c1 ?c2 ?c3 ?c4 ?c5 ?_)
      case c1 =>
       have := three_new (w2.alloc (.cells #[.int .u8 (f.kind.toNat : Int), .int .u64 (f.set : Int), .string (str f.body)] 148)) (.int .u8 (f.kind.toNat : Int)) (.int .u64 (f.set : Int)) (.string (str f.body)) 148
       simpa using this
      case c2 =>
       intro u hu
       simp at hu
       rcases hu with rfl | rfl | rfl <;> rfl
      case c3 => unfold maxLen; omega
      case c4 => omega
      case c5 => simp; omega
      intro v6 w6 hown6 hg6 _
      have hb6 := below_step (L2.out.alloc hsz2 _) (by simp; omega) (L1.out.alloc _) hg6
      rw [← H3.out] at hown6
      have K1 := hid_of hown6
      have K2 := hid_of hb6
      clear hown6 hg6 hb6 L1 L2
      go_wp2_with fail
      refine ⟨⟨j + n, F ++ [f], by omega, by go_num, ?_, hn2, K2.out⟩, by simp [intOf]; omega⟩
      rw [List.length_append]
      exact K1.out
    ·obtain rfl : v.length = j := by omega
     have hend : findL (vs.take (k + 1)) = F := by
      have := HF.out
      rw [List.drop_length, findV_nil, List.append_nil] at this
      exact this.symm
     have HE := hid_of hend
     have HO := hid_of hownr
     have HB := hid_of hbl
     clear hownr hbl hend
     go_wp2_with fail
     refine ⟨⟨k + 1, by omega, by go_num, ?_, HB.out⟩, by simp [intOf]; omega⟩
     rw [HE.out]
     exact HO.out
  ·obtain rfl : vs.length = k := by omega
   rw [List.take_length] at hownr
   have HO := hid_of hownr
   have HB := hid_of hbl
   clear hownr hbl
   go_wp2_with fail
   go_ret
   exact ⟨_, rfl, HO.out, HB.out⟩
end Go.Proofs.YtonjphollmdicaaGreatDoor
