import Derived.Test.YtonjphollmdicaaBodies

import Derived.Deep.RegionWith
import Derived.BigRegion
namespace Go.Proofs.Ytonjphollmdicaa
open Go.ChangeShapes Go.WideShapes Go.ChangeAt Go.RowKit

def sliceSize (n : Int) : Bool := decide (2 ≤ n ∧ n ≤ 32 ∧ n % 2 = 0)

theorem IsSliceSize_walk (n : Int) (w : World) :
    Calls Try.prog 21 #[.int .i64 n] w fun e w' => e = .returned (.bool (sliceSize n)) ∧ w' = w := by
  by_cases h1 : 2 ≤ n
  · by_cases h2 : n ≤ 32
    · have e : n.tmod 2 = n % 2 := Int.tmod_eq_emod_of_nonneg (by omega)
      go_enter Try.func21, Try.ntmps21
      go_wp2
      go_ret
      refine ⟨?_, rfl⟩
      show Ending.returned (.bool (n % 2 == 0)) = _
      have e2 : (n % 2 == 0) = sliceSize n := by
        unfold sliceSize
        by_cases h3 : n % 2 = 0
        · simp [h1, h2, h3]
        · simp [h3]
      rw [e2]
    · go_enter Try.func21, Try.ntmps21
      go_wp2
      go_ret
      refine ⟨?_, rfl⟩
      have e2 : sliceSize n = false := by unfold sliceSize; exact decide_eq_false (by omega)
      rw [e2]
      rfl
  · go_enter Try.func21, Try.ntmps21
    go_wp2
    go_ret
    refine ⟨?_, rfl⟩
    have e2 : sliceSize n = false := by unfold sliceSize; exact decide_eq_false (by omega)
    rw [e2]
    rfl

def slicesOfN (len size : Nat) : Nat := (len + size - 1) / size

theorem slicesOf_walk (len size : Nat) (h1 : len ≤ 1000000) (h2 : 0 < size) (h3 : size ≤ 1000) (w : World) :
    Calls Try.prog 43 #[.int .i64 (len : Int), .int .i64 (size : Int)] w fun e w' => e = .returned (.int .i64 ((slicesOfN len size : Nat) : Int)) ∧ w' = w := by
  go_enter Try.func43, Try.ntmps43
  go_wp2
  go_ret
  refine ⟨?_, rfl⟩
  have e : ((len : Int) + (size : Int) - 1) / (size : Int) = ((slicesOfN len size : Nat) : Int) := by
    unfold slicesOfN
    rw [Int.natCast_ediv]
    congr 1
    omega
  show Ending.returned (.int .i64 (((len : Int) + (size : Int) - 1) / (size : Int))) = _
  rw [e]

abbrev FileL := List UInt8 × List UInt8
def filesV (fs : List FileL) : List Value := fs.flatMap fun f => [Value.string (str f.1), Value.string (str f.2)]
def fitsL (f : FileL) : Bool := decide (1 ≤ f.1.length ∧ f.1.length ≤ 20 ∧ f.2.length ≤ 400)

theorem filesV_length (fs : List FileL) : (filesV fs).length = 2 * fs.length := by
  induction fs with
  | nil => rfl
  | cons f fs ih => simp [filesV] at ih ⊢; omega
theorem filesV_get (fs : List FileL) (k : Nat) (h : k < fs.length) : (filesV fs)[2 * k]? = some (.string (str fs[k].1)) ∧ (filesV fs)[2 * k + 1]? = some (.string (str fs[k].2)) := by
  induction fs generalizing k with
  | nil => simp at h
  | cons f fs ih =>
    cases k with
    | zero => simp [filesV]
    | succ k =>
      have := ih k (by simpa using h)
      have e : 2 * (k + 1) = 2 * k + 1 + 1 := by omega
      simp only [filesV, List.flatMap_cons, List.cons_append, List.nil_append, e, List.getElem?_cons_succ, List.getElem_cons_succ] at this ⊢
      exact this

set_option maxRecDepth 100000 in
theorem fits_walk (f : FileL) (h1 : f.1.length < 140737488355328) (h2 : f.2.length < 140737488355328) (w : World) :
    Calls Try.prog 41 #[.agg #[.string (str f.1), .string (str f.2)]] w fun e w' => e = .returned (.bool (fitsL f)) ∧ Below w.heap.size w w' := by
  have s1 := str_size f.1
  have s2 := str_size f.2
  go_enter Try.func41, Try.ntmps41
  go_wp2
  · go_ret
    refine ⟨?_, (Below.refl _ _).alloc (Nat.le_refl _) _⟩
    have e : fitsL f = decide ((f.2.length : Int) ≤ 400) := by
      unfold fitsL
      apply decide_eq_decide.2
      omega
    rw [e]
    rfl
  · go_ret
    refine ⟨?_, (Below.refl _ _).alloc (Nat.le_refl _) _⟩
    have e : fitsL f = false := by unfold fitsL; exact decide_eq_false (by omega)
    rw [e]
    rfl
  · go_ret
    refine ⟨?_, (Below.refl _ _).alloc (Nat.le_refl _) _⟩
    have e : fitsL f = false := by unfold fitsL; exact decide_eq_false (by omega)
    rw [e]
    rfl

theorem str_toList (l : List UInt8) : (str l).toList = l := by rw [ByteArray.toList_eq, str_data]

def hasNameL (fs : List FileL) (name : List UInt8) : Bool := fs.any fun f => f.1 == name

theorem fileCells {w wr : World} {a : Option Addr} {fs : List FileL} (h : Rd w a (filesV fs)) {B : Nat} (hB : w.heap.size ≤ B) (hb : Below B w wr) (k : Nat) (hk : k < fs.length) :
    ∃ b off, a = some ⟨b, off, none⟩ ∧ wr.cell? ⟨b, off + k * 2, none⟩ = some (.string (str fs[k].1)) ∧ wr.cell? ⟨b, off + k * 2 + 1, none⟩ = some (.string (str fs[k].2)) := by
  have h' := h.later hB hb
  obtain ⟨g1, g2⟩ := filesV_get fs k hk
  obtain ⟨b, off, rfl, hc⟩ := h' _ _ g1
  obtain ⟨b', off', e, hc'⟩ := h' _ _ g2
  cases e
  refine ⟨b, off, rfl, ?_, ?_⟩
  · rw [Nat.mul_comm k 2]; exact hc
  · rw [Nat.mul_comm k 2]; exact hc'

set_option maxRecDepth 100000 in
theorem hasName_walk (fs : List FileL) (name : List UInt8) (a : Option Addr) (cap : Nat) (hn : fs.length ≤ 1000) (w : World) (hrd : Rd w a (filesV fs)) :
    Calls Try.prog 42 #[.slice a fs.length cap, .string (str name)] w fun e w' => e = .returned (.bool (hasNameL fs name)) ∧ Below w.heap.size w w' := by
  go_enter Try.func42, Try.ntmps42
  go_wp2
  go_loopw [6, 9] (fun _ i wr => ∃ k : Nat, k ≤ fs.length ∧ i = .int .i64 (k : Int) ∧ Below w.heap.size w wr ∧ Hid (hasNameL (fs.drop k) name = hasNameL fs name))
    (fun _ i _ => fs.length - (intOf i).toNat)
  case atStart => exact ⟨0, by omega, rfl, Below.refl _ _, hid_of rfl⟩
  case round =>
    obtain ⟨k, hk, rfl, hbl, hd⟩ := hrel
    have hsz := hbl.size
    by_cases hlt : k < fs.length
    · obtain ⟨b, off, rfl, hc1, hc2⟩ := fileCells hrd (Nat.le_refl _) hbl k hlt
      have hdk : hasNameL (fs.drop k) name = (fs[k].1 == name || hasNameL (fs.drop (k + 1)) name) := by
        rw [List.drop_eq_getElem_cons hlt]; rfl
      have HD := hid_of hdk
      clear hdk
      go_wp2
      · go_ret
        have he : ((str fs[k].1).toList == (str name).toList) = true := by assumption
        rw [str_toList, str_toList] at he
        have := hd.out
        rw [HD.out, he] at this
        refine ⟨?_, hbl.alloc hsz _⟩
        rw [← this]
        rfl
      · have he : ((str fs[k].1).toList == (str name).toList) = false := by assumption
        rw [str_toList, str_toList] at he
        have := hd.out
        rw [HD.out, he] at this
        exact ⟨⟨k + 1, by omega, by go_num, hbl.alloc hsz _, hid_of (by simpa using this)⟩, by simp [intOf]; omega⟩
    · obtain rfl : k = fs.length := by omega
      go_wp2
      go_ret
      have := hd.out
      rw [List.drop_length] at this
      exact ⟨by rw [← this]; rfl, hbl⟩

def countL (fs : List FileL) (size : Nat) : Nat := (fs.map fun f => slicesOfN f.2.length size).sum

theorem slicesOfN_le (len size : Nat) (h : 0 < size) : slicesOfN len size ≤ len := by
  unfold slicesOfN
  rcases Nat.eq_zero_or_pos len with h0 | h0
  · subst h0
    rw [Nat.div_eq_of_lt (by omega)]
    exact Nat.le_refl _
  · calc (len + size - 1) / size ≤ (len * size) / size := Nat.div_le_div_right (by
          have h1 : len * size = (len - 1) * size + size := by rw [← Nat.succ_mul]; congr 1; omega
          have h2 : (len - 1) * 1 ≤ (len - 1) * size := Nat.mul_le_mul_left _ h
          omega)
      _ = len := Nat.mul_div_cancel _ h

set_option maxRecDepth 100000 in
theorem CountSlices_walk (fs : List FileL) (size : Nat) (a : Option Addr) (cap : Nat) (hs : 0 < size) (hs2 : size ≤ 32) (hn : fs.length ≤ 6) (hl : ∀ f ∈ fs, f.2.length ≤ 400) (w : World) (hrd : Rd w a (filesV fs)) :
    Calls Try.prog 23 #[.slice a fs.length cap, .int .i64 (size : Int)] w fun e w' => e = .returned (.int .i64 ((countL fs size : Nat) : Int)) ∧ Below w.heap.size w w' := by
  go_enter Try.func23, Try.ntmps23
  go_wp2
  go_loopw [5, 7, 10] (fun c _ i wr => ∃ k c' : Nat, k ≤ fs.length ∧ c' ≤ 400 * k ∧ c = .int .i64 (c' : Int) ∧ i = .int .i64 (k : Int) ∧ Below w.heap.size w wr ∧ Hid (c' + countL (fs.drop k) size = countL fs size))
    (fun _ _ i _ => fs.length - (intOf i).toNat)
  case atStart => exact ⟨0, 0, by omega, by omega, rfl, rfl, Below.refl _ _, hid_of (by simp)⟩
  case round =>
    obtain ⟨k, c', hk, hc', rfl, rfl, hbl, hd⟩ := hrel
    have hsz := hbl.size
    by_cases hlt : k < fs.length
    · obtain ⟨b, off, rfl, hc1, hc2⟩ := fileCells hrd (Nat.le_refl _) hbl k hlt
      have hdk : countL (fs.drop k) size = slicesOfN fs[k].2.length size + countL (fs.drop (k + 1)) size := by
        rw [List.drop_eq_getElem_cons hlt]; unfold countL; rw [List.map_cons, List.sum_cons]
      have hlk := hl fs[k] (List.getElem_mem hlt)
      have hle := slicesOfN_le fs[k].2.length size hs
      have hsz2 : (str fs[k].2).size = fs[k].2.length := str_size _
      have HD := hid_of hdk
      clear hdk
      go_wp2_with fail
      refine (slicesOf_walk fs[k].2.length size (by omega) hs (by omega) _).mono ?_
      rintro e w1 ⟨rfl, rfl⟩
      go_wp2_with fail
      have := hd.out
      rw [HD.out] at this
      exact ⟨⟨k + 1, c' + slicesOfN fs[k].2.length size, by omega, by omega, by go_num, by go_num, hbl.alloc hsz _, hid_of (by omega)⟩, by simp [intOf]; omega⟩
    · obtain rfl : k = fs.length := by omega
      go_wp2
      go_ret
      have := hd.out
      rw [List.drop_length] at this
      simp only [countL, List.map_nil, List.sum_nil, Nat.add_zero] at this
      exact ⟨by rw [this]; rfl, hbl⟩

def okAt (fs : List FileL) (i : Nat) : Bool := match fs[i]? with
  | some f => fitsL f && !hasNameL (fs.take i) f.1
  | none => true
def isSetL (fs : List FileL) : Bool := decide (1 ≤ fs.length ∧ fs.length ≤ 6) && (List.range fs.length).all (okAt fs)

theorem filesV_take (fs : List FileL) (k : Nat) : filesV (fs.take k) = (filesV fs).take (2 * k) := by
  induction fs generalizing k with
  | nil => simp [filesV]
  | cons f fs ih =>
    cases k with
    | zero => simp [filesV]
    | succ k =>
      have := ih k
      have e : 2 * (k + 1) = 2 * k + 1 + 1 := by omega
      simp only [filesV, List.take_succ_cons, List.flatMap_cons, List.cons_append, List.nil_append, e] at this ⊢
      rw [this]

theorem Rd.take {w : World} {a : Option Addr} {xs : List Value} (h : Rd w a xs) (k : Nat) : Rd w a (xs.take k) := by
  intro j u hj
  apply h j u
  rw [List.getElem?_take] at hj
  split at hj
  · exact hj
  · cases hj

set_option maxRecDepth 100000 in
set_option maxHeartbeats 4000000 in
theorem IsSet_walk (fs : List FileL) (a : Option Addr) (cap : Nat) (hcap : fs.length ≤ cap) (hl : ∀ f ∈ fs, f.1.length < 140737488355328 ∧ f.2.length < 140737488355328) (w : World) (hrd : Rd w a (filesV fs)) :
    Calls Try.prog 22 #[.slice a fs.length cap] w fun e w' => e = .returned (.bool (isSetL fs)) ∧ Below w.heap.size w w' := by
  by_cases h1 : fs.length < 1
  · have e : isSetL fs = false := by unfold isSetL; rw [decide_eq_false (by omega)]; rfl
    go_enter Try.func22, Try.ntmps22
    go_wp2
    go_ret
    exact ⟨by first | rfl | (rw [e]; rfl), Below.refl _ _⟩
  · by_cases h2 : 6 < fs.length
    · have e : isSetL fs = false := by unfold isSetL; rw [decide_eq_false (by omega)]; rfl
      go_enter Try.func22, Try.ntmps22
      go_wp2
      go_ret
      exact ⟨by first | rfl | (rw [e]; rfl), Below.refl _ _⟩
    · go_enter Try.func22, Try.ntmps22
      go_wp2
      go_loopw [3, 4, 15] (fun _ _ i wr => ∃ k : Nat, k ≤ fs.length ∧ i = .int .i64 (k : Int) ∧ Below w.heap.size w wr ∧ Hid (∀ j, j < k → okAt fs j = true))
        (fun _ _ i _ => fs.length - (intOf i).toNat)
      case atStart => exact ⟨0, by omega, rfl, Below.refl _ _, hid_of (by intro j hj; omega)⟩
      case round =>
        obtain ⟨k, hk, rfl, hbl, hd⟩ := hrel
        have hsz := hbl.size
        by_cases hlt : k < fs.length
        · obtain ⟨b, off, rfl, hc1, hc2⟩ := fileCells hrd (Nat.le_refl _) hbl k hlt
          have hf := hl fs[k] (List.getElem_mem hlt)
          have hok : okAt fs k = (fitsL fs[k] && !hasNameL (fs.take k) fs[k].1) := by unfold okAt; rw [List.getElem?_eq_getElem hlt]
          have HOK := hid_of hok
          clear hok
          have hN : ∀ W, Rd W (some ⟨b, off, none⟩) (filesV (fs.take k)) → Calls Try.prog 42 #[.slice (some ⟨b, off, none⟩) k cap, .string (str fs[k].1)] W fun e w' => e = .returned (.bool (hasNameL (fs.take k) fs[k].1)) ∧ Below W.heap.size W w' := by
            intro W hW
            have := hasName_walk (fs.take k) fs[k].1 (some ⟨b, off, none⟩) cap (by rw [List.length_take]; omega) W hW
            rw [List.length_take, Nat.min_eq_left (by omega)] at this
            exact this
          have HN := hid_of hN
          have hR : ∀ W, Below w.heap.size w W → Rd W (some ⟨b, off, none⟩) (filesV (fs.take k)) := by
            intro W hW
            rw [filesV_take]
            exact (hrd.later (Nat.le_refl _) hW).take _
          have HR := hid_of hR
          have HRD := hid_of hrd
          have HOKB := hid_of hd
          clear hN hR hrd
          have hbad : okAt fs k = false → isSetL fs = false := by
            intro h
            unfold isSetL
            rw [Bool.and_eq_false_iff]
            right
            rw [List.all_eq_false]
            exact ⟨k, by simpa using hlt, by simp [h]⟩
          have HBAD := hid_of hbad
          have hnext : okAt fs k = true → ∀ j, j < k + 1 → okAt fs j = true := by
            intro h j hj
            rcases Nat.lt_or_ge j k with h' | h'
            · exact hd.out j h'
            · have : j = k := by omega
              subst this
              exact h
          have HNEXT := hid_of hnext
          clear hbad hnext
          by_cases hfit : fitsL fs[k] = true
          · by_cases hh : hasNameL (fs.take k) fs[k].1 = true
            · go_wp2_with fail
              go_region_with (first
                | (go_at_call 41; refine (fits_walk fs[k] hf.1 hf.2 _).mono ?_; rintro e w1 ⟨rfl, hb1⟩; have hc3 : w1.cell? ⟨wr.heap.size, 0, none⟩ = some (.string (str fs[k].1)) := by (rw [hb1.cell (by simp)]; simp))
                | (go_at_call 42; refine (HN.out _ ?_).mono ?_; exact HR.out _ (Below.next (hbl.alloc hsz _).drew hb1); rintro e w2 ⟨rfl, hb2⟩))
              all_goals
                go_wp2_with fail
                go_ret
                refine ⟨?_, Below.next (Below.next (hbl.alloc hsz _).drew hb1) hb2⟩
                have e1 := HBAD.out (by rw [HOK.out, hfit, hh]; rfl)
                rw [e1]
                rfl
            · have hh' : hasNameL (fs.take k) fs[k].1 = false := by simpa using hh
              clear hh
              go_wp2_with fail
              go_region_with (first
                | (go_at_call 41; refine (fits_walk fs[k] hf.1 hf.2 _).mono ?_; rintro e w1 ⟨rfl, hb1⟩; have hc3 : w1.cell? ⟨wr.heap.size, 0, none⟩ = some (.string (str fs[k].1)) := by (rw [hb1.cell (by simp)]; simp))
                | (go_at_call 42; refine (HN.out _ ?_).mono ?_; exact HR.out _ (Below.next (hbl.alloc hsz _).drew hb1); rintro e w2 ⟨rfl, hb2⟩))
              all_goals
                go_wp2_with fail
                go_roundw
                case rel => exact ⟨k + 1, by omega, by go_num, Below.next (Below.next (hbl.alloc hsz _).drew hb1) hb2, hid_of (HNEXT.out (by rw [HOK.out, hfit, hh']; rfl))⟩
                case measure => simp [intOf]; omega
          · have hfit' : fitsL fs[k] = false := by simpa using hfit
            clear hfit
            go_wp2_with fail
            first
              | (go_region_with (go_at_call 41; refine (fits_walk fs[k] hf.1 hf.2 _).mono ?_; rintro e w1 ⟨rfl, hb1⟩))
              | fail
            all_goals
              go_wp2_with fail
              go_ret
              refine ⟨?_, Below.next (hbl.alloc hsz _).drew hb1⟩
              have e1 := HBAD.out (by rw [HOK.out, hfit']; rfl)
              rw [e1]
              rfl
        · obtain rfl : k = fs.length := by omega
          have e : isSetL fs = true := by
            unfold isSetL
            rw [decide_eq_true (by omega), Bool.true_and, List.all_eq_true]
            intro j hj
            exact hd.out j (by simpa using hj)
          go_wp2
          go_ret
          exact ⟨by rw [e]; rfl, hbl⟩
end Go.Proofs.Ytonjphollmdicaa
