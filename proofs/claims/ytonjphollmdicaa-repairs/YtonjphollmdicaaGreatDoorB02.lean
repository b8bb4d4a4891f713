import Derived.Test.YtonjphollmdicaaGreatDoorB01
import Derived.Deep.RegionWith
import Derived.BigRegion
import Derived.Shelf.Strings.Repeat
import Derived.Test.YtonjphollmdicaaGreatDoorProg
import Derived.Laws.DeepStrings4
namespace Go.Proofs.YtonjphollmdicaaGreatDoor
open Go.ChangeShapes Go.WideShapes Go.ChangeAt Go.RowKit
def sliceSize (n : Int) : Bool := decide (2 ≤ n ∧ n ≤ 32 ∧ n % 2 = 0)
theorem IsSliceSize_walk (n : Int) (w : World) :
    Calls Tryz.prog 61 #[.int .i64 n] w fun e w' => e = .returned (.bool (sliceSize n)) ∧ w' = w := by
  by_cases h1 : 2 ≤ n
  · by_cases h2 : n ≤ 32
    · have e : n.tmod 2 = n % 2 := Int.tmod_eq_emod_of_nonneg (by omega)
      go_enter Tryz.func61, Tryz.ntmps61
      go_wp2
      go_ret
      refine ⟨?_, rfl⟩
      show Ending.returned (.bool (n % 2 == 0)) = _
      have e2 : (n % 2 == 0) = sliceSize n := by
        unfold sliceSize
        by_cases h3 : n % 2 = 0
        · simp [h1, h2, h3]
        · simp [h3]
      rw [e2]
    · go_enter Tryz.func61, Tryz.ntmps61
      go_wp2
      go_ret
      refine ⟨?_, rfl⟩
      have e2 : sliceSize n = false := by unfold sliceSize; exact decide_eq_false (by omega)
      rw [e2]
      rfl
  · go_enter Tryz.func61, Tryz.ntmps61
    go_wp2
    go_ret
    refine ⟨?_, rfl⟩
    have e2 : sliceSize n = false := by unfold sliceSize; exact decide_eq_false (by omega)
    rw [e2]
    rfl
def slicesOfN (len size : Nat) : Nat := (len + size - 1) / size
theorem slicesOf_walk (len size : Nat) (h1 : len ≤ 1000000) (h2 : 0 < size) (h3 : size ≤ 1000) (w : World) :
    Calls Tryz.prog 96 #[.int .i64 (len : Int), .int .i64 (size : Int)] w fun e w' => e = .returned (.int .i64 ((slicesOfN len size : Nat) : Int)) ∧ w' = w := by
  go_enter Tryz.func96, Tryz.ntmps96
  go_wp2
  go_ret
  refine ⟨?_, rfl⟩
  have e : ((len : Int) + (size : Int) - 1) / (size : Int) = ((slicesOfN len size : Nat) : Int) := by
    unfold slicesOfN
    rw [Int.natCast_ediv]
    congr 1
    omega
  show Ending.returned (.int .i64 (((len : Int) + (size : Int) - 1) / (size : Int))) = _
  rw [e]
abbrev FileL := List UInt8 × List UInt8
def filesV (fs : List FileL) : List Value := fs.flatMap fun f => [Value.string (str f.1), Value.string (str f.2)]
def fitsL (f : FileL) : Bool := decide (1 ≤ f.1.length ∧ f.1.length ≤ 20 ∧ f.2.length ≤ 400)
theorem filesV_length (fs : List FileL) : (filesV fs).length = 2 * fs.length := by
  induction fs with
  | nil => rfl
  | cons f fs ih => simp [filesV] at ih ⊢; omega
theorem filesV_get (fs : List FileL) (k : Nat) (h : k < fs.length) : (filesV fs)[2 * k]? = some (.string (str fs[k].1)) ∧ (filesV fs)[2 * k + 1]? = some (.string (str fs[k].2)) := by
  induction fs generalizing k with
  | nil => simp at h
  | cons f fs ih =>
    cases k with
    | zero => simp [filesV]
    | succ k =>
      have := ih k (by simpa using h)
      have e : 2 * (k + 1) = 2 * k + 1 + 1 := by omega
      simp only [filesV, List.flatMap_cons, List.cons_append, List.nil_append, e, List.getElem?_cons_succ, List.getElem_cons_succ] at this ⊢
      exact this
set_option maxRecDepth 100000 in
theorem fits_walk (f : FileL) (h1 : f.1.length < 140737488355328) (h2 : f.2.length < 140737488355328) (w : World) :
    Calls Tryz.prog 94 #[.agg #[.string (str f.1), .string (str f.2)]] w fun e w' => e = .returned (.bool (fitsL f)) ∧ Below w.heap.size w w' := by
  have s1 := str_size f.1
  have s2 := str_size f.2
  go_enter Tryz.func94, Tryz.ntmps94
  go_wp2
  · go_ret
    refine ⟨?_, (Below.refl _ _).alloc (Nat.le_refl _) _⟩
    have e : fitsL f = decide ((f.2.length : Int) ≤ 400) := by
      unfold fitsL
      apply decide_eq_decide.2
      omega
    rw [e]
    rfl
  · go_ret
    refine ⟨?_, (Below.refl _ _).alloc (Nat.le_refl _) _⟩
    have e : fitsL f = false := by unfold fitsL; exact decide_eq_false (by omega)
    rw [e]
    rfl
  · go_ret
    refine ⟨?_, (Below.refl _ _).alloc (Nat.le_refl _) _⟩
    have e : fitsL f = false := by unfold fitsL; exact decide_eq_false (by omega)
    rw [e]
    rfl
theorem str_toList (l : List UInt8) : (str l).toList = l := by rw [ByteArray.toList_eq, str_data]
def hasNameL (fs : List FileL) (name : List UInt8) : Bool := fs.any fun f => f.1 == name
theorem fileCells {w wr : World} {a : Option Addr} {fs : List FileL} (h : Rd w a (filesV fs)) {B : Nat} (hB : w.heap.size ≤ B) (hb : Below B w wr) (k : Nat) (hk : k < fs.length) :
    ∃ b off, a = some ⟨b, off, none⟩ ∧ wr.cell? ⟨b, off + k * 2, none⟩ = some (.string (str fs[k].1)) ∧ wr.cell? ⟨b, off + k * 2 + 1, none⟩ = some (.string (str fs[k].2)) := by
  have h' := h.later hB hb
  obtain ⟨g1, g2⟩ := filesV_get fs k hk
  obtain ⟨b, off, rfl, hc⟩ := h' _ _ g1
  obtain ⟨b', off', e, hc'⟩ := h' _ _ g2
  cases e
  refine ⟨b, off, rfl, ?_, ?_⟩
  · rw [Nat.mul_comm k 2]; exact hc
  · rw [Nat.mul_comm k 2]; exact hc'
set_option maxRecDepth 100000 in
theorem hasName_walk (fs : List FileL) (name : List UInt8) (a : Option Addr) (cap : Nat) (hn : fs.length ≤ 1000) (w : World) (hrd : Rd w a (filesV fs)) :
    Calls Tryz.prog 95 #[.slice a fs.length cap, .string (str name)] w fun e w' => e = .returned (.bool (hasNameL fs name)) ∧ Below w.heap.size w w' := by
  go_enter Tryz.func95, Tryz.ntmps95
  go_wp2
  go_loopw [6, 9] (fun _ i wr => ∃ k : Nat, k ≤ fs.length ∧ i = .int .i64 (k : Int) ∧ Below w.heap.size w wr ∧ Hid (hasNameL (fs.drop k) name = hasNameL fs name))
    (fun _ i _ => fs.length - (intOf i).toNat)
  case atStart => exact ⟨0, by omega, rfl, Below.refl _ _, hid_of rfl⟩
  case round =>
    obtain ⟨k, hk, rfl, hbl, hd⟩ := hrel
    have hsz := hbl.size
    by_cases hlt : k < fs.length
    · obtain ⟨b, off, rfl, hc1, hc2⟩ := fileCells hrd (Nat.le_refl _) hbl k hlt
      have hdk : hasNameL (fs.drop k) name = (fs[k].1 == name || hasNameL (fs.drop (k + 1)) name) := by
        rw [List.drop_eq_getElem_cons hlt]; rfl
      have HD := hid_of hdk
      clear hdk
      go_wp2
      · go_ret
        have he : ((str fs[k].1).toList == (str name).toList) = true := by assumption
        rw [str_toList, str_toList] at he
        have := hd.out
        rw [HD.out, he] at this
        refine ⟨?_, hbl.alloc hsz _⟩
        rw [← this]
        rfl
      · have he : ((str fs[k].1).toList == (str name).toList) = false := by assumption
        rw [str_toList, str_toList] at he
        have := hd.out
        rw [HD.out, he] at this
        exact ⟨⟨k + 1, by omega, by go_num, hbl.alloc hsz _, hid_of (by simpa using this)⟩, by simp [intOf]; omega⟩
    · obtain rfl : k = fs.length := by omega
      go_wp2
      go_ret
      have := hd.out
      rw [List.drop_length] at this
      exact ⟨by rw [← this]; rfl, hbl⟩
def countL (fs : List FileL) (size : Nat) : Nat := (fs.map fun f => slicesOfN f.2.length size).sum
theorem slicesOfN_le (len size : Nat) (h : 0 < size) : slicesOfN len size ≤ len := by
  unfold slicesOfN
  rcases Nat.eq_zero_or_pos len with h0 | h0
  · subst h0
    rw [Nat.div_eq_of_lt (by omega)]
    exact Nat.le_refl _
  · calc (len + size - 1) / size ≤ (len * size) / size := Nat.div_le_div_right (by
          have h1 : len * size = (len - 1) * size + size := by rw [← Nat.succ_mul]; congr 1; omega
          have h2 : (len - 1) * 1 ≤ (len - 1) * size := Nat.mul_le_mul_left _ h
          omega)
      _ = len := Nat.mul_div_cancel _ h
set_option maxRecDepth 100000 in
theorem CountSlices_walk (fs : List FileL) (size : Nat) (a : Option Addr) (cap : Nat) (hs : 0 < size) (hs2 : size ≤ 32) (hn : fs.length ≤ 6) (hl : ∀ f ∈ fs, f.2.length ≤ 400) (w : World) (hrd : Rd w a (filesV fs)) :
    Calls Tryz.prog 63 #[.slice a fs.length cap, .int .i64 (size : Int)] w fun e w' => e = .returned (.int .i64 ((countL fs size : Nat) : Int)) ∧ Below w.heap.size w w' := by
  go_enter Tryz.func63, Tryz.ntmps63
  go_wp2
  go_loopw [5, 7, 10] (fun c _ i wr => ∃ k c' : Nat, k ≤ fs.length ∧ c' ≤ 400 * k ∧ c = .int .i64 (c' : Int) ∧ i = .int .i64 (k : Int) ∧ Below w.heap.size w wr ∧ Hid (c' + countL (fs.drop k) size = countL fs size))
    (fun _ _ i _ => fs.length - (intOf i).toNat)
  case atStart => exact ⟨0, 0, by omega, by omega, rfl, rfl, Below.refl _ _, hid_of (by simp)⟩
  case round =>
    obtain ⟨k, c', hk, hc', rfl, rfl, hbl, hd⟩ := hrel
    have hsz := hbl.size
    by_cases hlt : k < fs.length
    · obtain ⟨b, off, rfl, hc1, hc2⟩ := fileCells hrd (Nat.le_refl _) hbl k hlt
      have hdk : countL (fs.drop k) size = slicesOfN fs[k].2.length size + countL (fs.drop (k + 1)) size := by
        rw [List.drop_eq_getElem_cons hlt]; unfold countL; rw [List.map_cons, List.sum_cons]
      have hlk := hl fs[k] (List.getElem_mem hlt)
      have hle := slicesOfN_le fs[k].2.length size hs
      have hsz2 : (str fs[k].2).size = fs[k].2.length := str_size _
      have HD := hid_of hdk
      clear hdk
      go_wp2_with fail
      refine (slicesOf_walk fs[k].2.length size (by omega) hs (by omega) _).mono ?_
      rintro e w1 ⟨rfl, rfl⟩
      go_wp2_with fail
      have := hd.out
      rw [HD.out] at this
      exact ⟨⟨k + 1, c' + slicesOfN fs[k].2.length size, by omega, by omega, by go_num, by go_num, hbl.alloc hsz _, hid_of (by omega)⟩, by simp [intOf]; omega⟩
    · obtain rfl : k = fs.length := by omega
      go_wp2
      go_ret
      have := hd.out
      rw [List.drop_length] at this
      simp only [countL, List.map_nil, List.sum_nil, Nat.add_zero] at this
      exact ⟨by rw [this]; rfl, hbl⟩
def okAt (fs : List FileL) (i : Nat) : Bool := match fs[i]? with
  | some f => fitsL f && !hasNameL (fs.take i) f.1
  | none => true
def isSetL (fs : List FileL) : Bool := decide (1 ≤ fs.length ∧ fs.length ≤ 6) && (List.range fs.length).all (okAt fs)
theorem filesV_take (fs : List FileL) (k : Nat) : filesV (fs.take k) = (filesV fs).take (2 * k) := by
  induction fs generalizing k with
  | nil => simp [filesV]
  | cons f fs ih =>
    cases k with
    | zero => simp [filesV]
    | succ k =>
      have := ih k
      have e : 2 * (k + 1) = 2 * k + 1 + 1 := by omega
      simp only [filesV, List.take_succ_cons, List.flatMap_cons, List.cons_append, List.nil_append, e] at this ⊢
      rw [this]
theorem Rd.take {w : World} {a : Option Addr} {xs : List Value} (h : Rd w a xs) (k : Nat) : Rd w a (xs.take k) := by
  intro j u hj
  apply h j u
  rw [List.getElem?_take] at hj
  split at hj
  · exact hj
  · cases hj
set_option maxRecDepth 100000 in
set_option maxHeartbeats 4000000 in
theorem IsSet_walk (fs : List FileL) (a : Option Addr) (cap : Nat) (hcap : fs.length ≤ cap) (hl : ∀ f ∈ fs, f.1.length < 140737488355328 ∧ f.2.length < 140737488355328) (w : World) (hrd : Rd w a (filesV fs)) :
    Calls Tryz.prog 62 #[.slice a fs.length cap] w fun e w' => e = .returned (.bool (isSetL fs)) ∧ Below w.heap.size w w' := by
  by_cases h1 : fs.length < 1
  · have e : isSetL fs = false := by unfold isSetL; rw [decide_eq_false (by omega)]; rfl
    go_enter Tryz.func62, Tryz.ntmps62
    go_wp2
    go_ret
    exact ⟨by first | rfl | (rw [e]; rfl), Below.refl _ _⟩
  · by_cases h2 : 6 < fs.length
    · have e : isSetL fs = false := by unfold isSetL; rw [decide_eq_false (by omega)]; rfl
      go_enter Tryz.func62, Tryz.ntmps62
      go_wp2
      go_ret
      exact ⟨by first | rfl | (rw [e]; rfl), Below.refl _ _⟩
    · go_enter Tryz.func62, Tryz.ntmps62
      go_wp2
      go_loopw [3, 4, 15] (fun _ _ i wr => ∃ k : Nat, k ≤ fs.length ∧ i = .int .i64 (k : Int) ∧ Below w.heap.size w wr ∧ Hid (∀ j, j < k → okAt fs j = true))
        (fun _ _ i _ => fs.length - (intOf i).toNat)
      case atStart => exact ⟨0, by omega, rfl, Below.refl _ _, hid_of (by intro j hj; omega)⟩
      case round =>
        obtain ⟨k, hk, rfl, hbl, hd⟩ := hrel
        have hsz := hbl.size
        by_cases hlt : k < fs.length
        · obtain ⟨b, off, rfl, hc1, hc2⟩ := fileCells hrd (Nat.le_refl _) hbl k hlt
          have hf := hl fs[k] (List.getElem_mem hlt)
          have hok : okAt fs k = (fitsL fs[k] && !hasNameL (fs.take k) fs[k].1) := by unfold okAt; rw [List.getElem?_eq_getElem hlt]
          have HOK := hid_of hok
          clear hok
          have hN : ∀ W, Rd W (some ⟨b, off, none⟩) (filesV (fs.take k)) → Calls Tryz.prog 95 #[.slice (some ⟨b, off, none⟩) k cap, .string (str fs[k].1)] W fun e w' => e = .returned (.bool (hasNameL (fs.take k) fs[k].1)) ∧ Below W.heap.size W w' := by
            intro W hW
            have := hasName_walk (fs.take k) fs[k].1 (some ⟨b, off, none⟩) cap (by rw [List.length_take]; omega) W hW
            rw [List.length_take, Nat.min_eq_left (by omega)] at this
            exact this
          have HN := hid_of hN
          have hR : ∀ W, Below w.heap.size w W → Rd W (some ⟨b, off, none⟩) (filesV (fs.take k)) := by
            intro W hW
            rw [filesV_take]
            exact (hrd.later (Nat.le_refl _) hW).take _
          have HR := hid_of hR
          have HRD := hid_of hrd
          have HOKB := hid_of hd
          clear hN hR hrd
          have hbad : okAt fs k = false → isSetL fs = false := by
            intro h
            unfold isSetL
            rw [Bool.and_eq_false_iff]
            right
            rw [List.all_eq_false]
            exact ⟨k, by simpa using hlt, by simp [h]⟩
          have HBAD := hid_of hbad
          have hnext : okAt fs k = true → ∀ j, j < k + 1 → okAt fs j = true := by
            intro h j hj
            rcases Nat.lt_or_ge j k with h' | h'
            · exact hd.out j h'
            · have : j = k := by omega
              subst this
              exact h
          have HNEXT := hid_of hnext
          clear hbad hnext
          by_cases hfit : fitsL fs[k] = true
          · by_cases hh : hasNameL (fs.take k) fs[k].1 = true
            · go_wp2_with fail
              go_region_with (first
                | (go_at_call 94; refine (fits_walk fs[k] hf.1 hf.2 _).mono ?_; rintro e w1 ⟨rfl, hb1⟩; have hc3 : w1.cell? ⟨wr.heap.size, 0, none⟩ = some (.string (str fs[k].1)) := by (rw [hb1.cell (by simp)]; simp))
                | (go_at_call 95; refine (HN.out _ ?_).mono ?_; exact HR.out _ (Below.next (hbl.alloc hsz _).drew hb1); rintro e w2 ⟨rfl, hb2⟩))
              all_goals
                go_wp2_with fail
                go_ret
                refine ⟨?_, Below.next (Below.next (hbl.alloc hsz _).drew hb1) hb2⟩
                have e1 := HBAD.out (by rw [HOK.out, hfit, hh]; rfl)
                rw [e1]
                rfl
            · have hh' : hasNameL (fs.take k) fs[k].1 = false := by simpa using hh
              clear hh
              go_wp2_with fail
              go_region_with (first
                | (go_at_call 94; refine (fits_walk fs[k] hf.1 hf.2 _).mono ?_; rintro e w1 ⟨rfl, hb1⟩; have hc3 : w1.cell? ⟨wr.heap.size, 0, none⟩ = some (.string (str fs[k].1)) := by (rw [hb1.cell (by simp)]; simp))
                | (go_at_call 95; refine (HN.out _ ?_).mono ?_; exact HR.out _ (Below.next (hbl.alloc hsz _).drew hb1); rintro e w2 ⟨rfl, hb2⟩))
              all_goals
                go_wp2_with fail
                go_roundw
                case rel => exact ⟨k + 1, by omega, by go_num, Below.next (Below.next (hbl.alloc hsz _).drew hb1) hb2, hid_of (HNEXT.out (by rw [HOK.out, hfit, hh']; rfl))⟩
                case measure => simp [intOf]; omega
          · have hfit' : fitsL fs[k] = false := by simpa using hfit
            clear hfit
            go_wp2_with fail
            first
              | (go_region_with (go_at_call 94; refine (fits_walk fs[k] hf.1 hf.2 _).mono ?_; rintro e w1 ⟨rfl, hb1⟩))
              | fail
            all_goals
              go_wp2_with fail
              go_ret
              refine ⟨?_, Below.next (hbl.alloc hsz _).drew hb1⟩
              have e1 := HBAD.out (by rw [HOK.out, hfit']; rfl)
              rw [e1]
              rfl
        · obtain rfl : k = fs.length := by omega
          have e : isSetL fs = true := by
            unfold isSetL
            rw [decide_eq_true (by omega), Bool.true_and, List.all_eq_true]
            intro j hj
            exact hd.out j (by simpa using hj)
          go_wp2
          go_ret
          exact ⟨by rw [e]; rfl, hbl⟩
end Go.Proofs.YtonjphollmdicaaGreatDoor
namespace Go.Proofs
open Go.Shelf
def Tryz.lays105_ren : Go.Shelf.Ren := ⟨fun | 105 => 112 | 212 => 129 | 99 => 130 | 165 => 131 | 166 => 132 | 170 => 133 | 169 => 134 | 263 => 143 | 264 => 144 | 206 => 145 | 240 => 146 | 241 => 147 | 276 => 159 | 277 => 160 | n => n, fun | 9 => 9 | 3 => 3 | 4 => 4 | 20 => 20 | 0 => 0 | 46 => 156 | 109 => 212 | 5 => 5 | 72 => 217 | 76 => 221 | 51 => 155 | 146 => 230 | 53 => 63 | 148 => 232 | 70 => 215 | 37 => 67 | 75 => 220 | 127 => 234 | 164 => 247 | 80 => 169 | n => n, fun | n => n⟩
theorem Tryz.lays105 : Go.Proofs.Lays.n105 Tryz.prog Tryz.lays105_ren := {
 mixed := by kernel_rfl
 f99 := Tryz.func130.trans (congrArg some (by kernel_rfl))
 f105 := Tryz.func112.trans (congrArg some (by kernel_rfl))
 f165 := Tryz.func131.trans (congrArg some (by kernel_rfl))
 f166 := Tryz.func132.trans (congrArg some (by kernel_rfl))
 f169 := Tryz.func134.trans (congrArg some (by kernel_rfl))
 f170 := Tryz.func133.trans (congrArg some (by kernel_rfl))
 f206 := Tryz.func145.trans (congrArg some (by kernel_rfl))
 f212 := Tryz.func129.trans (congrArg some (by kernel_rfl))
 f240 := Tryz.func146.trans (congrArg some (by kernel_rfl))
 f241 := Tryz.func147.trans (congrArg some (by kernel_rfl))
 f263 := Tryz.func143.trans (congrArg some (by kernel_rfl))
 f264 := Tryz.func144.trans (congrArg some (by kernel_rfl))
 f276 := Tryz.func159.trans (congrArg some (by kernel_rfl))
 f277 := Tryz.func160.trans (congrArg some (by kernel_rfl))
 t0 := Tryz.underlying0
 a0 := Tryz.isAgg0
 z0 := Tryz.sizeOf0
 v0 := Tryz.zeroValue0
 t3 := Tryz.underlying3
 a3 := Tryz.isAgg3
 z3 := Tryz.sizeOf3
 v3 := Tryz.zeroValue3
 t4 := Tryz.underlying4
 a4 := Tryz.isAgg4
 z4 := Tryz.sizeOf4
 v4 := Tryz.zeroValue4
 t5 := Tryz.underlying5
 a5 := Tryz.isAgg5
 z5 := Tryz.sizeOf5
 v5 := Tryz.zeroValue5
 t9 := Tryz.underlying9
 a9 := Tryz.isAgg9
 z9 := Tryz.sizeOf9
 v9 := Tryz.zeroValue9
 t20 := Tryz.underlying20
 a20 := Tryz.isAgg20
 z20 := Tryz.sizeOf20
 v20 := Tryz.zeroValue20
 t37 := Tryz.underlying67
 a37 := Tryz.isAgg67
 z37 := Tryz.sizeOf67
 v37 := Tryz.zeroValue67
 t46 := Tryz.underlying156
 a46 := Tryz.isAgg156
 z46 := Tryz.sizeOf156
 v46 := Tryz.zeroValue156
 t51 := Tryz.underlying155
 a51 := Tryz.isAgg155
 z51 := Tryz.sizeOf155
 v51 := Tryz.zeroValue155
 t53 := Tryz.underlying63
 a53 := Tryz.isAgg63
 z53 := Tryz.sizeOf63
 v53 := Tryz.zeroValue63
 t70 := Tryz.underlying215
 a70 := Tryz.isAgg215
 z70 := Tryz.sizeOf215
 v70 := Tryz.zeroValue215
 t72 := Tryz.underlying217
 a72 := Tryz.isAgg217
 z72 := Tryz.sizeOf217
 v72 := Tryz.zeroValue217
 t75 := Tryz.underlying220
 a75 := Tryz.isAgg220
 z75 := Tryz.sizeOf220
 v75 := Tryz.zeroValue220
 t76 := Tryz.underlying221
 a76 := Tryz.isAgg221
 z76 := Tryz.sizeOf221
 v76 := Tryz.zeroValue221
 t109 := Tryz.underlying212
 a109 := Tryz.isAgg212
 z109 := Tryz.sizeOf212
 v109 := Tryz.zeroValue212
 t127 := Tryz.underlying234
 a127 := Tryz.isAgg234
 z127 := Tryz.sizeOf234
 v127 := Tryz.zeroValue234
 t146 := Tryz.underlying230
 a146 := Tryz.isAgg230
 z146 := Tryz.sizeOf230
 v146 := Tryz.zeroValue230
 t148 := Tryz.underlying232
 a148 := Tryz.isAgg232
 z148 := Tryz.sizeOf232
 v148 := Tryz.zeroValue232
 t164 := Tryz.underlying247
 a164 := Tryz.isAgg247
 z164 := Tryz.sizeOf247
 v164 := Tryz.zeroValue247 }
theorem Tryz.Builder_Extra_105 : Builder.Extra Tryz.prog Tryz.lays105_ren := {
 sizeBuilder := by kernel_rfl
 liesBuilder := by kernel_rfl
 t5 := Tryz.underlying5
 a5 := Tryz.isAgg5
 z5 := Tryz.sizeOf5
 v5 := Tryz.zeroValue5
 infoByte := by kernel_rfl
 cellsByte := by kernel_rfl
 sizeByte := by kernel_rfl
 neB5 := by decide }
open Go.RowKit Go.Lib in
theorem Tryz.strings_Repeat (s : ByteArray) (c : Nat) (w : World) (hc : c ≤ 9223372036854775807) (hlen : s.size * c ≤ 140737488355328) :
  Calls Tryz.prog 112 #[.string s, .int .i64 c] w fun e w' => e = .returned (.string ⟨(Lib.repeatL s.data.toList c).toArray⟩) ∧ Below w.heap.size w w' := Any.strings_Repeat Tryz.lays105 Tryz.Builder_Extra_105 s c w hc hlen
end Go.Proofs
namespace Go.Proofs.YtonjphollmdicaaGreatDoor
open Go.ChangeShapes Go.WideShapes Go.ChangeAt Go.RowKit
def padL (data : List UInt8) (size : Nat) : List UInt8 := data ++ List.replicate (slicesOfN data.length size * size - data.length) 0
def pieceL (l : List UInt8) (size i : Nat) : List UInt8 := (l.drop (i * size)).take size
def cutL (data : List UInt8) (size : Nat) : List (List UInt8) := (List.range (slicesOfN data.length size)).map (pieceL (padL data size) size)
theorem Tryz.infoS : (Tryz.prog.info? 9).map (fun i => (i.zero, i.size, i.bytes)) = some (some (.string ByteArray.empty), 1, 16) := by kernel_rfl
def RepeatDoes : Prop := ∀ (c : Nat) (w : World), c ≤ 1000 → Calls Tryz.prog 112 #[.string ⟨#[0]⟩, .int .i64 (c : Int)] w fun e w' => e = .returned (.string (str (List.replicate c 0))) ∧ Below w.heap.size w w'
theorem slices_ge (len size : Nat) (h : 0 < size) : len ≤ slicesOfN len size * size := by
 unfold slicesOfN
 have h1 := Nat.div_add_mod (len + size - 1) size
 have h2 := Nat.mod_lt (len + size - 1) h
 rw [Nat.mul_comm] at h1
 omega
theorem slices_lt (len size : Nat) : slicesOfN len size * size ≤ len + size - 1 := by
 unfold slicesOfN
 exact Nat.div_mul_le_self _ _
theorem str_extract (l : List UInt8) (a b : Nat) : (str l).extract a b = str ((l.drop a).take (b - a)) := by
 apply ByteArray.ext
 simp [str, ByteArray.data_extract]
theorem wrap64_nat (m : Nat) (h : m ≤ 1000000) : wrap64 ((m : Nat) : Int) = (m : Int) := by unfold wrap64; omega
theorem wrap64_mul (k size : Nat) (h : k * size ≤ 1000000) : wrap64 ((k : Int) * (size : Int)) = ((k * size : Nat) : Int) := by
 rw [← Int.natCast_mul, wrap64_nat _ h]
theorem wrap64_mul1 (k size : Nat) (h : (k + 1) * size ≤ 1000000) : wrap64 (((k : Int) + 1) * (size : Int)) = (((k + 1) * size : Nat) : Int) := by
 have : ((k : Int) + 1) * (size : Int) = (((k + 1) * size : Nat) : Int) := by simp
 rw [this, wrap64_nat _ h]
theorem cut_facts (l : List UInt8) (n k size : Nat) (hk : k < n) (hn : n * size ≤ 1000) (hl : l.length = n * size) :
  Hid ((str l).extract (wrap64 ((k : Int) * (size : Int))).toNat (wrap64 (((k : Int) + 1) * (size : Int))).toNat = str (pieceL l size k)) ∧
  0 ≤ wrap64 ((k : Int) * (size : Int)) ∧ wrap64 ((k : Int) * (size : Int)) ≤ wrap64 (((k : Int) + 1) * (size : Int)) ∧ wrap64 (((k : Int) + 1) * (size : Int)) ≤ ((str l).size : Int) := by
 have m1 : (k + 1) * size ≤ n * size := Nat.mul_le_mul_right _ hk
 have m2 : (k + 1) * size = k * size + size := Nat.succ_mul k size
 rw [wrap64_mul k size (by omega), wrap64_mul1 k size (by omega), str_size, hl]
 refine ⟨hid_of ?_, by omega, Int.ofNat_le.2 (by omega), Int.ofNat_le.2 m1⟩
 rw [str_extract]
 unfold pieceL
 have e3 : (((k + 1) * size : Nat) : Int).toNat - ((k * size : Nat) : Int).toNat = size := by rw [Int.toNat_natCast, Int.toNat_natCast, m2]; exact Nat.add_sub_cancel_left _ _
 rw [e3, Int.toNat_natCast]
theorem cut_set (data : List UInt8) (size n k : Nat) (zs : List (List UInt8)) (hn : n = slicesOfN data.length size) (hz : zs.length = n) (hk : k < n) (h : zs.take k = (cutL data size).take k) :
  (zs.set k (pieceL (padL data size) size k)).take (k + 1) = (cutL data size).take (k + 1) := by
 have hcl : (cutL data size).length = n := by unfold cutL; rw [List.length_map, List.length_range]; exact hn.symm
 rw [take_snoc _ k (by simpa using (by omega : k < zs.length)), take_snoc _ k (by omega)]
 rw [List.take_set_of_le (Nat.le_refl _), h]
 congr 2
 rw [List.getElem_set_self]
 simp [cutL]
theorem pad_len (data : List UInt8) (size n : Nat) (h0 : 0 < size) (hn : n = slicesOfN data.length size) : (padL data size).length = n * size := by
 have := slices_ge data.length size h0
 unfold padL
 rw [List.length_append, List.length_replicate, ← hn]
 rw [← hn] at this
 omega
set_option maxRecDepth 100000 in
theorem Cut_walk (hrep : RepeatDoes) (data : List UInt8) (size : Nat) (h0 : 0 < size) (h1 : size ≤ 32) (hd : data.length ≤ 400) (w : World) :
  Calls Tryz.prog 122 #[.string (str data), .int .i64 (size : Int)] w fun e w' => ∃ v', e = .returned v' ∧ w'.ownsRow w.heap.size 9 1 v' (slicesOfN data.length size) (strV (cutL data size)) ∧ Below w.heap.size w w' := by
 obtain ⟨i0, hi, hz0, hz1, hz2⟩ := info_parts Tryz.infoS
 have hsd : (str data).size = data.length := str_size data
 obtain ⟨n, hn⟩ : ∃ n, n = slicesOfN data.length size := ⟨_, rfl⟩
 have hge := slices_ge data.length size h0
 have hlt := slices_lt data.length size
 have hnl := slicesOfN_le data.length size h0
 rw [← hn] at hge hlt hnl
 have hns : n * size ≤ 432 := by omega
 have HN := hid_of hn
 go_enter Tryz.func122, Tryz.ntmps122
 go_wp2_with fail
 refine (slicesOf_walk data.length size (by omega) h0 (by omega) w).mono ?_
 rintro e w' ⟨rfl, rfl⟩
 rw [← HN.out]
 clear hn
 have hw : ((n : Int) * (size : Int)) = ((n * size : Nat) : Int) := by simp
 have HW := hid_of hw
 clear hw
 go_wp2_with fail
 rw [show ((n : Int) * (size : Int) - (data.length : Int)) = ((n * size - data.length : Nat) : Int) from by rw [HW.out]; omega]
 refine (hrep (n * size - data.length) w' (by omega)).mono ?_
 rintro e w1 ⟨rfl, hb1⟩
 have hps : (str (List.replicate (n * size - data.length) 0)).size = n * size - data.length := by rw [str_size, List.length_replicate]
 have hss : (str data).size + (str (List.replicate (n * size - data.length) 0)).size ≤ 9223372036854775807 := by rw [hps, hsd]; omega
 have hpad : str data ++ str (List.replicate (n * size - data.length) 0) = str (padL data size) := by
  rw [str_add, str_data]
  unfold padL
  rw [← HN.out]
 have hsz1 := hb1.size
 go_wp2_with (at_make; refine wpList_make_full _ rfl _ _ 23 rfl w'.heap.size 9 i0 (.string ByteArray.empty) 1 Tryz.underlying23 hi hz0 hz1 .i64 .i64 _ _ n rfl rfl rfl rfl ?c1 ?c2 ?c3 ?_)
 case c1 => rw [hz2]; omega
 case c2 => unfold maxLen; omega
 case c3 => exact hsz1
 intro w2 hown2 hg2
 have hb2 : Below w'.heap.size w' w2 := hb1.grown hg2 hsz1 (by simp)
 obtain ⟨g, hg⟩ : ∃ g, g = w1.heap.size := ⟨_, rfl⟩
 rw [← hg] at hown2 ⊢
 have hgw : w'.heap.size ≤ g := by omega
 clear hg2 hb1 hsz1 hg
 go_wp2_with fail
 go_loopw [8, 26] (fun _ i wr => ∃ (k : Nat) (zs : List (List UInt8)), k ≤ n ∧ i = .int .i64 (k : Int) ∧ wr.ownsRow w'.heap.size 9 1 (.slice (some ⟨g, 0, none⟩) n n) n (strV zs) ∧ Below w'.heap.size w' wr ∧ Hid (zs.take k = (cutL data size).take k))
  (fun _ i _ => n - (intOf i).toNat)
 case atStart => exact ⟨0, List.replicate n [], by omega, rfl, by simp only [strV, List.map_replicate, show str [] = ByteArray.empty from rfl]; simpa [toList_madeCells_one] using hown2, hb2, hid_of (by simp)⟩
 case round =>
  clear hown2 hb2
  obtain ⟨k, zs, hk, rfl, hownr, hbl, hzs⟩ := hrel
  have hzl : zs.length = n := by have := hownr.1; simpa [strV] using this
  by_cases hkn : k < n
  ·have hcell : wr.cell? ⟨g, k, none⟩ = some (.string (str zs[k])) := by
    rw [hownr.cellAt k (by omega)]; simp [strV, hzl, hkn]
   have hfz := hownr.frozenAt k
   obtain ⟨EEX, b1, b2, b3⟩ := cut_facts (padL data size) n k size hkn (by omega) (pad_len data size n h0 HN.out)
   have HSET := hid_of (cut_set data size n k zs HN.out hzl hkn hzs.out)
   have hst := (hownr.stored k (.string (str (pieceL (padL data size) size k)))).1
   have hown' : (wr.setCell ⟨g, k, none⟩ (.string (str (pieceL (padL data size) size k)))).ownsRow w'.heap.size 9 1 (.slice (some ⟨g, 0, none⟩) n n) n (strV (zs.set k (pieceL (padL data size) size k))) := by
    have e : strV (zs.set k (pieceL (padL data size) size k)) = (strV zs).set k (.string (str (pieceL (padL data size) size k))) := by simp [strV, List.map_set]
    rw [e]; exact hst
   have hB := hbl.setCell (p := ⟨g, k, none⟩) hgw (.string (str (pieceL (padL data size) size k)))
   have HO := hid_of hown'
   have HB := hid_of hB
   clear hown' hB hst hownr hzs
   go_wp2_with fail
   rw [EEX.out]
   go_roundw
   case rel => exact ⟨k + 1, zs.set k (pieceL (padL data size) size k), by omega, by go_num, HO.out, HB.out, HSET⟩
   case measure => simp [intOf]; omega
  ·obtain rfl : k = n := by omega
   have := hzs.out
   rw [← hzl, List.take_length, hzl, List.take_of_length_le (by unfold cutL; rw [List.length_map, List.length_range, ← HN.out]; exact Nat.le_refl _)] at this
   subst this
   go_wp2_with fail
   go_ret
   exact ⟨_, rfl, by rw [← HN.out]; exact hownr, hbl⟩
theorem repeat_zero (c : Nat) : Lib.repeatL [0] c = List.replicate c 0 := by
 induction c with
 | zero => rfl
 | succ c ih => simp only [Lib.repeatL, ih, List.replicate_succ]; rfl
theorem repeat_does : RepeatDoes := by
 intro c w hc
 have h := Tryz.strings_Repeat ⟨#[0]⟩ c w (by omega) (by
  have : (ByteArray.mk #[0]).size = 1 := rfl
  rw [this]; omega)
 have e : (ByteArray.mk #[0]).data.toList = [0] := rfl
 rw [e, repeat_zero] at h
 exact h
theorem Cut_l (data : List UInt8) (size : Nat) (h0 : 0 < size) (h1 : size ≤ 32) (hd : data.length ≤ 400) (w : World) :
  Calls Tryz.prog 122 #[.string (str data), .int .i64 (size : Int)] w fun e w' => ∃ v', e = .returned v' ∧ w'.ownsRow w.heap.size 9 1 v' (slicesOfN data.length size) (strV (cutL data size)) ∧ Below w.heap.size w w' :=
 Cut_walk repeat_does data size h0 h1 hd w
end Go.Proofs.YtonjphollmdicaaGreatDoor
