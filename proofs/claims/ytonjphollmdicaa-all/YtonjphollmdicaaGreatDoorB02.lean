import Derived.Test.YtonjphollmdicaaGreatDoorB01
import Derived.Deep.RegionWith
import Derived.BigRegion
import Derived.Shelf.Strings.Repeat
import Derived.Test.YtonjphollmdicaaGreatDoorProg
import Derived.Laws.DeepStrings4
import Derived.RegionTactic
import Derived.ChangeAlike
set_option maxRecDepth 100000
set_option maxHeartbeats 4000000
set_option linter.unusedSimpArgs false
namespace Go.Proofs.YtonjphollmdicaaGreatDoor
open Go.ChangeShapes Go.WideShapes Go.ChangeAt Go.RowKit
def Ax (n : Int) : Bool := decide (2 ≤ n ∧ n ≤ 32 ∧ n % 2 = 0)
theorem Bm (n : Int) (w : World) :
    Calls Tryz.prog 61 #[.int .i64 n] w fun e w' => e = .returned (.bool (Ax n)) ∧ w' = w := by
  by_cases h1 : 2 ≤ n
  · by_cases h2 : n ≤ 32
    · have e : n.tmod 2 = n % 2 := Int.tmod_eq_emod_of_nonneg (by omega)
      go_enter Tryz.func61, Tryz.ntmps61
      go_wp2
      go_ret
      refine ⟨?_, rfl⟩
      show Ending.returned (.bool (n % 2 == 0)) = _
      have e2 : (n % 2 == 0) = Ax n := by
        unfold Ax
        by_cases h3 : n % 2 = 0
        · simp [h1, h2, h3]
        · simp [h3]
      rw [e2]
    · go_enter Tryz.func61, Tryz.ntmps61
      go_wp2
      go_ret
      refine ⟨?_, rfl⟩
      have e2 : Ax n = false := by unfold Ax; exact decide_eq_false (by omega)
      rw [e2]
      rfl
  · go_enter Tryz.func61, Tryz.ntmps61
    go_wp2
    go_ret
    refine ⟨?_, rfl⟩
    have e2 : Ax n = false := by unfold Ax; exact decide_eq_false (by omega)
    rw [e2]
    rfl
def Ai (len size : Nat) : Nat := (len + size - 1) / size
theorem EG (len size : Nat) (h1 : len ≤ 1000000) (h2 : 0 < size) (h3 : size ≤ 1000) (w : World) :
    Calls Tryz.prog 96 #[.int .i64 (len : Int), .int .i64 (size : Int)] w fun e w' => e = .returned (.int .i64 ((Ai len size : Nat) : Int)) ∧ w' = w := by
  go_enter Tryz.func96, Tryz.ntmps96
  go_wp2
  go_ret
  refine ⟨?_, rfl⟩
  have e : ((len : Int) + (size : Int) - 1) / (size : Int) = ((Ai len size : Nat) : Int) := by
    unfold Ai
    rw [Int.natCast_ediv]
    congr 1
    omega
  show Ending.returned (.int .i64 (((len : Int) + (size : Int) - 1) / (size : Int))) = _
  rw [e]
abbrev Aj := List UInt8 × List UInt8
def Ar (fs : List Aj) : List Value := fs.flatMap fun f => [Value.string (str f.1), Value.string (str f.2)]
def Eu (f : Aj) : Bool := decide (1 ≤ f.1.length ∧ f.1.length ≤ 20 ∧ f.2.length ≤ 400)
theorem EM (fs : List Aj) : (Ar fs).length = 2 * fs.length := by
  induction fs with
  | nil => rfl
  | cons f fs ih => simp [Ar] at ih ⊢; omega
theorem Ey (fs : List Aj) (k : Nat) (h : k < fs.length) : (Ar fs)[2 * k]? = some (.string (str fs[k].1)) ∧ (Ar fs)[2 * k + 1]? = some (.string (str fs[k].2)) := by
  induction fs generalizing k with
  | nil => simp at h
  | cons f fs ih =>
    cases k with
    | zero => simp [Ar]
    | succ k =>
      have := ih k (by simpa using h)
      have e : 2 * (k + 1) = 2 * k + 1 + 1 := by omega
      simp only [Ar, List.flatMap_cons, List.cons_append, List.nil_append, e, List.getElem?_cons_succ, List.getElem_cons_succ] at this ⊢
      exact this
theorem IO (f : Aj) (h1 : f.1.length < 140737488355328) (h2 : f.2.length < 140737488355328) (w : World) :
    Calls Tryz.prog 94 #[.agg #[.string (str f.1), .string (str f.2)]] w fun e w' => e = .returned (.bool (Eu f)) ∧ Below w.heap.size w w' := by
  have s1 := Ae f.1
  have s2 := Ae f.2
  go_enter Tryz.func94, Tryz.ntmps94
  go_wp2
  · go_ret
    refine ⟨?_, (Below.refl _ _).alloc (Nat.le_refl _) _⟩
    have e : Eu f = decide ((f.2.length : Int) ≤ 400) := by
      unfold Eu
      apply decide_eq_decide.2
      omega
    rw [e]
    rfl
  · go_ret
    refine ⟨?_, (Below.refl _ _).alloc (Nat.le_refl _) _⟩
    have e : Eu f = false := by unfold Eu; exact decide_eq_false (by omega)
    rw [e]
    rfl
  · go_ret
    refine ⟨?_, (Below.refl _ _).alloc (Nat.le_refl _) _⟩
    have e : Eu f = false := by unfold Eu; exact decide_eq_false (by omega)
    rw [e]
    rfl
theorem At (l : List UInt8) : (str l).toList = l := by rw [ByteArray.toList_eq, Dg]
def BB (fs : List Aj) (name : List UInt8) : Bool := fs.any fun f => f.1 == name
theorem Bh {w wr : World} {a : Option Addr} {fs : List Aj} (h : Rd w a (Ar fs)) {B : Nat} (hB : w.heap.size ≤ B) (hb : Below B w wr) (k : Nat) (hk : k < fs.length) :
    ∃ b off, a = some ⟨b, off, none⟩ ∧ wr.cell? ⟨b, off + k * 2, none⟩ = some (.string (str fs[k].1)) ∧ wr.cell? ⟨b, off + k * 2 + 1, none⟩ = some (.string (str fs[k].2)) := by
  have h' := h.later hB hb
  obtain ⟨g1, g2⟩ := Ey fs k hk
  obtain ⟨b, off, rfl, hc⟩ := h' _ _ g1
  obtain ⟨b', off', e, hc'⟩ := h' _ _ g2
  cases e
  refine ⟨b, off, rfl, ?_, ?_⟩
  · rw [Nat.mul_comm k 2]; exact hc
  · rw [Nat.mul_comm k 2]; exact hc'
theorem KT (fs : List Aj) (name : List UInt8) (a : Option Addr) (cap : Nat) (hn : fs.length ≤ 1000) (w : World) (hrd : Rd w a (Ar fs)) :
    Calls Tryz.prog 95 #[.slice a fs.length cap, .string (str name)] w fun e w' => e = .returned (.bool (BB fs name)) ∧ Below w.heap.size w w' := by
  go_enter Tryz.func95, Tryz.ntmps95
  go_wp2
  go_loopw [6, 9] (fun _ i wr => ∃ k : Nat, k ≤ fs.length ∧ i = .int .i64 (k : Int) ∧ Below w.heap.size w wr ∧ Hid (BB (fs.drop k) name = BB fs name))
    (fun _ i _ => fs.length - (intOf i).toNat)
  case atStart => exact ⟨0, by omega, rfl, Below.refl _ _, Aa rfl⟩
  case round =>
    obtain ⟨k, hk, rfl, hbl, hd⟩ := hrel
    have hsz := hbl.size
    by_cases hlt : k < fs.length
    · obtain ⟨b, off, rfl, hc1, hc2⟩ := Bh hrd (Nat.le_refl _) hbl k hlt
      have hdk : BB (fs.drop k) name = (fs[k].1 == name || BB (fs.drop (k + 1)) name) := by
        rw [List.drop_eq_getElem_cons hlt]; rfl
      have HD := Aa hdk
      clear hdk
      go_wp2
      · go_ret
        have he : ((str fs[k].1).toList == (str name).toList) = true := by assumption
        rw [At, At] at he
        have := hd.out
        rw [HD.out, he] at this
        refine ⟨?_, hbl.alloc hsz _⟩
        rw [← this]
        rfl
      · have he : ((str fs[k].1).toList == (str name).toList) = false := by assumption
        rw [At, At] at he
        have := hd.out
        rw [HD.out, he] at this
        exact ⟨⟨k + 1, by omega, by go_num, hbl.alloc hsz _, Aa (by simpa using this)⟩, by simp [intOf]; omega⟩
    · obtain rfl : k = fs.length := by omega
      go_wp2
      go_ret
      have := hd.out
      rw [List.drop_length] at this
      exact ⟨by rw [← this]; rfl, hbl⟩
def BL (fs : List Aj) (size : Nat) : Nat := (fs.map fun f => Ai f.2.length size).sum
theorem Bs (len size : Nat) (h : 0 < size) : Ai len size ≤ len := by
  unfold Ai
  rcases Nat.eq_zero_or_pos len with h0 | h0
  · subst h0
    rw [Nat.div_eq_of_lt (by omega)]
    exact Nat.le_refl _
  · calc (len + size - 1) / size ≤ (len * size) / size := Nat.div_le_div_right (by
          have h1 : len * size = (len - 1) * size + size := by rw [← Nat.succ_mul]; congr 1; omega
          have h2 : (len - 1) * 1 ≤ (len - 1) * size := Nat.mul_le_mul_left _ h
          omega)
      _ = len := Nat.mul_div_cancel _ h
theorem ET (fs : List Aj) (size : Nat) (a : Option Addr) (cap : Nat) (hs : 0 < size) (hs2 : size ≤ 32) (hn : fs.length ≤ 6) (hl : ∀ f ∈ fs, f.2.length ≤ 400) (w : World) (hrd : Rd w a (Ar fs)) :
    Calls Tryz.prog 63 #[.slice a fs.length cap, .int .i64 (size : Int)] w fun e w' => e = .returned (.int .i64 ((BL fs size : Nat) : Int)) ∧ Below w.heap.size w w' := by
  go_enter Tryz.func63, Tryz.ntmps63
  go_wp2
  go_loopw [5, 7, 10] (fun c _ i wr => ∃ k c' : Nat, k ≤ fs.length ∧ c' ≤ 400 * k ∧ c = .int .i64 (c' : Int) ∧ i = .int .i64 (k : Int) ∧ Below w.heap.size w wr ∧ Hid (c' + BL (fs.drop k) size = BL fs size))
    (fun _ _ i _ => fs.length - (intOf i).toNat)
  case atStart => exact ⟨0, 0, by omega, by omega, rfl, rfl, Below.refl _ _, Aa (by simp)⟩
  case round =>
    obtain ⟨k, c', hk, hc', rfl, rfl, hbl, hd⟩ := hrel
    have hsz := hbl.size
    by_cases hlt : k < fs.length
    · obtain ⟨b, off, rfl, hc1, hc2⟩ := Bh hrd (Nat.le_refl _) hbl k hlt
      have hdk : BL (fs.drop k) size = Ai fs[k].2.length size + BL (fs.drop (k + 1)) size := by
        rw [List.drop_eq_getElem_cons hlt]; unfold BL; rw [List.map_cons, List.sum_cons]
      have hlk := hl fs[k] (List.getElem_mem hlt)
      have hle := Bs fs[k].2.length size hs
      have hsz2 : (str fs[k].2).size = fs[k].2.length := Ae _
      have HD := Aa hdk
      clear hdk
      go_wp2_with fail
      refine (EG fs[k].2.length size (by omega) hs (by omega) _).mono ?_
      rintro e w1 ⟨rfl, rfl⟩
      go_wp2_with fail
      have := hd.out
      rw [HD.out] at this
      exact ⟨⟨k + 1, c' + Ai fs[k].2.length size, by omega, by omega, by go_num, by go_num, hbl.alloc hsz _, Aa (by omega)⟩, by simp [intOf]; omega⟩
    · obtain rfl : k = fs.length := by omega
      go_wp2
      go_ret
      have := hd.out
      rw [List.drop_length] at this
      simp only [BL, List.map_nil, List.sum_nil, Nat.add_zero] at this
      exact ⟨by rw [this]; rfl, hbl⟩
def OS (fs : List Aj) (i : Nat) : Bool := match fs[i]? with
  | some f => Eu f && !hasNameL (fs.take i) f.1
  | none => true
def Cn (fs : List Aj) : Bool := decide (1 ≤ fs.length ∧ fs.length ≤ 6) && (List.range fs.length).all (OS fs)
theorem MY (fs : List Aj) (k : Nat) : Ar (fs.take k) = (Ar fs).take (2 * k) := by
  induction fs generalizing k with
  | nil => simp [Ar]
  | cons f fs ih =>
    cases k with
    | zero => simp [Ar]
    | succ k =>
      have := ih k
      have e : 2 * (k + 1) = 2 * k + 1 + 1 := by omega
      simp only [Ar, List.take_succ_cons, List.flatMap_cons, List.cons_append, List.nil_append, e] at this ⊢
      rw [this]
theorem Rd.take {w : World} {a : Option Addr} {xs : List Value} (h : Rd w a xs) (k : Nat) : Rd w a (xs.take k) := by
  intro j u hj
  apply h j u
  rw [List.getElem?_take] at hj
  split at hj
  · exact hj
  · cases hj
theorem FG (fs : List Aj) (a : Option Addr) (cap : Nat) (hcap : fs.length ≤ cap) (hl : ∀ f ∈ fs, f.1.length < 140737488355328 ∧ f.2.length < 140737488355328) (w : World) (hrd : Rd w a (Ar fs)) :
    Calls Tryz.prog 62 #[.slice a fs.length cap] w fun e w' => e = .returned (.bool (Cn fs)) ∧ Below w.heap.size w w' := by
  by_cases h1 : fs.length < 1
  · have e : Cn fs = false := by unfold Cn; rw [decide_eq_false (by omega)]; rfl
    go_enter Tryz.func62, Tryz.ntmps62
    go_wp2
    go_ret
    exact ⟨by first | rfl | (rw [e]; rfl), Below.refl _ _⟩
  · by_cases h2 : 6 < fs.length
    · have e : Cn fs = false := by unfold Cn; rw [decide_eq_false (by omega)]; rfl
      go_enter Tryz.func62, Tryz.ntmps62
      go_wp2
      go_ret
      exact ⟨by first | rfl | (rw [e]; rfl), Below.refl _ _⟩
    · go_enter Tryz.func62, Tryz.ntmps62
      go_wp2
      go_loopw [3, 4, 15] (fun _ _ i wr => ∃ k : Nat, k ≤ fs.length ∧ i = .int .i64 (k : Int) ∧ Below w.heap.size w wr ∧ Hid (∀ j, j < k → OS fs j = true))
        (fun _ _ i _ => fs.length - (intOf i).toNat)
      case atStart => exact ⟨0, by omega, rfl, Below.refl _ _, Aa (by intro j hj; omega)⟩
      case round =>
        obtain ⟨k, hk, rfl, hbl, hd⟩ := hrel
        have hsz := hbl.size
        by_cases hlt : k < fs.length
        · obtain ⟨b, off, rfl, hc1, hc2⟩ := Bh hrd (Nat.le_refl _) hbl k hlt
          have hf := hl fs[k] (List.getElem_mem hlt)
          have hok : OS fs k = (Eu fs[k] && !hasNameL (fs.take k) fs[k].1) := by unfold OS; rw [List.getElem?_eq_getElem hlt]
          have HOK := Aa hok
          clear hok
          have hN : ∀ W, Rd W (some ⟨b, off, none⟩) (Ar (fs.take k)) → Calls Tryz.prog 95 #[.slice (some ⟨b, off, none⟩) k cap, .string (str fs[k].1)] W fun e w' => e = .returned (.bool (BB (fs.take k) fs[k].1)) ∧ Below W.heap.size W w' := by
            intro W hW
            have := KT (fs.take k) fs[k].1 (some ⟨b, off, none⟩) cap (by rw [List.length_take]; omega) W hW
            rw [List.length_take, Nat.min_eq_left (by omega)] at this
            exact this
          have HN := Aa hN
          have hR : ∀ W, Below w.heap.size w W → Rd W (some ⟨b, off, none⟩) (Ar (fs.take k)) := by
            intro W hW
            rw [MY]
            exact (hrd.later (Nat.le_refl _) hW).take _
          have HR := Aa hR
          have HRD := Aa hrd
          have HOKB := Aa hd
          clear hN hR hrd
          have hbad : OS fs k = false → Cn fs = false := by
            intro h
            unfold Cn
            rw [Bool.and_eq_false_iff]
            right
            rw [List.all_eq_false]
            exact ⟨k, by simpa using hlt, by simp [h]⟩
          have HBAD := Aa hbad
          have hnext : OS fs k = true → ∀ j, j < k + 1 → OS fs j = true := by
            intro h j hj
            rcases Nat.lt_or_ge j k with h' | h'
            · exact hd.out j h'
            · have : j = k := by omega
              subst this
              exact h
          have HNEXT := Aa hnext
          clear hbad hnext
          by_cases hfit : Eu fs[k] = true
          · by_cases hh : BB (fs.take k) fs[k].1 = true
            · go_wp2_with fail
              go_region_with (first
                | (go_at_call 94; refine (IO fs[k] hf.1 hf.2 _).mono ?_; rintro e w1 ⟨rfl, hb1⟩; have hc3 : w1.cell? ⟨wr.heap.size, 0, none⟩ = some (.string (str fs[k].1)) := by (rw [hb1.cell (by simp)]; simp))
                | (go_at_call 95; refine (HN.out _ ?_).mono ?_; exact HR.out _ (Below.next (hbl.alloc hsz _).drew hb1); rintro e w2 ⟨rfl, hb2⟩))
              all_goals
                go_wp2_with fail
                go_ret
                refine ⟨?_, Below.next (Below.next (hbl.alloc hsz _).drew hb1) hb2⟩
                have e1 := HBAD.out (by rw [HOK.out, hfit, hh]; rfl)
                rw [e1]
                rfl
            · have hh' : BB (fs.take k) fs[k].1 = false := by simpa using hh
              clear hh
              go_wp2_with fail
              go_region_with (first
                | (go_at_call 94; refine (IO fs[k] hf.1 hf.2 _).mono ?_; rintro e w1 ⟨rfl, hb1⟩; have hc3 : w1.cell? ⟨wr.heap.size, 0, none⟩ = some (.string (str fs[k].1)) := by (rw [hb1.cell (by simp)]; simp))
                | (go_at_call 95; refine (HN.out _ ?_).mono ?_; exact HR.out _ (Below.next (hbl.alloc hsz _).drew hb1); rintro e w2 ⟨rfl, hb2⟩))
              all_goals
                go_wp2_with fail
                go_roundw
                case rel => exact ⟨k + 1, by omega, by go_num, Below.next (Below.next (hbl.alloc hsz _).drew hb1) hb2, Aa (HNEXT.out (by rw [HOK.out, hfit, hh']; rfl))⟩
                case measure => simp [intOf]; omega
          · have hfit' : Eu fs[k] = false := by simpa using hfit
            clear hfit
            go_wp2_with fail
            first
              | (go_region_with (go_at_call 94; refine (IO fs[k] hf.1 hf.2 _).mono ?_; rintro e w1 ⟨rfl, hb1⟩))
              | fail
            all_goals
              go_wp2_with fail
              go_ret
              refine ⟨?_, Below.next (hbl.alloc hsz _).drew hb1⟩
              have e1 := HBAD.out (by rw [HOK.out, hfit']; rfl)
              rw [e1]
              rfl
        · obtain rfl : k = fs.length := by omega
          have e : Cn fs = true := by
            unfold Cn
            rw [decide_eq_true (by omega), Bool.true_and, List.all_eq_true]
            intro j hj
            exact hd.out j (by simpa using hj)
          go_wp2
          go_ret
          exact ⟨by rw [e]; rfl, hbl⟩
end Go.Proofs.YtonjphollmdicaaGreatDoor
namespace Go.Proofs
open Go.Shelf
def Tryz.lays105_ren : Go.Shelf.Ren := ⟨fun | 105 => 112 | 212 => 129 | 99 => 130 | 165 => 131 | 166 => 132 | 170 => 133 | 169 => 134 | 263 => 143 | 264 => 144 | 206 => 145 | 240 => 146 | 241 => 147 | 276 => 159 | 277 => 160 | n => n, fun | 9 => 9 | 3 => 3 | 4 => 4 | 20 => 20 | 0 => 0 | 46 => 156 | 109 => 212 | 5 => 5 | 72 => 217 | 76 => 221 | 51 => 155 | 146 => 230 | 53 => 63 | 148 => 232 | 70 => 215 | 37 => 67 | 75 => 220 | 127 => 234 | 164 => 247 | 80 => 169 | n => n, fun | n => n⟩
theorem Tryz.lays105 : Go.Proofs.Lays.n105 Tryz.prog Tryz.lays105_ren := {
 mixed := by kernel_rfl
 f99 := Tryz.func130.trans (congrArg some (by kernel_rfl))
 f105 := Tryz.func112.trans (congrArg some (by kernel_rfl))
 f165 := Tryz.func131.trans (congrArg some (by kernel_rfl))
 f166 := Tryz.func132.trans (congrArg some (by kernel_rfl))
 f169 := Tryz.func134.trans (congrArg some (by kernel_rfl))
 f170 := Tryz.func133.trans (congrArg some (by kernel_rfl))
 f206 := Tryz.func145.trans (congrArg some (by kernel_rfl))
 f212 := Tryz.func129.trans (congrArg some (by kernel_rfl))
 f240 := Tryz.func146.trans (congrArg some (by kernel_rfl))
 f241 := Tryz.func147.trans (congrArg some (by kernel_rfl))
 f263 := Tryz.func143.trans (congrArg some (by kernel_rfl))
 f264 := Tryz.func144.trans (congrArg some (by kernel_rfl))
 f276 := Tryz.func159.trans (congrArg some (by kernel_rfl))
 f277 := Tryz.func160.trans (congrArg some (by kernel_rfl))
 t0 := Tryz.underlying0
 a0 := Tryz.isAgg0
 z0 := Tryz.sizeOf0
 v0 := Tryz.zeroValue0
 t3 := Tryz.underlying3
 a3 := Tryz.isAgg3
 z3 := Tryz.sizeOf3
 v3 := Tryz.zeroValue3
 t4 := Tryz.underlying4
 a4 := Tryz.isAgg4
 z4 := Tryz.sizeOf4
 v4 := Tryz.zeroValue4
 t5 := Tryz.underlying5
 a5 := Tryz.isAgg5
 z5 := Tryz.sizeOf5
 v5 := Tryz.zeroValue5
 t9 := Tryz.underlying9
 a9 := Tryz.isAgg9
 z9 := Tryz.sizeOf9
 v9 := Tryz.zeroValue9
 t20 := Tryz.underlying20
 a20 := Tryz.isAgg20
 z20 := Tryz.sizeOf20
 v20 := Tryz.zeroValue20
 t37 := Tryz.underlying67
 a37 := Tryz.isAgg67
 z37 := Tryz.sizeOf67
 v37 := Tryz.zeroValue67
 t46 := Tryz.underlying156
 a46 := Tryz.isAgg156
 z46 := Tryz.sizeOf156
 v46 := Tryz.zeroValue156
 t51 := Tryz.underlying155
 a51 := Tryz.isAgg155
 z51 := Tryz.sizeOf155
 v51 := Tryz.zeroValue155
 t53 := Tryz.underlying63
 a53 := Tryz.isAgg63
 z53 := Tryz.sizeOf63
 v53 := Tryz.zeroValue63
 t70 := Tryz.underlying215
 a70 := Tryz.isAgg215
 z70 := Tryz.sizeOf215
 v70 := Tryz.zeroValue215
 t72 := Tryz.underlying217
 a72 := Tryz.isAgg217
 z72 := Tryz.sizeOf217
 v72 := Tryz.zeroValue217
 t75 := Tryz.underlying220
 a75 := Tryz.isAgg220
 z75 := Tryz.sizeOf220
 v75 := Tryz.zeroValue220
 t76 := Tryz.underlying221
 a76 := Tryz.isAgg221
 z76 := Tryz.sizeOf221
 v76 := Tryz.zeroValue221
 t109 := Tryz.underlying212
 a109 := Tryz.isAgg212
 z109 := Tryz.sizeOf212
 v109 := Tryz.zeroValue212
 t127 := Tryz.underlying234
 a127 := Tryz.isAgg234
 z127 := Tryz.sizeOf234
 v127 := Tryz.zeroValue234
 t146 := Tryz.underlying230
 a146 := Tryz.isAgg230
 z146 := Tryz.sizeOf230
 v146 := Tryz.zeroValue230
 t148 := Tryz.underlying232
 a148 := Tryz.isAgg232
 z148 := Tryz.sizeOf232
 v148 := Tryz.zeroValue232
 t164 := Tryz.underlying247
 a164 := Tryz.isAgg247
 z164 := Tryz.sizeOf247
 v164 := Tryz.zeroValue247 }
theorem Tryz.Builder_Extra_105 : Builder.Extra Tryz.prog Tryz.lays105_ren := {
 sizeBuilder := by kernel_rfl
 liesBuilder := by kernel_rfl
 t5 := Tryz.underlying5
 a5 := Tryz.isAgg5
 z5 := Tryz.sizeOf5
 v5 := Tryz.zeroValue5
 infoByte := by kernel_rfl
 cellsByte := by kernel_rfl
 sizeByte := by kernel_rfl
 neB5 := by decide }
open Go.RowKit Go.Lib in
theorem Tryz.strings_Repeat (s : ByteArray) (c : Nat) (w : World) (hc : c ≤ 9223372036854775807) (hlen : s.size * c ≤ 140737488355328) :
  Calls Tryz.prog 112 #[.string s, .int .i64 c] w fun e w' => e = .returned (.string ⟨(Lib.repeatL s.data.toList c).toArray⟩) ∧ Below w.heap.size w w' := Any.strings_Repeat Tryz.lays105 Tryz.Builder_Extra_105 s c w hc hlen
end Go.Proofs
namespace Go.Proofs.YtonjphollmdicaaGreatDoor
open Go.ChangeShapes Go.WideShapes Go.ChangeAt Go.RowKit
def LV (data : List UInt8) (size : Nat) : List UInt8 := data ++ List.replicate (Ai data.length size * size - data.length) 0
def D9 (l : List UInt8) (size i : Nat) : List UInt8 := (l.drop (i * size)).take size
def C0 (data : List UInt8) (size : Nat) : List (List UInt8) := (List.range (Ai data.length size)).map (D9 (LV data size) size)
theorem Tryz.infoS : (Tryz.prog.info? 9).map (fun i => (i.zero, i.size, i.bytes)) = some (some (.string ByteArray.empty), 1, 16) := by kernel_rfl
def Jl : Prop := ∀ (c : Nat) (w : World), c ≤ 1000 → Calls Tryz.prog 112 #[.string ⟨#[0]⟩, .int .i64 (c : Int)] w fun e w' => e = .returned (.string (str (List.replicate c 0))) ∧ Below w.heap.size w w'
theorem Fj (len size : Nat) (h : 0 < size) : len ≤ Ai len size * size := by
 unfold Ai
 have h1 := Nat.div_add_mod (len + size - 1) size
 have h2 := Nat.mod_lt (len + size - 1) h
 rw [Nat.mul_comm] at h1
 omega
theorem LS (len size : Nat) : Ai len size * size ≤ len + size - 1 := by
 unfold Ai
 exact Nat.div_mul_le_self _ _
theorem AB (l : List UInt8) (a b : Nat) : (str l).extract a b = str ((l.drop a).take (b - a)) := by
 apply ByteArray.ext
 simp [str, ByteArray.data_extract]
theorem Jj (m : Nat) (h : m ≤ 1000000) : wrap64 ((m : Nat) : Int) = (m : Int) := by unfold wrap64; omega
theorem Ot (k size : Nat) (h : k * size ≤ 1000000) : wrap64 ((k : Int) * (size : Int)) = ((k * size : Nat) : Int) := by
 rw [← Int.natCast_mul, Jj _ h]
theorem Mp (k size : Nat) (h : (k + 1) * size ≤ 1000000) : wrap64 (((k : Int) + 1) * (size : Int)) = (((k + 1) * size : Nat) : Int) := by
 have : ((k : Int) + 1) * (size : Int) = (((k + 1) * size : Nat) : Int) := by simp
 rw [this, Jj _ h]
theorem Pb (l : List UInt8) (n k size : Nat) (hk : k < n) (hn : n * size ≤ 1000) (hl : l.length = n * size) :
  Hid ((str l).extract (wrap64 ((k : Int) * (size : Int))).toNat (wrap64 (((k : Int) + 1) * (size : Int))).toNat = str (D9 l size k)) ∧
  0 ≤ wrap64 ((k : Int) * (size : Int)) ∧ wrap64 ((k : Int) * (size : Int)) ≤ wrap64 (((k : Int) + 1) * (size : Int)) ∧ wrap64 (((k : Int) + 1) * (size : Int)) ≤ ((str l).size : Int) := by
 have m1 : (k + 1) * size ≤ n * size := Nat.mul_le_mul_right _ hk
 have m2 : (k + 1) * size = k * size + size := Nat.succ_mul k size
 rw [Ot k size (by omega), Mp k size (by omega), Ae, hl]
 refine ⟨Aa ?_, by omega, Int.ofNat_le.2 (by omega), Int.ofNat_le.2 m1⟩
 rw [AB]
 unfold D9
 have e3 : (((k + 1) * size : Nat) : Int).toNat - ((k * size : Nat) : Int).toNat = size := by rw [Int.toNat_natCast, Int.toNat_natCast, m2]; exact Nat.add_sub_cancel_left _ _
 rw [e3, Int.toNat_natCast]
theorem Sk (data : List UInt8) (size n k : Nat) (zs : List (List UInt8)) (hn : n = Ai data.length size) (hz : zs.length = n) (hk : k < n) (h : zs.take k = (C0 data size).take k) :
  (zs.set k (D9 (LV data size) size k)).take (k + 1) = (C0 data size).take (k + 1) := by
 have hcl : (C0 data size).length = n := by unfold C0; rw [List.length_map, List.length_range]; exact hn.symm
 rw [Ao _ k (by simpa using (by omega : k < zs.length)), Ao _ k (by omega)]
 rw [List.take_set_of_le (Nat.le_refl _), h]
 congr 2
 rw [List.getElem_set_self]
 simp [C0]
theorem Qn (data : List UInt8) (size n : Nat) (h0 : 0 < size) (hn : n = Ai data.length size) : (LV data size).length = n * size := by
 have := Fj data.length size h0
 unfold LV
 rw [List.length_append, List.length_replicate, ← hn]
 rw [← hn] at this
 omega
theorem Qu (hrep : Jl) (data : List UInt8) (size : Nat) (h0 : 0 < size) (h1 : size ≤ 32) (hd : data.length ≤ 400) (w : World) :
  Calls Tryz.prog 122 #[.string (str data), .int .i64 (size : Int)] w fun e w' => ∃ v', e = .returned v' ∧ w'.ownsRow w.heap.size 9 1 v' (Ai data.length size) (AL (C0 data size)) ∧ Below w.heap.size w w' := by
 obtain ⟨i0, hi, hz0, hz1, hz2⟩ := info_parts Tryz.infoS
 have hsd : (str data).size = data.length := Ae data
 obtain ⟨n, hn⟩ : ∃ n, n = Ai data.length size := ⟨_, rfl⟩
 have hge := Fj data.length size h0
 have hlt := LS data.length size
 have hnl := Bs data.length size h0
 rw [← hn] at hge hlt hnl
 have hns : n * size ≤ 432 := by omega
 have HN := Aa hn
 go_enter Tryz.func122, Tryz.ntmps122
 go_wp2_with fail
 refine (EG data.length size (by omega) h0 (by omega) w).mono ?_
 rintro e w' ⟨rfl, rfl⟩
 rw [← HN.out]
 clear hn
 have hw : ((n : Int) * (size : Int)) = ((n * size : Nat) : Int) := by simp
 have HW := Aa hw
 clear hw
 go_wp2_with fail
 rw [show ((n : Int) * (size : Int) - (data.length : Int)) = ((n * size - data.length : Nat) : Int) from by rw [HW.out]; omega]
 refine (hrep (n * size - data.length) w' (by omega)).mono ?_
 rintro e w1 ⟨rfl, hb1⟩
 have hps : (str (List.replicate (n * size - data.length) 0)).size = n * size - data.length := by rw [Ae, List.length_replicate]
 have hss : (str data).size + (str (List.replicate (n * size - data.length) 0)).size ≤ 9223372036854775807 := by rw [hps, hsd]; omega
 have hpad : str data ++ str (List.replicate (n * size - data.length) 0) = str (LV data size) := by
  rw [Hw, Dg]
  unfold LV
  rw [← HN.out]
 have hsz1 := hb1.size
 go_wp2_with (at_make; refine wpList_make_full _ rfl _ _ 23 rfl w'.heap.size 9 i0 (.string ByteArray.empty) 1 Tryz.underlying23 hi hz0 hz1 .i64 .i64 _ _ n rfl rfl rfl rfl ?c1 ?c2 ?c3 ?_)
 case c1 => rw [hz2]; omega
 case c2 => unfold maxLen; omega
 case c3 => exact hsz1
 intro w2 hown2 hg2
 have hb2 : Below w'.heap.size w' w2 := hb1.grown hg2 hsz1 (by simp)
 obtain ⟨g, hg⟩ : ∃ g, g = w1.heap.size := ⟨_, rfl⟩
 rw [← hg] at hown2 ⊢
 have hgw : w'.heap.size ≤ g := by omega
 clear hg2 hb1 hsz1 hg
 go_wp2_with fail
 go_loopw [8, 26] (fun _ i wr => ∃ (k : Nat) (zs : List (List UInt8)), k ≤ n ∧ i = .int .i64 (k : Int) ∧ wr.ownsRow w'.heap.size 9 1 (.slice (some ⟨g, 0, none⟩) n n) n (AL zs) ∧ Below w'.heap.size w' wr ∧ Hid (zs.take k = (C0 data size).take k))
  (fun _ i _ => n - (intOf i).toNat)
 case atStart => exact ⟨0, List.replicate n [], by omega, rfl, by simp only [AL, List.map_replicate, show str [] = ByteArray.empty from rfl]; simpa [toList_madeCells_one] using hown2, hb2, Aa (by simp)⟩
 case round =>
  clear hown2 hb2
  obtain ⟨k, zs, hk, rfl, hownr, hbl, hzs⟩ := hrel
  have hzl : zs.length = n := by have := hownr.1; simpa [AL] using this
  by_cases hkn : k < n
  ·have hcell : wr.cell? ⟨g, k, none⟩ = some (.string (str zs[k])) := by
    rw [hownr.cellAt k (by omega)]; simp [AL, hzl, hkn]
   have hfz := hownr.frozenAt k
   obtain ⟨EEX, b1, b2, b3⟩ := Pb (LV data size) n k size hkn (by omega) (Qn data size n h0 HN.out)
   have HSET := Aa (Sk data size n k zs HN.out hzl hkn hzs.out)
   have hst := (hownr.stored k (.string (str (D9 (LV data size) size k)))).1
   have hown' : (wr.setCell ⟨g, k, none⟩ (.string (str (D9 (LV data size) size k)))).ownsRow w'.heap.size 9 1 (.slice (some ⟨g, 0, none⟩) n n) n (AL (zs.set k (D9 (LV data size) size k))) := by
    have e : AL (zs.set k (D9 (LV data size) size k)) = (AL zs).set k (.string (str (D9 (LV data size) size k))) := by simp [AL, List.map_set]
    rw [e]; exact hst
   have hB := hbl.setCell (p := ⟨g, k, none⟩) hgw (.string (str (D9 (LV data size) size k)))
   have HO := Aa hown'
   have HB := Aa hB
   clear hown' hB hst hownr hzs
   go_wp2_with fail
   rw [EEX.out]
   go_roundw
   case rel => exact ⟨k + 1, zs.set k (D9 (LV data size) size k), by omega, by go_num, HO.out, HB.out, HSET⟩
   case measure => simp [intOf]; omega
  ·obtain rfl : k = n := by omega
   have := hzs.out
   rw [← hzl, List.take_length, hzl, List.take_of_length_le (by unfold C0; rw [List.length_map, List.length_range, ← HN.out]; exact Nat.le_refl _)] at this
   subst this
   go_wp2_with fail
   go_ret
   exact ⟨_, rfl, by rw [← HN.out]; exact hownr, hbl⟩
theorem MS (c : Nat) : Lib.repeatL [0] c = List.replicate c 0 := by
 induction c with
 | zero => rfl
 | succ c ih => simp only [Lib.repeatL, ih, List.replicate_succ]; rfl
theorem Iw : Jl := by
 intro c w hc
 have h := Tryz.strings_Repeat ⟨#[0]⟩ c w (by omega) (by
  have : (ByteArray.mk #[0]).size = 1 := rfl
  rw [this]; omega)
 have e : (ByteArray.mk #[0]).data.toList = [0] := rfl
 rw [e, MS] at h
 exact h
theorem SZ (data : List UInt8) (size : Nat) (h0 : 0 < size) (h1 : size ≤ 32) (hd : data.length ≤ 400) (w : World) :
  Calls Tryz.prog 122 #[.string (str data), .int .i64 (size : Int)] w fun e w' => ∃ v', e = .returned v' ∧ w'.ownsRow w.heap.size 9 1 v' (Ai data.length size) (AL (C0 data size)) ∧ Below w.heap.size w w' :=
 Qu Iw data size h0 h1 hd w
def A8 (l : List Nat) : List Value := l.map fun (n : Nat) => Value.int .u16 (n : Int)
def Fr (l : List UInt8) (i : Nat) : Nat := (l[2 * i]?.getD 0).toNat * 256 + (l[2 * i + 1]?.getD 0).toNat
def C7 (l : List UInt8) : List Nat := (List.range (l.length / 2)).map (Fr l)
def CD (r : List Nat) : List UInt8 := r.flatMap fun n => Af n 2
theorem Tryz.info16 : (Tryz.prog.info? 80).map (fun i => (i.zero, i.size, i.bytes)) = some (some (.int .u16 0), 1, 2) := by kernel_rfl
theorem NA (l : List UInt8) (i : Nat) : Fr l i < 65536 := by
 unfold Fr
 have h1 := (l[2 * i]?.getD 0).toNat_lt
 have h2 := (l[2 * i + 1]?.getD 0).toNat_lt
 omega
theorem BK (l : List UInt8) : (C7 l).length = l.length / 2 := by simp [C7]
theorem LY (l : List UInt8) (k : Nat) :
  bits BinOp.or IntKind.u16 (IntKind.u16.wrap (IntKind.u16.wrap ((l[2 * k]?.getD 0).toNat : Int) * 256)) (IntKind.u16.wrap ((l[2 * k + 1]?.getD 0).toNat : Int)) = ((Fr l k : Nat) : Int) := by
 have h1 := (l[2 * k]?.getD 0).toNat_lt
 have h2 := (l[2 * k + 1]?.getD 0).toNat_lt
 unfold Fr
 generalize (l[2 * k]?.getD 0).toNat = a at *
 generalize (l[2 * k + 1]?.getD 0).toNat = b at *
 have e1 : IntKind.u16.wrap (IntKind.u16.wrap (a : Int) * 256) = ((a * 256 : Nat) : Int) := by rw [IntKind.wrap_u16, IntKind.wrap_u16]; omega
 have e2 : IntKind.u16.wrap (b : Int) = (b : Int) := by rw [IntKind.wrap_u16]; omega
 rw [e1, e2, u16_or_nat (a * 256) b (by omega) (by omega)]
 have h3 := Nat.two_pow_add_eq_or_of_lt (i := 8) (b := b) (by omega) a
 rw [show a * 256 = 2 ^ 8 * a from by omega, ← h3]
theorem Cu (l : List UInt8) (j : Nat) (i : Int) (hi : i = (j : Int)) (hj : j < l.length) (W : World) :
  (Instr.index 9 (.string (str l)) (.int .i64 i)).run Tryz.prog W = .ok (.int .u8 ((l[j]?.getD 0).toNat : Int)) W := by
 subst hi
 have hs : j < (str l).size := by rw [Ae]; exact hj
 rw [run_index_string W 9 (str l) .i64 (j : Int) Tryz.underlying9, dif_pos ⟨by omega, by omega⟩]
 have e : ((str l)[((j : Int)).toNat]'(by omega)) = l[j]?.getD 0 := by
  have h2 : ((j : Int)).toNat = j := by omega
  simp only [h2]
  rw [List.getElem?_eq_getElem hj]
  rfl
 rw [e]
theorem Ft (l : List UInt8) (hl : l.length ≤ 1000) (w : World) :
  Calls Tryz.prog 124 #[.string (str l)] w fun e w' => ∃ v', e = .returned v' ∧ w'.ownsRow w.heap.size 80 1 v' (l.length / 2) (A8 (C7 l)) ∧ Below w.heap.size w w' := by
 obtain ⟨i0, hi, hz0, hz1, hz2⟩ := info_parts Tryz.info16
 have hss : (str l).size = l.length := Ae l
 obtain ⟨n, hn⟩ : ∃ n, n = l.length / 2 := ⟨_, rfl⟩
 have hn2 : 2 * n ≤ l.length := by omega
 have e2 : ((l.length : Int) / 2) = (n : Int) := by omega
 rw [← hn]
 have HN := Aa hn
 clear hn
 go_enter Tryz.func124, Tryz.ntmps124
 go_wp2_with (at_make; refine wpList_make_full _ rfl _ _ 167 rfl w.heap.size 80 i0 (.int .u16 0) 1 Tryz.underlying167 hi hz0 hz1 .i64 .i64 _ _ n rfl rfl ?c0 ?c0b ?c1 ?c2 (Nat.le_refl _) ?_)
 case c0 => first | rfl | omega
 case c0b => first | rfl | omega
 case c1 => rw [hz2]; omega
 case c2 => unfold maxLen; omega
 intro w1 hown1 hg1
 have hb1 : Below w.heap.size w w1 := (Below.refl _ w).grown hg1 (Nat.le_refl _) (by simp)
 clear hg1
 have HE := Aa e2
 clear e2
 go_wp2_with fail
 go_loopw [4, 11] (fun _ i wr => ∃ (k : Nat) (zs : List Nat), k ≤ n ∧ i = .int .i64 (k : Int) ∧ wr.ownsRow w.heap.size 80 1 (.slice (some ⟨w.heap.size, 0, none⟩) n n) n (A8 zs) ∧ Below w.heap.size w wr ∧ Hid (zs.take k = (C7 l).take k))
  (fun _ i _ => n - (intOf i).toNat)
 case atStart => exact ⟨0, List.replicate n 0, by omega, rfl, by simpa [A8, toList_madeCells_one] using hown1, hb1, Aa (by simp)⟩
 case round =>
  clear hown1 hb1
  obtain ⟨k, zs, hk, rfl, hownr, hbl, hzs⟩ := hrel
  have hzl : zs.length = n := by have := hownr.1; simpa [A8] using this
  by_cases hlt : k < n
  ·have hcell : wr.cell? ⟨w.heap.size, k, none⟩ = some (.int .u16 (zs[k] : Int)) := by
    rw [hownr.cellAt k (by omega)]; simp [A8, hzl, hlt]
   have hfz := hownr.frozenAt k
   have i1 := Cu l (2 * k) (2 * (k : Int)) (by omega) (by omega)
   have i2 := Cu l (2 * k + 1) (2 * (k : Int) + 1) (by omega) (by omega)
   have hst := (hownr.stored k (.int .u16 ((Fr l k : Nat) : Int))).1
   have hown' : (wr.setCell ⟨w.heap.size, k, none⟩ (.int .u16 ((Fr l k : Nat) : Int))).ownsRow w.heap.size 80 1 (.slice (some ⟨w.heap.size, 0, none⟩) n n) n (A8 (zs.set k (Fr l k))) := by
    have e : A8 (zs.set k (Fr l k)) = (A8 zs).set k (.int .u16 ((Fr l k : Nat) : Int)) := by simp [A8, List.map_set]
    rw [e]; exact hst
   have hB := hbl.setCell (p := ⟨w.heap.size, k, none⟩) (Nat.le_refl _) (.int .u16 ((Fr l k : Nat) : Int))
   have hset : (zs.set k (Fr l k)).take (k + 1) = (C7 l).take (k + 1) := by
    rw [Ao _ k (by simpa using (by omega : k < zs.length)), Ao _ k (by rw [BK, ← HN.out]; exact hlt)]
    rw [List.take_set_of_le (Nat.le_refl _), hzs.out]
    congr 2
    rw [List.getElem_set_self]
    simp [C7]
   have HS := Aa hset
   have HO := Aa hown'
   have HB := Aa hB
   clear hset hown' hB hst hownr hzs
   go_wp2_with fail
   go_region
   rw [LY]
   clear i1 i2
   go_wp2_with fail
   go_roundw
   case rel => exact ⟨k + 1, zs.set k (Fr l k), by omega, by go_num, HO.out.drew, HB.out.drew, HS⟩
   case measure => simp [intOf]; omega
  ·obtain rfl : k = n := by omega
   have := hzs.out
   rw [← hzl, List.take_length, hzl, List.take_of_length_le (by rw [BK, ← HN.out]; exact Nat.le_refl _)] at this
   subst this
   go_wp2_with fail
   go_ret
   exact ⟨_, rfl, hownr, hbl⟩
theorem Jw (l : List Nat) (h : Nat) : CD (l ++ [h]) = CD l ++ Af h 2 := by simp [CD]
theorem IK (w : World) (x y : Value) (t : TypeId) : ∀ j u, [x, y][j]? = some u → (w.alloc (.cells #[x, y] t)).cell? ((⟨w.heap.size, 0, none⟩ : Addr).add j) = some u := by
 intro j u hj
 rcases j with _ | _ | j
 ·simp at hj; subst hj; simp [Addr.add]
 ·simp at hj; subst hj; simp [Addr.add]
 ·simp at hj
theorem Ss (n : Nat) (h : n < 65536) : Bv (Af n 2) = [.int .u8 ((n : Int) / 256), .int .u8 ((n : Int) % 256)] := by
 have e1 : ((DA n 1).toNat : Int) = (n : Int) / 256 := by rw [← Ek]; simp; omega
 have e2 : ((DA n 0).toNat : Int) = (n : Int) % 256 := by rw [← Ek]; simp
 simp only [Af, Bv, List.map_cons, List.map_nil]
 rw [e1, e2]
theorem KG (r : List Nat) (a : Option Addr) (cap : Nat) (hn : r.length ≤ 1000) (hr : ∀ x ∈ r, x < 65536) (w : World) (hrd : Rd w a (A8 r)) :
  Calls Tryz.prog 103 #[.slice a r.length cap] w fun e w' => e = .returned (.string (str (CD r))) ∧ Below w.heap.size w w' := by
 obtain ⟨i0, hi, hz0, hz1, hz2⟩ := info_parts Tryz.info8
 go_enter Tryz.func103, Tryz.ntmps103
 go_wp2_with (at_make; refine wpList_make_own _ rfl _ _ 67 rfl w.heap.size 5 i0 (.int .u8 0) 1 Tryz.underlying67 hi hz0 hz1 .i64 .i64 _ (2 * r.length) rfl rfl ?c0 ?c1 ?c2 (Nat.le_refl _) ?_)
 case c0 => omega
 case c1 => rw [hz2]; omega
 case c2 => unfold maxLen; omega
 intro w1 hown1 hg1
 have hb1 : Below w.heap.size w w1 := (Below.refl _ w).grown hg1 (Nat.le_refl _) (by simp)
 clear hg1
 go_wp2_with fail
 go_loopw [3, 5, 12] (fun t _ i wr => ∃ k : Nat, k ≤ r.length ∧ i = .int .i64 (k : Int) ∧ wr.ownsRow w.heap.size 5 1 t (2 * k) (Bv (CD (r.take k))) ∧ Below w.heap.size w wr)
  (fun _ _ i _ => r.length - (intOf i).toNat)
 case atStart => exact ⟨0, by omega, rfl, by simpa [CD, Bv] using hown1, hb1⟩
 case round =>
  clear hown1 hb1
  obtain ⟨k, hk, rfl, hownr, hbl⟩ := hrel
  have hsz := hbl.size
  by_cases hlt : k < r.length
  ·obtain ⟨b, off, rfl, hc0⟩ := hrd k (.int .u16 (r[k] : Int)) (by simp [A8, hlt])
   have hc : wr.cell? ⟨b, off + k, none⟩ = some (.int .u16 (r[k] : Int)) := by
    rw [hbl.cell (World.block_lt_of_cell? w _ hc0)]; exact hc0
   have hrk := hr r[k] (List.getElem_mem hlt)
   clear hc0
   go_wp2_with (at_builtin; refine wpList_append_own _ rfl _ _ 67 rfl w.heap.size 5 i0 (.int .u8 0) 1 1 Tryz.underlying67 hi hz0 hz1 hz2 rfl (by decide) _ _ _ rfl (hownr.alloc _) ⟨wr.heap.size, 0, none⟩ 2 2 [.int .u8 ((r[k] : Int) / 256), .int .u8 ((r[k] : Int) % 256)] rfl rfl (IK _ _ _ _) ?c3 ?c4 ?c5 ?c6 ?_)
   case c3 => intro u hu; simp at hu; rcases hu with rfl | rfl <;> rfl
   case c4 => unfold maxLen; omega
   case c5 => omega
   case c6 => simp; omega
   ·intro v' w2 hown' hgrow _
    have hB := Ay hbl (by omega) hownr hgrow
    have hown2 : w2.ownsRow w.heap.size 5 1 v' (2 * (k + 1)) (Bv (CD (r.take (k + 1)))) := by
     rw [Ao r k hlt, Jw, DJ, Ss _ hrk]
     exact hown'
    clear hown' hgrow hownr
    go_wp2_with fail
    go_roundw
    case rel => exact ⟨k + 1, by omega, by go_num, hown2, hB⟩
    case measure => simp [intOf]; omega
  ·obtain rfl : k = r.length := by omega
   have hc := Cd hownr
   rw [List.take_length] at hc
   clear hownr
   go_wp2_with fail
   go_ret
   exact ⟨rfl, hbl⟩
end Go.Proofs.YtonjphollmdicaaGreatDoor
