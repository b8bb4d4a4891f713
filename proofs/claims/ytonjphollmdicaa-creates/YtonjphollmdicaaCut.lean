import Derived.Test.YtonjphollmdicaaFileset
import Derived.Test.YtonjphollmdicaaShelf
import Derived.Laws.DeepStrings4
namespace Go.Proofs.Ytonjphollmdicaa
open Go.ChangeShapes Go.WideShapes Go.ChangeAt Go.RowKit

def padL (data : List UInt8) (size : Nat) : List UInt8 := data ++ List.replicate (slicesOfN data.length size * size - data.length) 0
def pieceL (l : List UInt8) (size i : Nat) : List UInt8 := (l.drop (i * size)).take size
def cutL (data : List UInt8) (size : Nat) : List (List UInt8) := (List.range (slicesOfN data.length size)).map (pieceL (padL data size) size)

theorem Try.infoS : (Try.prog.info? 9).map (fun i => (i.zero, i.size, i.bytes)) = some (some (.string ByteArray.empty), 1, 16) := by kernel_rfl

/-- what strings.Repeat does to one byte 0 -/
def RepeatDoes : Prop := ∀ (c : Nat) (w : World), c ≤ 1000 → Calls Try.prog 64 #[.string ⟨#[0]⟩, .int .i64 (c : Int)] w fun e w' => e = .returned (.string (str (List.replicate c 0))) ∧ Below w.heap.size w w'

theorem slices_ge (len size : Nat) (h : 0 < size) : len ≤ slicesOfN len size * size := by
  unfold slicesOfN
  have h1 := Nat.div_add_mod (len + size - 1) size
  have h2 := Nat.mod_lt (len + size - 1) h
  rw [Nat.mul_comm] at h1
  omega
theorem slices_lt (len size : Nat) : slicesOfN len size * size ≤ len + size - 1 := by
  unfold slicesOfN
  exact Nat.div_mul_le_self _ _

theorem str_extract (l : List UInt8) (a b : Nat) : (str l).extract a b = str ((l.drop a).take (b - a)) := by
  apply ByteArray.ext
  simp [str, ByteArray.data_extract]

theorem wrap64_nat (m : Nat) (h : m ≤ 1000000) : wrap64 ((m : Nat) : Int) = (m : Int) := by unfold wrap64; omega
theorem wrap64_mul (k size : Nat) (h : k * size ≤ 1000000) : wrap64 ((k : Int) * (size : Int)) = ((k * size : Nat) : Int) := by
  rw [← Int.natCast_mul, wrap64_nat _ h]
theorem wrap64_mul1 (k size : Nat) (h : (k + 1) * size ≤ 1000000) : wrap64 (((k : Int) + 1) * (size : Int)) = (((k + 1) * size : Nat) : Int) := by
  have : ((k : Int) + 1) * (size : Int) = (((k + 1) * size : Nat) : Int) := by simp
  rw [this, wrap64_nat _ h]

theorem cut_facts (l : List UInt8) (n k size : Nat) (hk : k < n) (hn : n * size ≤ 1000) (hl : l.length = n * size) :
    Hid ((str l).extract (wrap64 ((k : Int) * (size : Int))).toNat (wrap64 (((k : Int) + 1) * (size : Int))).toNat = str (pieceL l size k)) ∧
    0 ≤ wrap64 ((k : Int) * (size : Int)) ∧ wrap64 ((k : Int) * (size : Int)) ≤ wrap64 (((k : Int) + 1) * (size : Int)) ∧ wrap64 (((k : Int) + 1) * (size : Int)) ≤ ((str l).size : Int) := by
  have m1 : (k + 1) * size ≤ n * size := Nat.mul_le_mul_right _ hk
  have m2 : (k + 1) * size = k * size + size := Nat.succ_mul k size
  rw [wrap64_mul k size (by omega), wrap64_mul1 k size (by omega), str_size, hl]
  refine ⟨hid_of ?_, by omega, Int.ofNat_le.2 (by omega), Int.ofNat_le.2 m1⟩
  rw [str_extract]
  unfold pieceL
  have e3 : (((k + 1) * size : Nat) : Int).toNat - ((k * size : Nat) : Int).toNat = size := by rw [Int.toNat_natCast, Int.toNat_natCast, m2]; exact Nat.add_sub_cancel_left _ _
  rw [e3, Int.toNat_natCast]

theorem cut_set (data : List UInt8) (size n k : Nat) (zs : List (List UInt8)) (hn : n = slicesOfN data.length size) (hz : zs.length = n) (hk : k < n) (h : zs.take k = (cutL data size).take k) :
    (zs.set k (pieceL (padL data size) size k)).take (k + 1) = (cutL data size).take (k + 1) := by
  have hcl : (cutL data size).length = n := by unfold cutL; rw [List.length_map, List.length_range]; exact hn.symm
  rw [take_snoc _ k (by simpa using (by omega : k < zs.length)), take_snoc _ k (by omega)]
  rw [List.take_set_of_le (Nat.le_refl _), h]
  congr 2
  rw [List.getElem_set_self]
  simp [cutL]

theorem pad_len (data : List UInt8) (size n : Nat) (h0 : 0 < size) (hn : n = slicesOfN data.length size) : (padL data size).length = n * size := by
  have := slices_ge data.length size h0
  unfold padL
  rw [List.length_append, List.length_replicate, ← hn]
  rw [← hn] at this
  omega

set_option maxRecDepth 100000 in
theorem Cut_walk (hrep : RepeatDoes) (data : List UInt8) (size : Nat) (h0 : 0 < size) (h1 : size ≤ 32) (hd : data.length ≤ 400) (w : World) :
    Calls Try.prog 57 #[.string (str data), .int .i64 (size : Int)] w fun e w' => ∃ v', e = .returned v' ∧ w'.ownsRow w.heap.size 9 1 v' (slicesOfN data.length size) (strV (cutL data size)) ∧ Below w.heap.size w w' := by
  obtain ⟨i0, hi, hz0, hz1, hz2⟩ := info_parts Try.infoS
  have hsd : (str data).size = data.length := str_size data
  obtain ⟨n, hn⟩ : ∃ n, n = slicesOfN data.length size := ⟨_, rfl⟩
  have hge := slices_ge data.length size h0
  have hlt := slices_lt data.length size
  have hnl := slicesOfN_le data.length size h0
  rw [← hn] at hge hlt hnl
  have hns : n * size ≤ 432 := by omega
  have HN := hid_of hn
  go_enter Try.func57, Try.ntmps57
  go_wp2_with fail
  refine (slicesOf_walk data.length size (by omega) h0 (by omega) w).mono ?_
  rintro e w' ⟨rfl, rfl⟩
  rw [← HN.out]
  clear hn
  have hw : ((n : Int) * (size : Int)) = ((n * size : Nat) : Int) := by simp
  have HW := hid_of hw
  clear hw
  go_wp2_with fail
  rw [show ((n : Int) * (size : Int) - (data.length : Int)) = ((n * size - data.length : Nat) : Int) from by rw [HW.out]; omega]
  refine (hrep (n * size - data.length) w' (by omega)).mono ?_
  rintro e w1 ⟨rfl, hb1⟩
  have hps : (str (List.replicate (n * size - data.length) 0)).size = n * size - data.length := by rw [str_size, List.length_replicate]
  have hss : (str data).size + (str (List.replicate (n * size - data.length) 0)).size ≤ 9223372036854775807 := by rw [hps, hsd]; omega
  have hpad : str data ++ str (List.replicate (n * size - data.length) 0) = str (padL data size) := by
    rw [str_add, str_data]
    unfold padL
    rw [← HN.out]
  have hsz1 := hb1.size
  go_wp2_with (at_make; refine wpList_make_full _ rfl _ _ 28 rfl w'.heap.size 9 i0 (.string ByteArray.empty) 1 Try.underlying28 hi hz0 hz1 .i64 .i64 _ _ n rfl rfl rfl rfl ?c1 ?c2 ?c3 ?_)
  case c1 => rw [hz2]; omega
  case c2 => unfold maxLen; omega
  case c3 => exact hsz1
  intro w2 hown2 hg2
  have hb2 : Below w'.heap.size w' w2 := hb1.grown hg2 hsz1 (by simp)
  obtain ⟨g, hg⟩ : ∃ g, g = w1.heap.size := ⟨_, rfl⟩
  rw [← hg] at hown2 ⊢
  have hgw : w'.heap.size ≤ g := by omega
  clear hg2 hb1 hsz1 hg
  go_wp2_with fail
  go_loopw [8, 26] (fun _ i wr => ∃ (k : Nat) (zs : List (List UInt8)), k ≤ n ∧ i = .int .i64 (k : Int) ∧ wr.ownsRow w'.heap.size 9 1 (.slice (some ⟨g, 0, none⟩) n n) n (strV zs) ∧ Below w'.heap.size w' wr ∧ Hid (zs.take k = (cutL data size).take k))
    (fun _ i _ => n - (intOf i).toNat)
  case atStart => exact ⟨0, List.replicate n [], by omega, rfl, by simp only [strV, List.map_replicate, show str [] = ByteArray.empty from rfl]; simpa [toList_madeCells_one] using hown2, hb2, hid_of (by simp)⟩
  case round =>
    clear hown2 hb2
    obtain ⟨k, zs, hk, rfl, hownr, hbl, hzs⟩ := hrel
    have hzl : zs.length = n := by have := hownr.1; simpa [strV] using this
    by_cases hkn : k < n
    · have hcell : wr.cell? ⟨g, k, none⟩ = some (.string (str zs[k])) := by
        rw [hownr.cellAt k (by omega)]; simp [strV, hzl, hkn]
      have hfz := hownr.frozenAt k
      obtain ⟨EEX, b1, b2, b3⟩ := cut_facts (padL data size) n k size hkn (by omega) (pad_len data size n h0 HN.out)
      have HSET := hid_of (cut_set data size n k zs HN.out hzl hkn hzs.out)
      have hst := (hownr.stored k (.string (str (pieceL (padL data size) size k)))).1
      have hown' : (wr.setCell ⟨g, k, none⟩ (.string (str (pieceL (padL data size) size k)))).ownsRow w'.heap.size 9 1 (.slice (some ⟨g, 0, none⟩) n n) n (strV (zs.set k (pieceL (padL data size) size k))) := by
        have e : strV (zs.set k (pieceL (padL data size) size k)) = (strV zs).set k (.string (str (pieceL (padL data size) size k))) := by simp [strV, List.map_set]
        rw [e]; exact hst
      have hB := hbl.setCell (p := ⟨g, k, none⟩) hgw (.string (str (pieceL (padL data size) size k)))
      have HO := hid_of hown'
      have HB := hid_of hB
      clear hown' hB hst hownr hzs
      go_wp2_with fail
      rw [EEX.out]
      go_roundw
      case rel => exact ⟨k + 1, zs.set k (pieceL (padL data size) size k), by omega, by go_num, HO.out, HB.out, HSET⟩
      case measure => simp [intOf]; omega
    · obtain rfl : k = n := by omega
      have := hzs.out
      rw [← hzl, List.take_length, hzl, List.take_of_length_le (by unfold cutL; rw [List.length_map, List.length_range, ← HN.out]; exact Nat.le_refl _)] at this
      subst this
      go_wp2_with fail
      go_ret
      exact ⟨_, rfl, by rw [← HN.out]; exact hownr, hbl⟩

theorem repeat_zero (c : Nat) : Lib.repeatL [0] c = List.replicate c 0 := by
  induction c with
  | zero => rfl
  | succ c ih => simp only [Lib.repeatL, ih, List.replicate_succ]; rfl

theorem repeat_does : RepeatDoes := by
  intro c w hc
  have h := Try.strings_Repeat ⟨#[0]⟩ c w (by omega) (by
    have : (ByteArray.mk #[0]).size = 1 := rfl
    rw [this]; omega)
  have e : (ByteArray.mk #[0]).data.toList = [0] := rfl
  rw [e, repeat_zero] at h
  exact h

theorem Cut_l (data : List UInt8) (size : Nat) (h0 : 0 < size) (h1 : size ≤ 32) (hd : data.length ≤ 400) (w : World) :
    Calls Try.prog 57 #[.string (str data), .int .i64 (size : Int)] w fun e w' => ∃ v', e = .returned v' ∧ w'.ownsRow w.heap.size 9 1 v' (slicesOfN data.length size) (strV (cutL data size)) ∧ Below w.heap.size w w' :=
  Cut_walk repeat_does data size h0 h1 hd w
end Go.Proofs.Ytonjphollmdicaa
