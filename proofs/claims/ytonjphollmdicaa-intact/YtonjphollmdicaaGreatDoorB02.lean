import Derived.Test.YtonjphollmdicaaGreatDoorB01
import Derived.Deep.RegionWith
import Derived.BigRegion
namespace Go.Proofs.YtonjphollmdicaaGreatDoor
open Go.ChangeShapes Go.WideShapes Go.ChangeAt Go.RowKit

def u64V (l : List Nat) : List Value := l.map fun (n : Nat) => Value.int .u64 (n : Int)
def strV (l : List (List UInt8)) : List Value := l.map fun x => Value.string (str x)

def hashesL (hs : List Nat) : List UInt8 := hs.flatMap fun h => numBytes h 8
def mainBodyL (size : Nat) (hs : List Nat) : List UInt8 := numBytes size 2 ++ numBytes hs.length 1 ++ hashesL hs

theorem hashesL_snoc (l : List Nat) (h : Nat) : hashesL (l ++ [h]) = hashesL l ++ numBytes h 8 := by simp [hashesL]
theorem take_snoc {α : Type} (l : List α) (k : Nat) (h : k < l.length) : l.take (k + 1) = l.take k ++ [l[k]] := by
  rw [List.take_add_one, List.getElem?_eq_getElem h]; rfl

set_option maxRecDepth 100000 in
theorem MainBody_walk (size : Nat) (hs : List Nat) (a : Option Addr) (cap : Nat) (hsize : size ≤ 100) (hn : hs.length ≤ 100) (w : World) (hrd : Rd w a (u64V hs)) :
    Calls Tryz.prog 98 #[.int .i64 (size : Int), .slice a hs.length cap] w fun e w' => e = .returned (.string (str (mainBodyL size hs))) ∧ Below w.heap.size w w' := by
  go_enter Tryz.func98, Tryz.ntmps98
  go_wp2_with fail
  refine (appendNumber_walk _ 0 [] size 2 w.heap.size w (by omega) (by omega) (Nat.le_refl _) (World.ownsRow_nil _ _ _ _)).mono ?_
  rintro e w1 ⟨v1, rfl, hown1, hb1⟩
  have hsz1 := hb1.size
  go_wp2_with fail
  refine (appendNumber_walk v1 2 _ hs.length 1 w.heap.size w1 (by omega) (by omega) (by omega) hown1).mono ?_
  rintro e w2 ⟨v2, rfl, hown2, hb2'⟩
  have hb2 := hb1.trans hb2'
  clear hown1 hb1 hb2' hsz1
  go_wp2_with fail
  go_loopw [5, 7, 18] (fun t x i wr => ∃ k : Nat, k ≤ hs.length ∧ i = .int .i64 (k : Int) ∧ wr.ownsRow w.heap.size 5 1 t (3 + 8 * k) (bytesV (numBytes size 2 ++ numBytes hs.length 1 ++ hashesL (hs.take k))) ∧ Below w.heap.size w wr)
    (fun _ _ i _ => hs.length - (intOf i).toNat)
  case atStart => exact ⟨0, by omega, rfl, by simpa [hashesL] using hown2, hb2⟩
  case round =>
    obtain ⟨k, hk, rfl, hownr, hbl⟩ := hrel
    have hsz := hbl.size
    by_cases hlt : k < hs.length
    · obtain ⟨b, off, rfl, hc0⟩ := hrd k (.int .u64 (hs[k] : Int)) (by simp [u64V, hlt])
      have hc : wr.cell? ⟨b, off + k, none⟩ = some (.int .u64 (hs[k] : Int)) := by
        rw [hbl.cell (World.block_lt_of_cell? w _ hc0)]; exact hc0
      clear hc0 hown2
      go_wp2_with fail
      refine (appendNumber_walk u5 (3 + 8 * k) _ hs[k] 8 w.heap.size wr (by omega) (by omega) (by omega) hownr).mono ?_
      rintro e w3 ⟨v3, rfl, hown3, hb3'⟩
      have hb3 := hbl.trans hb3'
      have hown3' : w3.ownsRow w.heap.size 5 1 v3 (3 + 8 * (k + 1)) (bytesV (numBytes size 2 ++ numBytes hs.length 1 ++ hashesL (hs.take (k + 1)))) := by
        rw [take_snoc hs k hlt, hashesL_snoc, ← List.append_assoc]
        exact hown3
      clear hown3 hb3' hc hownr hb2
      go_wp2_with fail
      go_roundw
      case rel => exact ⟨k + 1, by omega, by go_num, hown3', hb3⟩
      case measure => simp [intOf]; omega
    · obtain rfl : k = hs.length := by omega
      have hc := owned_string hownr
      rw [List.take_length] at hc
      clear hownr
      go_wp2_with fail
      go_ret
      exact ⟨rfl, hbl⟩

theorem Tryz.info64 : (Tryz.prog.info? 63).map (fun i => (i.zero, i.size, i.bytes)) = some (some (.int .u64 0), 1, 8) := by kernel_rfl

set_option maxRecDepth 100000 in
theorem hashAll_walk (ts : List (List UInt8)) (a : Option Addr) (cap : Nat) (hn : ts.length ≤ 100) (hts : ∀ t ∈ ts, t.length ≤ 100000) (w : World) (hrd : Rd w a (strV ts)) :
    Calls Tryz.prog 99 #[.slice a ts.length cap] w fun e w' => ∃ v', e = .returned v' ∧ w'.ownsRow w.heap.size 63 1 v' ts.length (u64V (ts.map hashL)) ∧ Below w.heap.size w w' := by
  obtain ⟨i0, hi, hz0, hz1, hz2⟩ := info_parts Tryz.info64
  go_enter Tryz.func99, Tryz.ntmps99
  go_wp2_with (at_make; refine wpList_make_full _ rfl _ _ 99 rfl w.heap.size 63 i0 (.int .u64 0) 1 Tryz.underlying99 hi hz0 hz1 .i64 .i64 _ _ ts.length rfl rfl rfl rfl ?c1 ?c2 (Nat.le_refl _) ?_)
  case c1 => rw [hz2]; omega
  case c2 => unfold maxLen; omega
  intro w1 hown1 hg1
  have hb1 : Below w.heap.size w w1 := (Below.refl _ w).grown hg1 (Nat.le_refl _) (by simp)
  clear hg1
  go_wp2_with fail
  go_loopw [4, 5, 11] (fun _ _ i wr => ∃ (k : Nat) (zs : List Nat), k ≤ ts.length ∧ i = .int .i64 (k : Int) ∧ wr.ownsRow w.heap.size 63 1 (.slice (some ⟨w.heap.size, 0, none⟩) ts.length ts.length) ts.length (u64V zs) ∧ Below w.heap.size w wr ∧ Hid (zs.take k = (ts.map hashL).take k))
    (fun _ _ i _ => ts.length - (intOf i).toNat)
  case atStart => exact ⟨0, List.replicate ts.length 0, by omega, rfl, by simpa [u64V, toList_madeCells_one] using hown1, hb1, hid_of (by simp)⟩
  case round =>
    obtain ⟨k, zs, hk, rfl, hownr, hbl, hzs⟩ := hrel
    have hsz := hbl.size
    have hzl : zs.length = ts.length := by have := hownr.1; simpa [u64V] using this
    by_cases hlt : k < ts.length
    · obtain ⟨b, off, rfl, hc0⟩ := hrd k (.string (str ts[k])) (by simp [strV, hlt])
      have hc : wr.cell? ⟨b, off + k, none⟩ = some (.string (str ts[k])) := by
        rw [hbl.cell (World.block_lt_of_cell? w _ hc0)]; exact hc0
      have hcell : wr.cell? ⟨w.heap.size, k, none⟩ = some (.int .u64 (zs[k] : Int)) := by
        rw [hownr.cellAt k (by omega)]; simp [u64V, hzl, hlt]
      have hfz := hownr.frozenAt k
      have hst := hownr.stored k (.int .u64 ((hashL ts[k] : Nat) : Int))
      have hown' : (wr.setCell ⟨w.heap.size, k, none⟩ (.int .u64 ((hashL ts[k] : Nat) : Int))).ownsRow w.heap.size 63 1 (.slice (some ⟨w.heap.size, 0, none⟩) ts.length ts.length) ts.length (u64V (zs.set k (hashL ts[k]))) := by
        have e : u64V (zs.set k (hashL ts[k])) = (u64V zs).set k (.int .u64 ((hashL ts[k] : Nat) : Int)) := by simp [u64V, List.map_set]
        rw [e]; exact hst.1
      have hB := hbl.setCell (p := ⟨w.heap.size, k, none⟩) (Nat.le_refl _) (.int .u64 ((hashL ts[k] : Nat) : Int))
      have hkl : k < zs.length := by omega
      have hset : (zs.set k (hashL ts[k])).take (k + 1) = (ts.map hashL).take (k + 1) := by
        rw [take_snoc _ k (by simpa using hkl), take_snoc _ k (by simpa using hlt)]
        simp only [List.getElem_set_self, List.getElem_map]
        rw [List.take_set_of_le (Nat.le_refl _), hzs.out]
      have HS := hid_of hset
      have HO := hid_of hown'
      have HB := hid_of hB
      clear hset hown' hB hst hownr hc0 hzs
      have htl := hts ts[k] (List.getElem_mem hlt)
      go_wp2_with fail
      refine (Hash_l ts[k] (by omega) wr).mono ?_
      rintro e w3 ⟨rfl, rfl⟩
      go_wp2_with fail
      go_roundw
      case rel => exact ⟨k + 1, zs.set k (hashL ts[k]), by omega, by go_num, HO.out, HB.out, HS⟩
      case measure => simp [intOf]; omega
    · obtain rfl : k = ts.length := by omega
      have := hzs.out
      rw [← hzl, List.take_length, hzl, List.take_of_length_le (by simp)] at this
      subst this
      go_wp2_with fail
      go_ret
      exact ⟨_, rfl, hownr, hbl⟩

def fileHeadL (number : Nat) (name data : List UInt8) : List UInt8 := numBytes number 1 ++ numBytes name.length 1 ++ name ++ numBytes data.length 2 ++ numBytes (hashL data) 8
def fileBodyL (number : Nat) (name data : List UInt8) (ss : List (List UInt8)) : List UInt8 := fileHeadL number name data ++ hashesL (ss.map hashL)

set_option maxRecDepth 100000 in
theorem FileBody_walk (number : Nat) (name data : List UInt8) (ss : List (List UInt8)) (a : Option Addr) (cap : Nat) (hnum : number ≤ 100) (hname : name.length ≤ 100) (hdata : data.length ≤ 1000) (hn : ss.length ≤ 1000) (hss : ∀ t ∈ ss, t.length ≤ 1000) (w : World) (hrd : Rd w a (strV ss)) :
    Calls Tryz.prog 123 #[.int .i64 (number : Int), .agg #[.string (str name), .string (str data)], .slice a ss.length cap] w fun e w' => e = .returned (.string (str (fileBodyL number name data ss))) ∧ Below w.heap.size w w' := by
  obtain ⟨i0, hi, hz0, hz1, hz2⟩ := info_parts Tryz.info8
  have hns : (str name).size = name.length := str_size name
  have hds : (str data).size = data.length := str_size data
  obtain ⟨W0, hW0⟩ : ∃ W0, W0 = w.alloc (.cells #[.string (str name), .string (str data)] 62) := ⟨_, rfl⟩
  have hs0 : W0.heap.size = w.heap.size + 1 := by rw [hW0]; simp
  have hcn : ∀ W, Below (w.heap.size + 1) W0 W → W.cell? ⟨w.heap.size, 0, none⟩ = some (.string (str name)) ∧ W.cell? ⟨w.heap.size, 1, none⟩ = some (.string (str data)) := by
    intro W hW
    rw [hW.cell (by simp), hW.cell (by simp), hW0]
    constructor <;> simp
  have hw0 : Below w.heap.size w W0 := by rw [hW0]; exact (Below.refl _ _).alloc (Nat.le_refl _) _
  have hlow : ∀ W, Below (w.heap.size + 1) W0 W → Below w.heap.size w W := fun W h => hw0.trans (h.mono (by omega))
  have HC := hid_of hcn
  have HL := hid_of hlow
  have HW := hid_of hW0
  have HS := hid_of hs0
  clear hcn hlow hs0
  go_enter Tryz.func123, Tryz.ntmps123
  go_wp2_with fail
  rw [← HW.out]
  clear hW0
  refine (appendNumber_walk _ 0 [] number 1 (w.heap.size + 1) W0 (by omega) (by omega) (by rw [HS.out]; omega) (World.ownsRow_nil _ _ _ _)).mono ?_
  rintro e w1 ⟨v1, rfl, hown1, hb1⟩
  have hsz1 := hb1.size
  rw [HS.out] at hsz1
  obtain ⟨hn1, hd1⟩ := HC.out w1 hb1
  go_wp2_with fail
  refine (appendNumber_walk v1 1 _ name.length 1 (w.heap.size + 1) w1 (by omega) (by omega) hsz1 hown1).mono ?_
  rintro e w2 ⟨v2, rfl, hown2, hb2'⟩
  have hb2 := hb1.trans hb2'
  have hsz2 := hb2.size
  rw [HS.out] at hsz2
  clear hown1 hb2' hb1 hsz1 hn1 hd1
  obtain ⟨hn2, hd2⟩ := HC.out w2 hb2
  go_wp2_with (at_builtin; refine Lib.wpList_append_own_string _ rfl (.tmp 19) (.tmp 21) 67 9 rfl (w.heap.size + 1) 5 i0 Tryz.underlying67 Tryz.underlying9 hi hz0 hz1 hz2 v2 2 _ rfl hown2 (str name) rfl ?c5 ?c6 ?c7 ?_)
  case c5 => unfold maxLen; omega
  case c6 => omega
  case c7 => omega
  intro v3 w3 hown3 hg3 _
  have hb3 := below_grown hb2 hsz2 hown2 hg3
  rw [strCells_bytesV, ← bytesV_append, str_data] at hown3
  have hsz3 := hb3.size
  rw [HS.out] at hsz3
  clear hown2 hg3 hb2 hsz2 hn2 hd2
  obtain ⟨hn3, hd3⟩ := HC.out w3 hb3
  go_wp2_with fail
  refine (appendNumber_walk v3 (2 + name.length) _ data.length 2 (w.heap.size + 1) w3 (by omega) (by omega) hsz3 hown3).mono ?_
  rintro e w4 ⟨v4, rfl, hown4, hb4'⟩
  have hb4 := hb3.trans hb4'
  have hsz4 := hb4.size
  rw [HS.out] at hsz4
  clear hown3 hb4' hb3 hsz3 hn3 hd3
  obtain ⟨hn4, hd4⟩ := HC.out w4 hb4
  go_wp2_with fail
  refine (Hash_l data (by omega) w4).mono ?_
  rintro e w5 ⟨rfl, rfl⟩
  go_wp2_with fail
  refine (appendNumber_walk v4 (2 + name.length + 2) _ (hashL data) 8 (w.heap.size + 1) w5 (by omega) (by omega) hsz4 hown4).mono ?_
  rintro e w6 ⟨v6, rfl, hown6, hb6'⟩
  have hb6 := hb4.trans hb6'
  have hsz6 := hb6.size
  rw [HS.out] at hsz6
  have hown6' : w6.ownsRow (w.heap.size + 1) 5 1 v6 (name.length + 12) (bytesV (fileHeadL number name data)) := by
    have e : 2 + name.length + 2 + 8 = name.length + 12 := by omega
    rw [e] at hown6
    exact hown6
  clear hown4 hb6' hb4 hsz4 hn4 hd4 hown6
  go_wp2_with fail
  go_loopw [7, 9, 36] (fun t x i wr => ∃ k : Nat, k ≤ ss.length ∧ i = .int .i64 (k : Int) ∧ wr.ownsRow (w.heap.size + 1) 5 1 t (name.length + 12 + 8 * k) (bytesV (fileHeadL number name data ++ hashesL ((ss.map hashL).take k))) ∧ Below (w.heap.size + 1) W0 wr)
    (fun _ _ i _ => ss.length - (intOf i).toNat)
  case atStart => exact ⟨0, by omega, rfl, by simpa [hashesL] using hown6', hb6⟩
  case round =>
    clear hown6' hb6 hsz6
    obtain ⟨k, hk, rfl, hownr, hbl⟩ := hrel
    have hsz := hbl.size
    rw [HS.out] at hsz
    by_cases hlt : k < ss.length
    · obtain ⟨b, off, rfl, hc0⟩ := hrd k (.string (str ss[k])) (by simp [strV, hlt])
      have hc : wr.cell? ⟨b, off + k, none⟩ = some (.string (str ss[k])) := by
        rw [(HL.out wr hbl).cell (World.block_lt_of_cell? w _ hc0)]; exact hc0
      clear hc0
      have htl := hss ss[k] (List.getElem_mem hlt)
      go_wp2_with fail
      refine (Hash_l ss[k] (by omega) wr).mono ?_
      rintro e w7 ⟨rfl, rfl⟩
      go_wp2_with fail
      refine (appendNumber_walk u7 (name.length + 12 + 8 * k) _ (hashL ss[k]) 8 (w.heap.size + 1) w7 (by omega) (by omega) hsz hownr).mono ?_
      rintro e w8 ⟨v8, rfl, hown8, hb8'⟩
      have hb8 := hbl.trans hb8'
      have hown8' : w8.ownsRow (w.heap.size + 1) 5 1 v8 (name.length + 12 + 8 * (k + 1)) (bytesV (fileHeadL number name data ++ hashesL ((ss.map hashL).take (k + 1)))) := by
        rw [take_snoc _ k (by simpa using hlt), hashesL_snoc, ← List.append_assoc, List.getElem_map]
        exact hown8
      clear hown8 hb8' hc hownr
      go_wp2_with fail
      go_roundw
      case rel => exact ⟨k + 1, by omega, by go_num, hown8', hb8⟩
      case measure => simp [intOf]; omega
    · obtain rfl : k = ss.length := by omega
      have hc := owned_string hownr
      rw [List.take_of_length_le (by simp)] at hc
      have hB := HL.out _ hbl
      clear hownr
      go_wp2_with fail
      go_ret
      exact ⟨rfl, hB⟩
end Go.Proofs.YtonjphollmdicaaGreatDoor
namespace Go.Proofs.YtonjphollmdicaaGreatDoor
open Go.ChangeShapes Go.WideShapes Go.ChangeAt Go.RowKit

def sliceSize (n : Int) : Bool := decide (2 ≤ n ∧ n ≤ 32 ∧ n % 2 = 0)

theorem IsSliceSize_walk (n : Int) (w : World) :
    Calls Tryz.prog 61 #[.int .i64 n] w fun e w' => e = .returned (.bool (sliceSize n)) ∧ w' = w := by
  by_cases h1 : 2 ≤ n
  · by_cases h2 : n ≤ 32
    · have e : n.tmod 2 = n % 2 := Int.tmod_eq_emod_of_nonneg (by omega)
      go_enter Tryz.func61, Tryz.ntmps61
      go_wp2
      go_ret
      refine ⟨?_, rfl⟩
      show Ending.returned (.bool (n % 2 == 0)) = _
      have e2 : (n % 2 == 0) = sliceSize n := by
        unfold sliceSize
        by_cases h3 : n % 2 = 0
        · simp [h1, h2, h3]
        · simp [h3]
      rw [e2]
    · go_enter Tryz.func61, Tryz.ntmps61
      go_wp2
      go_ret
      refine ⟨?_, rfl⟩
      have e2 : sliceSize n = false := by unfold sliceSize; exact decide_eq_false (by omega)
      rw [e2]
      rfl
  · go_enter Tryz.func61, Tryz.ntmps61
    go_wp2
    go_ret
    refine ⟨?_, rfl⟩
    have e2 : sliceSize n = false := by unfold sliceSize; exact decide_eq_false (by omega)
    rw [e2]
    rfl

def slicesOfN (len size : Nat) : Nat := (len + size - 1) / size

theorem slicesOf_walk (len size : Nat) (h1 : len ≤ 1000000) (h2 : 0 < size) (h3 : size ≤ 1000) (w : World) :
    Calls Tryz.prog 96 #[.int .i64 (len : Int), .int .i64 (size : Int)] w fun e w' => e = .returned (.int .i64 ((slicesOfN len size : Nat) : Int)) ∧ w' = w := by
  go_enter Tryz.func96, Tryz.ntmps96
  go_wp2
  go_ret
  refine ⟨?_, rfl⟩
  have e : ((len : Int) + (size : Int) - 1) / (size : Int) = ((slicesOfN len size : Nat) : Int) := by
    unfold slicesOfN
    rw [Int.natCast_ediv]
    congr 1
    omega
  show Ending.returned (.int .i64 (((len : Int) + (size : Int) - 1) / (size : Int))) = _
  rw [e]

abbrev FileL := List UInt8 × List UInt8
def filesV (fs : List FileL) : List Value := fs.flatMap fun f => [Value.string (str f.1), Value.string (str f.2)]
def fitsL (f : FileL) : Bool := decide (1 ≤ f.1.length ∧ f.1.length ≤ 20 ∧ f.2.length ≤ 400)

theorem filesV_length (fs : List FileL) : (filesV fs).length = 2 * fs.length := by
  induction fs with
  | nil => rfl
  | cons f fs ih => simp [filesV] at ih ⊢; omega
theorem filesV_get (fs : List FileL) (k : Nat) (h : k < fs.length) : (filesV fs)[2 * k]? = some (.string (str fs[k].1)) ∧ (filesV fs)[2 * k + 1]? = some (.string (str fs[k].2)) := by
  induction fs generalizing k with
  | nil => simp at h
  | cons f fs ih =>
    cases k with
    | zero => simp [filesV]
    | succ k =>
      have := ih k (by simpa using h)
      have e : 2 * (k + 1) = 2 * k + 1 + 1 := by omega
      simp only [filesV, List.flatMap_cons, List.cons_append, List.nil_append, e, List.getElem?_cons_succ, List.getElem_cons_succ] at this ⊢
      exact this

set_option maxRecDepth 100000 in
theorem fits_walk (f : FileL) (h1 : f.1.length < 140737488355328) (h2 : f.2.length < 140737488355328) (w : World) :
    Calls Tryz.prog 94 #[.agg #[.string (str f.1), .string (str f.2)]] w fun e w' => e = .returned (.bool (fitsL f)) ∧ Below w.heap.size w w' := by
  have s1 := str_size f.1
  have s2 := str_size f.2
  go_enter Tryz.func94, Tryz.ntmps94
  go_wp2
  · go_ret
    refine ⟨?_, (Below.refl _ _).alloc (Nat.le_refl _) _⟩
    have e : fitsL f = decide ((f.2.length : Int) ≤ 400) := by
      unfold fitsL
      apply decide_eq_decide.2
      omega
    rw [e]
    rfl
  · go_ret
    refine ⟨?_, (Below.refl _ _).alloc (Nat.le_refl _) _⟩
    have e : fitsL f = false := by unfold fitsL; exact decide_eq_false (by omega)
    rw [e]
    rfl
  · go_ret
    refine ⟨?_, (Below.refl _ _).alloc (Nat.le_refl _) _⟩
    have e : fitsL f = false := by unfold fitsL; exact decide_eq_false (by omega)
    rw [e]
    rfl

theorem str_toList (l : List UInt8) : (str l).toList = l := by rw [ByteArray.toList_eq, str_data]

def hasNameL (fs : List FileL) (name : List UInt8) : Bool := fs.any fun f => f.1 == name

theorem fileCells {w wr : World} {a : Option Addr} {fs : List FileL} (h : Rd w a (filesV fs)) {B : Nat} (hB : w.heap.size ≤ B) (hb : Below B w wr) (k : Nat) (hk : k < fs.length) :
    ∃ b off, a = some ⟨b, off, none⟩ ∧ wr.cell? ⟨b, off + k * 2, none⟩ = some (.string (str fs[k].1)) ∧ wr.cell? ⟨b, off + k * 2 + 1, none⟩ = some (.string (str fs[k].2)) := by
  have h' := h.later hB hb
  obtain ⟨g1, g2⟩ := filesV_get fs k hk
  obtain ⟨b, off, rfl, hc⟩ := h' _ _ g1
  obtain ⟨b', off', e, hc'⟩ := h' _ _ g2
  cases e
  refine ⟨b, off, rfl, ?_, ?_⟩
  · rw [Nat.mul_comm k 2]; exact hc
  · rw [Nat.mul_comm k 2]; exact hc'

set_option maxRecDepth 100000 in
theorem hasName_walk (fs : List FileL) (name : List UInt8) (a : Option Addr) (cap : Nat) (hn : fs.length ≤ 1000) (w : World) (hrd : Rd w a (filesV fs)) :
    Calls Tryz.prog 95 #[.slice a fs.length cap, .string (str name)] w fun e w' => e = .returned (.bool (hasNameL fs name)) ∧ Below w.heap.size w w' := by
  go_enter Tryz.func95, Tryz.ntmps95
  go_wp2
  go_loopw [6, 9] (fun _ i wr => ∃ k : Nat, k ≤ fs.length ∧ i = .int .i64 (k : Int) ∧ Below w.heap.size w wr ∧ Hid (hasNameL (fs.drop k) name = hasNameL fs name))
    (fun _ i _ => fs.length - (intOf i).toNat)
  case atStart => exact ⟨0, by omega, rfl, Below.refl _ _, hid_of rfl⟩
  case round =>
    obtain ⟨k, hk, rfl, hbl, hd⟩ := hrel
    have hsz := hbl.size
    by_cases hlt : k < fs.length
    · obtain ⟨b, off, rfl, hc1, hc2⟩ := fileCells hrd (Nat.le_refl _) hbl k hlt
      have hdk : hasNameL (fs.drop k) name = (fs[k].1 == name || hasNameL (fs.drop (k + 1)) name) := by
        rw [List.drop_eq_getElem_cons hlt]; rfl
      have HD := hid_of hdk
      clear hdk
      go_wp2
      · go_ret
        have he : ((str fs[k].1).toList == (str name).toList) = true := by assumption
        rw [str_toList, str_toList] at he
        have := hd.out
        rw [HD.out, he] at this
        refine ⟨?_, hbl.alloc hsz _⟩
        rw [← this]
        rfl
      · have he : ((str fs[k].1).toList == (str name).toList) = false := by assumption
        rw [str_toList, str_toList] at he
        have := hd.out
        rw [HD.out, he] at this
        exact ⟨⟨k + 1, by omega, by go_num, hbl.alloc hsz _, hid_of (by simpa using this)⟩, by simp [intOf]; omega⟩
    · obtain rfl : k = fs.length := by omega
      go_wp2
      go_ret
      have := hd.out
      rw [List.drop_length] at this
      exact ⟨by rw [← this]; rfl, hbl⟩

def countL (fs : List FileL) (size : Nat) : Nat := (fs.map fun f => slicesOfN f.2.length size).sum

theorem slicesOfN_le (len size : Nat) (h : 0 < size) : slicesOfN len size ≤ len := by
  unfold slicesOfN
  rcases Nat.eq_zero_or_pos len with h0 | h0
  · subst h0
    rw [Nat.div_eq_of_lt (by omega)]
    exact Nat.le_refl _
  · calc (len + size - 1) / size ≤ (len * size) / size := Nat.div_le_div_right (by
          have h1 : len * size = (len - 1) * size + size := by rw [← Nat.succ_mul]; congr 1; omega
          have h2 : (len - 1) * 1 ≤ (len - 1) * size := Nat.mul_le_mul_left _ h
          omega)
      _ = len := Nat.mul_div_cancel _ h

set_option maxRecDepth 100000 in
theorem CountSlices_walk (fs : List FileL) (size : Nat) (a : Option Addr) (cap : Nat) (hs : 0 < size) (hs2 : size ≤ 32) (hn : fs.length ≤ 6) (hl : ∀ f ∈ fs, f.2.length ≤ 400) (w : World) (hrd : Rd w a (filesV fs)) :
    Calls Tryz.prog 63 #[.slice a fs.length cap, .int .i64 (size : Int)] w fun e w' => e = .returned (.int .i64 ((countL fs size : Nat) : Int)) ∧ Below w.heap.size w w' := by
  go_enter Tryz.func63, Tryz.ntmps63
  go_wp2
  go_loopw [5, 7, 10] (fun c _ i wr => ∃ k c' : Nat, k ≤ fs.length ∧ c' ≤ 400 * k ∧ c = .int .i64 (c' : Int) ∧ i = .int .i64 (k : Int) ∧ Below w.heap.size w wr ∧ Hid (c' + countL (fs.drop k) size = countL fs size))
    (fun _ _ i _ => fs.length - (intOf i).toNat)
  case atStart => exact ⟨0, 0, by omega, by omega, rfl, rfl, Below.refl _ _, hid_of (by simp)⟩
  case round =>
    obtain ⟨k, c', hk, hc', rfl, rfl, hbl, hd⟩ := hrel
    have hsz := hbl.size
    by_cases hlt : k < fs.length
    · obtain ⟨b, off, rfl, hc1, hc2⟩ := fileCells hrd (Nat.le_refl _) hbl k hlt
      have hdk : countL (fs.drop k) size = slicesOfN fs[k].2.length size + countL (fs.drop (k + 1)) size := by
        rw [List.drop_eq_getElem_cons hlt]; unfold countL; rw [List.map_cons, List.sum_cons]
      have hlk := hl fs[k] (List.getElem_mem hlt)
      have hle := slicesOfN_le fs[k].2.length size hs
      have hsz2 : (str fs[k].2).size = fs[k].2.length := str_size _
      have HD := hid_of hdk
      clear hdk
      go_wp2_with fail
      refine (slicesOf_walk fs[k].2.length size (by omega) hs (by omega) _).mono ?_
      rintro e w1 ⟨rfl, rfl⟩
      go_wp2_with fail
      have := hd.out
      rw [HD.out] at this
      exact ⟨⟨k + 1, c' + slicesOfN fs[k].2.length size, by omega, by omega, by go_num, by go_num, hbl.alloc hsz _, hid_of (by omega)⟩, by simp [intOf]; omega⟩
    · obtain rfl : k = fs.length := by omega
      go_wp2
      go_ret
      have := hd.out
      rw [List.drop_length] at this
      simp only [countL, List.map_nil, List.sum_nil, Nat.add_zero] at this
      exact ⟨by rw [this]; rfl, hbl⟩

def okAt (fs : List FileL) (i : Nat) : Bool := match fs[i]? with
  | some f => fitsL f && !hasNameL (fs.take i) f.1
  | none => true
def isSetL (fs : List FileL) : Bool := decide (1 ≤ fs.length ∧ fs.length ≤ 6) && (List.range fs.length).all (okAt fs)

theorem filesV_take (fs : List FileL) (k : Nat) : filesV (fs.take k) = (filesV fs).take (2 * k) := by
  induction fs generalizing k with
  | nil => simp [filesV]
  | cons f fs ih =>
    cases k with
    | zero => simp [filesV]
    | succ k =>
      have := ih k
      have e : 2 * (k + 1) = 2 * k + 1 + 1 := by omega
      simp only [filesV, List.take_succ_cons, List.flatMap_cons, List.cons_append, List.nil_append, e] at this ⊢
      rw [this]

theorem Rd.take {w : World} {a : Option Addr} {xs : List Value} (h : Rd w a xs) (k : Nat) : Rd w a (xs.take k) := by
  intro j u hj
  apply h j u
  rw [List.getElem?_take] at hj
  split at hj
  · exact hj
  · cases hj

set_option maxRecDepth 100000 in
set_option maxHeartbeats 4000000 in
theorem IsSet_walk (fs : List FileL) (a : Option Addr) (cap : Nat) (hcap : fs.length ≤ cap) (hl : ∀ f ∈ fs, f.1.length < 140737488355328 ∧ f.2.length < 140737488355328) (w : World) (hrd : Rd w a (filesV fs)) :
    Calls Tryz.prog 62 #[.slice a fs.length cap] w fun e w' => e = .returned (.bool (isSetL fs)) ∧ Below w.heap.size w w' := by
  by_cases h1 : fs.length < 1
  · have e : isSetL fs = false := by unfold isSetL; rw [decide_eq_false (by omega)]; rfl
    go_enter Tryz.func62, Tryz.ntmps62
    go_wp2
    go_ret
    exact ⟨by first | rfl | (rw [e]; rfl), Below.refl _ _⟩
  · by_cases h2 : 6 < fs.length
    · have e : isSetL fs = false := by unfold isSetL; rw [decide_eq_false (by omega)]; rfl
      go_enter Tryz.func62, Tryz.ntmps62
      go_wp2
      go_ret
      exact ⟨by first | rfl | (rw [e]; rfl), Below.refl _ _⟩
    · go_enter Tryz.func62, Tryz.ntmps62
      go_wp2
      go_loopw [3, 4, 15] (fun _ _ i wr => ∃ k : Nat, k ≤ fs.length ∧ i = .int .i64 (k : Int) ∧ Below w.heap.size w wr ∧ Hid (∀ j, j < k → okAt fs j = true))
        (fun _ _ i _ => fs.length - (intOf i).toNat)
      case atStart => exact ⟨0, by omega, rfl, Below.refl _ _, hid_of (by intro j hj; omega)⟩
      case round =>
        obtain ⟨k, hk, rfl, hbl, hd⟩ := hrel
        have hsz := hbl.size
        by_cases hlt : k < fs.length
        · obtain ⟨b, off, rfl, hc1, hc2⟩ := fileCells hrd (Nat.le_refl _) hbl k hlt
          have hf := hl fs[k] (List.getElem_mem hlt)
          have hok : okAt fs k = (fitsL fs[k] && !hasNameL (fs.take k) fs[k].1) := by unfold okAt; rw [List.getElem?_eq_getElem hlt]
          have HOK := hid_of hok
          clear hok
          have hN : ∀ W, Rd W (some ⟨b, off, none⟩) (filesV (fs.take k)) → Calls Tryz.prog 95 #[.slice (some ⟨b, off, none⟩) k cap, .string (str fs[k].1)] W fun e w' => e = .returned (.bool (hasNameL (fs.take k) fs[k].1)) ∧ Below W.heap.size W w' := by
            intro W hW
            have := hasName_walk (fs.take k) fs[k].1 (some ⟨b, off, none⟩) cap (by rw [List.length_take]; omega) W hW
            rw [List.length_take, Nat.min_eq_left (by omega)] at this
            exact this
          have HN := hid_of hN
          have hR : ∀ W, Below w.heap.size w W → Rd W (some ⟨b, off, none⟩) (filesV (fs.take k)) := by
            intro W hW
            rw [filesV_take]
            exact (hrd.later (Nat.le_refl _) hW).take _
          have HR := hid_of hR
          have HRD := hid_of hrd
          have HOKB := hid_of hd
          clear hN hR hrd
          have hbad : okAt fs k = false → isSetL fs = false := by
            intro h
            unfold isSetL
            rw [Bool.and_eq_false_iff]
            right
            rw [List.all_eq_false]
            exact ⟨k, by simpa using hlt, by simp [h]⟩
          have HBAD := hid_of hbad
          have hnext : okAt fs k = true → ∀ j, j < k + 1 → okAt fs j = true := by
            intro h j hj
            rcases Nat.lt_or_ge j k with h' | h'
            · exact hd.out j h'
            · have : j = k := by omega
              subst this
              exact h
          have HNEXT := hid_of hnext
          clear hbad hnext
          by_cases hfit : fitsL fs[k] = true
          · by_cases hh : hasNameL (fs.take k) fs[k].1 = true
            · go_wp2_with fail
              go_region_with (first
                | (go_at_call 94; refine (fits_walk fs[k] hf.1 hf.2 _).mono ?_; rintro e w1 ⟨rfl, hb1⟩; have hc3 : w1.cell? ⟨wr.heap.size, 0, none⟩ = some (.string (str fs[k].1)) := by (rw [hb1.cell (by simp)]; simp))
                | (go_at_call 95; refine (HN.out _ ?_).mono ?_; exact HR.out _ (Below.next (hbl.alloc hsz _).drew hb1); rintro e w2 ⟨rfl, hb2⟩))
              all_goals
                go_wp2_with fail
                go_ret
                refine ⟨?_, Below.next (Below.next (hbl.alloc hsz _).drew hb1) hb2⟩
                have e1 := HBAD.out (by rw [HOK.out, hfit, hh]; rfl)
                rw [e1]
                rfl
            · have hh' : hasNameL (fs.take k) fs[k].1 = false := by simpa using hh
              clear hh
              go_wp2_with fail
              go_region_with (first
                | (go_at_call 94; refine (fits_walk fs[k] hf.1 hf.2 _).mono ?_; rintro e w1 ⟨rfl, hb1⟩; have hc3 : w1.cell? ⟨wr.heap.size, 0, none⟩ = some (.string (str fs[k].1)) := by (rw [hb1.cell (by simp)]; simp))
                | (go_at_call 95; refine (HN.out _ ?_).mono ?_; exact HR.out _ (Below.next (hbl.alloc hsz _).drew hb1); rintro e w2 ⟨rfl, hb2⟩))
              all_goals
                go_wp2_with fail
                go_roundw
                case rel => exact ⟨k + 1, by omega, by go_num, Below.next (Below.next (hbl.alloc hsz _).drew hb1) hb2, hid_of (HNEXT.out (by rw [HOK.out, hfit, hh']; rfl))⟩
                case measure => simp [intOf]; omega
          · have hfit' : fitsL fs[k] = false := by simpa using hfit
            clear hfit
            go_wp2_with fail
            first
              | (go_region_with (go_at_call 94; refine (fits_walk fs[k] hf.1 hf.2 _).mono ?_; rintro e w1 ⟨rfl, hb1⟩))
              | fail
            all_goals
              go_wp2_with fail
              go_ret
              refine ⟨?_, Below.next (hbl.alloc hsz _).drew hb1⟩
              have e1 := HBAD.out (by rw [HOK.out, hfit']; rfl)
              rw [e1]
              rfl
        · obtain rfl : k = fs.length := by omega
          have e : isSetL fs = true := by
            unfold isSetL
            rw [decide_eq_true (by omega), Bool.true_and, List.all_eq_true]
            intro j hj
            exact hd.out j (by simpa using hj)
          go_wp2
          go_ret
          exact ⟨by rw [e]; rfl, hbl⟩
end Go.Proofs.YtonjphollmdicaaGreatDoor
