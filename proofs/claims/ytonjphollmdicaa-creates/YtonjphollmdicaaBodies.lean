import Derived.Test.YtonjphollmdicaaBytes

namespace Go.Proofs.Ytonjphollmdicaa
open Go.ChangeShapes Go.WideShapes Go.ChangeAt Go.RowKit

def u64V (l : List Nat) : List Value := l.map fun (n : Nat) => Value.int .u64 (n : Int)
def strV (l : List (List UInt8)) : List Value := l.map fun x => Value.string (str x)

def hashesL (hs : List Nat) : List UInt8 := hs.flatMap fun h => numBytes h 8
def mainBodyL (size : Nat) (hs : List Nat) : List UInt8 := numBytes size 2 ++ numBytes hs.length 1 ++ hashesL hs

theorem hashesL_snoc (l : List Nat) (h : Nat) : hashesL (l ++ [h]) = hashesL l ++ numBytes h 8 := by simp [hashesL]
theorem take_snoc {α : Type} (l : List α) (k : Nat) (h : k < l.length) : l.take (k + 1) = l.take k ++ [l[k]] := by
  rw [List.take_add_one, List.getElem?_eq_getElem h]; rfl

set_option maxRecDepth 100000 in
theorem MainBody_walk (size : Nat) (hs : List Nat) (a : Option Addr) (cap : Nat) (hsize : size ≤ 100) (hn : hs.length ≤ 100) (w : World) (hrd : Rd w a (u64V hs)) :
    Calls Try.prog 45 #[.int .i64 (size : Int), .slice a hs.length cap] w fun e w' => e = .returned (.string (str (mainBodyL size hs))) ∧ Below w.heap.size w w' := by
  go_enter Try.func45, Try.ntmps45
  go_wp2_with fail
  refine (appendNumber_walk _ 0 [] size 2 w.heap.size w (by omega) (by omega) (Nat.le_refl _) (World.ownsRow_nil _ _ _ _)).mono ?_
  rintro e w1 ⟨v1, rfl, hown1, hb1⟩
  have hsz1 := hb1.size
  go_wp2_with fail
  refine (appendNumber_walk v1 2 _ hs.length 1 w.heap.size w1 (by omega) (by omega) (by omega) hown1).mono ?_
  rintro e w2 ⟨v2, rfl, hown2, hb2'⟩
  have hb2 := hb1.trans hb2'
  clear hown1 hb1 hb2' hsz1
  go_wp2_with fail
  go_loopw [5, 7, 18] (fun t x i wr => ∃ k : Nat, k ≤ hs.length ∧ i = .int .i64 (k : Int) ∧ wr.ownsRow w.heap.size 5 1 t (3 + 8 * k) (bytesV (numBytes size 2 ++ numBytes hs.length 1 ++ hashesL (hs.take k))) ∧ Below w.heap.size w wr)
    (fun _ _ i _ => hs.length - (intOf i).toNat)
  case atStart => exact ⟨0, by omega, rfl, by simpa [hashesL] using hown2, hb2⟩
  case round =>
    obtain ⟨k, hk, rfl, hownr, hbl⟩ := hrel
    have hsz := hbl.size
    by_cases hlt : k < hs.length
    · obtain ⟨b, off, rfl, hc0⟩ := hrd k (.int .u64 (hs[k] : Int)) (by simp [u64V, hlt])
      have hc : wr.cell? ⟨b, off + k, none⟩ = some (.int .u64 (hs[k] : Int)) := by
        rw [hbl.cell (World.block_lt_of_cell? w _ hc0)]; exact hc0
      clear hc0 hown2
      go_wp2_with fail
      refine (appendNumber_walk u5 (3 + 8 * k) _ hs[k] 8 w.heap.size wr (by omega) (by omega) (by omega) hownr).mono ?_
      rintro e w3 ⟨v3, rfl, hown3, hb3'⟩
      have hb3 := hbl.trans hb3'
      have hown3' : w3.ownsRow w.heap.size 5 1 v3 (3 + 8 * (k + 1)) (bytesV (numBytes size 2 ++ numBytes hs.length 1 ++ hashesL (hs.take (k + 1)))) := by
        rw [take_snoc hs k hlt, hashesL_snoc, ← List.append_assoc]
        exact hown3
      clear hown3 hb3' hc hownr hb2
      go_wp2_with fail
      go_roundw
      case rel => exact ⟨k + 1, by omega, by go_num, hown3', hb3⟩
      case measure => simp [intOf]; omega
    · obtain rfl : k = hs.length := by omega
      have hc := owned_string hownr
      rw [List.take_length] at hc
      clear hownr
      go_wp2_with fail
      go_ret
      exact ⟨rfl, hbl⟩

theorem Try.info64 : (Try.prog.info? 44).map (fun i => (i.zero, i.size, i.bytes)) = some (some (.int .u64 0), 1, 8) := by kernel_rfl

set_option maxRecDepth 100000 in
theorem hashAll_walk (ts : List (List UInt8)) (a : Option Addr) (cap : Nat) (hn : ts.length ≤ 100) (hts : ∀ t ∈ ts, t.length ≤ 100000) (w : World) (hrd : Rd w a (strV ts)) :
    Calls Try.prog 46 #[.slice a ts.length cap] w fun e w' => ∃ v', e = .returned v' ∧ w'.ownsRow w.heap.size 44 1 v' ts.length (u64V (ts.map hashL)) ∧ Below w.heap.size w w' := by
  obtain ⟨i0, hi, hz0, hz1, hz2⟩ := info_parts Try.info64
  go_enter Try.func46, Try.ntmps46
  go_wp2_with (at_make; refine wpList_make_full _ rfl _ _ 75 rfl w.heap.size 44 i0 (.int .u64 0) 1 Try.underlying75 hi hz0 hz1 .i64 .i64 _ _ ts.length rfl rfl rfl rfl ?c1 ?c2 (Nat.le_refl _) ?_)
  case c1 => rw [hz2]; omega
  case c2 => unfold maxLen; omega
  intro w1 hown1 hg1
  have hb1 : Below w.heap.size w w1 := (Below.refl _ w).grown hg1 (Nat.le_refl _) (by simp)
  clear hg1
  go_wp2_with fail
  go_loopw [4, 5, 11] (fun _ _ i wr => ∃ (k : Nat) (zs : List Nat), k ≤ ts.length ∧ i = .int .i64 (k : Int) ∧ wr.ownsRow w.heap.size 44 1 (.slice (some ⟨w.heap.size, 0, none⟩) ts.length ts.length) ts.length (u64V zs) ∧ Below w.heap.size w wr ∧ Hid (zs.take k = (ts.map hashL).take k))
    (fun _ _ i _ => ts.length - (intOf i).toNat)
  case atStart => exact ⟨0, List.replicate ts.length 0, by omega, rfl, by simpa [u64V, toList_madeCells_one] using hown1, hb1, hid_of (by simp)⟩
  case round =>
    obtain ⟨k, zs, hk, rfl, hownr, hbl, hzs⟩ := hrel
    have hsz := hbl.size
    have hzl : zs.length = ts.length := by have := hownr.1; simpa [u64V] using this
    by_cases hlt : k < ts.length
    · obtain ⟨b, off, rfl, hc0⟩ := hrd k (.string (str ts[k])) (by simp [strV, hlt])
      have hc : wr.cell? ⟨b, off + k, none⟩ = some (.string (str ts[k])) := by
        rw [hbl.cell (World.block_lt_of_cell? w _ hc0)]; exact hc0
      have hcell : wr.cell? ⟨w.heap.size, k, none⟩ = some (.int .u64 (zs[k] : Int)) := by
        rw [hownr.cellAt k (by omega)]; simp [u64V, hzl, hlt]
      have hfz := hownr.frozenAt k
      have hst := hownr.stored k (.int .u64 ((hashL ts[k] : Nat) : Int))
      have hown' : (wr.setCell ⟨w.heap.size, k, none⟩ (.int .u64 ((hashL ts[k] : Nat) : Int))).ownsRow w.heap.size 44 1 (.slice (some ⟨w.heap.size, 0, none⟩) ts.length ts.length) ts.length (u64V (zs.set k (hashL ts[k]))) := by
        have e : u64V (zs.set k (hashL ts[k])) = (u64V zs).set k (.int .u64 ((hashL ts[k] : Nat) : Int)) := by simp [u64V, List.map_set]
        rw [e]; exact hst.1
      have hB := hbl.setCell (p := ⟨w.heap.size, k, none⟩) (Nat.le_refl _) (.int .u64 ((hashL ts[k] : Nat) : Int))
      have hkl : k < zs.length := by omega
      have hset : (zs.set k (hashL ts[k])).take (k + 1) = (ts.map hashL).take (k + 1) := by
        rw [take_snoc _ k (by simpa using hkl), take_snoc _ k (by simpa using hlt)]
        simp only [List.getElem_set_self, List.getElem_map]
        rw [List.take_set_of_le (Nat.le_refl _), hzs.out]
      have HS := hid_of hset
      have HO := hid_of hown'
      have HB := hid_of hB
      clear hset hown' hB hst hownr hc0 hzs
      have htl := hts ts[k] (List.getElem_mem hlt)
      go_wp2_with fail
      refine (Hash_l ts[k] (by omega) wr).mono ?_
      rintro e w3 ⟨rfl, rfl⟩
      go_wp2_with fail
      go_roundw
      case rel => exact ⟨k + 1, zs.set k (hashL ts[k]), by omega, by go_num, HO.out, HB.out, HS⟩
      case measure => simp [intOf]; omega
    · obtain rfl : k = ts.length := by omega
      have := hzs.out
      rw [← hzl, List.take_length, hzl, List.take_of_length_le (by simp)] at this
      subst this
      go_wp2_with fail
      go_ret
      exact ⟨_, rfl, hownr, hbl⟩

def fileHeadL (number : Nat) (name data : List UInt8) : List UInt8 := numBytes number 1 ++ numBytes name.length 1 ++ name ++ numBytes data.length 2 ++ numBytes (hashL data) 8
def fileBodyL (number : Nat) (name data : List UInt8) (ss : List (List UInt8)) : List UInt8 := fileHeadL number name data ++ hashesL (ss.map hashL)

set_option maxRecDepth 100000 in
theorem FileBody_walk (number : Nat) (name data : List UInt8) (ss : List (List UInt8)) (a : Option Addr) (cap : Nat) (hnum : number ≤ 100) (hname : name.length ≤ 100) (hdata : data.length ≤ 1000) (hn : ss.length ≤ 1000) (hss : ∀ t ∈ ss, t.length ≤ 1000) (w : World) (hrd : Rd w a (strV ss)) :
    Calls Try.prog 58 #[.int .i64 (number : Int), .agg #[.string (str name), .string (str data)], .slice a ss.length cap] w fun e w' => e = .returned (.string (str (fileBodyL number name data ss))) ∧ Below w.heap.size w w' := by
  obtain ⟨i0, hi, hz0, hz1, hz2⟩ := info_parts Try.info8
  have hns : (str name).size = name.length := str_size name
  have hds : (str data).size = data.length := str_size data
  obtain ⟨W0, hW0⟩ : ∃ W0, W0 = w.alloc (.cells #[.string (str name), .string (str data)] 43) := ⟨_, rfl⟩
  have hs0 : W0.heap.size = w.heap.size + 1 := by rw [hW0]; simp
  have hcn : ∀ W, Below (w.heap.size + 1) W0 W → W.cell? ⟨w.heap.size, 0, none⟩ = some (.string (str name)) ∧ W.cell? ⟨w.heap.size, 1, none⟩ = some (.string (str data)) := by
    intro W hW
    rw [hW.cell (by simp), hW.cell (by simp), hW0]
    constructor <;> simp
  have hw0 : Below w.heap.size w W0 := by rw [hW0]; exact (Below.refl _ _).alloc (Nat.le_refl _) _
  have hlow : ∀ W, Below (w.heap.size + 1) W0 W → Below w.heap.size w W := fun W h => hw0.trans (h.mono (by omega))
  have HC := hid_of hcn
  have HL := hid_of hlow
  have HW := hid_of hW0
  have HS := hid_of hs0
  clear hcn hlow hs0
  go_enter Try.func58, Try.ntmps58
  go_wp2_with fail
  rw [← HW.out]
  clear hW0
  refine (appendNumber_walk _ 0 [] number 1 (w.heap.size + 1) W0 (by omega) (by omega) (by rw [HS.out]; omega) (World.ownsRow_nil _ _ _ _)).mono ?_
  rintro e w1 ⟨v1, rfl, hown1, hb1⟩
  have hsz1 := hb1.size
  rw [HS.out] at hsz1
  obtain ⟨hn1, hd1⟩ := HC.out w1 hb1
  go_wp2_with fail
  refine (appendNumber_walk v1 1 _ name.length 1 (w.heap.size + 1) w1 (by omega) (by omega) hsz1 hown1).mono ?_
  rintro e w2 ⟨v2, rfl, hown2, hb2'⟩
  have hb2 := hb1.trans hb2'
  have hsz2 := hb2.size
  rw [HS.out] at hsz2
  clear hown1 hb2' hb1 hsz1 hn1 hd1
  obtain ⟨hn2, hd2⟩ := HC.out w2 hb2
  go_wp2_with (at_builtin; refine Lib.wpList_append_own_string _ rfl (.tmp 19) (.tmp 21) 83 9 rfl (w.heap.size + 1) 5 i0 Try.underlying83 Try.underlying9 hi hz0 hz1 hz2 v2 2 _ rfl hown2 (str name) rfl ?c5 ?c6 ?c7 ?_)
  case c5 => unfold maxLen; omega
  case c6 => omega
  case c7 => omega
  intro v3 w3 hown3 hg3 _
  have hb3 := below_grown hb2 hsz2 hown2 hg3
  rw [strCells_bytesV, ← bytesV_append, str_data] at hown3
  have hsz3 := hb3.size
  rw [HS.out] at hsz3
  clear hown2 hg3 hb2 hsz2 hn2 hd2
  obtain ⟨hn3, hd3⟩ := HC.out w3 hb3
  go_wp2_with fail
  refine (appendNumber_walk v3 (2 + name.length) _ data.length 2 (w.heap.size + 1) w3 (by omega) (by omega) hsz3 hown3).mono ?_
  rintro e w4 ⟨v4, rfl, hown4, hb4'⟩
  have hb4 := hb3.trans hb4'
  have hsz4 := hb4.size
  rw [HS.out] at hsz4
  clear hown3 hb4' hb3 hsz3 hn3 hd3
  obtain ⟨hn4, hd4⟩ := HC.out w4 hb4
  go_wp2_with fail
  refine (Hash_l data (by omega) w4).mono ?_
  rintro e w5 ⟨rfl, rfl⟩
  go_wp2_with fail
  refine (appendNumber_walk v4 (2 + name.length + 2) _ (hashL data) 8 (w.heap.size + 1) w5 (by omega) (by omega) hsz4 hown4).mono ?_
  rintro e w6 ⟨v6, rfl, hown6, hb6'⟩
  have hb6 := hb4.trans hb6'
  have hsz6 := hb6.size
  rw [HS.out] at hsz6
  have hown6' : w6.ownsRow (w.heap.size + 1) 5 1 v6 (name.length + 12) (bytesV (fileHeadL number name data)) := by
    have e : 2 + name.length + 2 + 8 = name.length + 12 := by omega
    rw [e] at hown6
    exact hown6
  clear hown4 hb6' hb4 hsz4 hn4 hd4 hown6
  go_wp2_with fail
  go_loopw [7, 9, 36] (fun t x i wr => ∃ k : Nat, k ≤ ss.length ∧ i = .int .i64 (k : Int) ∧ wr.ownsRow (w.heap.size + 1) 5 1 t (name.length + 12 + 8 * k) (bytesV (fileHeadL number name data ++ hashesL ((ss.map hashL).take k))) ∧ Below (w.heap.size + 1) W0 wr)
    (fun _ _ i _ => ss.length - (intOf i).toNat)
  case atStart => exact ⟨0, by omega, rfl, by simpa [hashesL] using hown6', hb6⟩
  case round =>
    clear hown6' hb6 hsz6
    obtain ⟨k, hk, rfl, hownr, hbl⟩ := hrel
    have hsz := hbl.size
    rw [HS.out] at hsz
    by_cases hlt : k < ss.length
    · obtain ⟨b, off, rfl, hc0⟩ := hrd k (.string (str ss[k])) (by simp [strV, hlt])
      have hc : wr.cell? ⟨b, off + k, none⟩ = some (.string (str ss[k])) := by
        rw [(HL.out wr hbl).cell (World.block_lt_of_cell? w _ hc0)]; exact hc0
      clear hc0
      have htl := hss ss[k] (List.getElem_mem hlt)
      go_wp2_with fail
      refine (Hash_l ss[k] (by omega) wr).mono ?_
      rintro e w7 ⟨rfl, rfl⟩
      go_wp2_with fail
      refine (appendNumber_walk u7 (name.length + 12 + 8 * k) _ (hashL ss[k]) 8 (w.heap.size + 1) w7 (by omega) (by omega) hsz hownr).mono ?_
      rintro e w8 ⟨v8, rfl, hown8, hb8'⟩
      have hb8 := hbl.trans hb8'
      have hown8' : w8.ownsRow (w.heap.size + 1) 5 1 v8 (name.length + 12 + 8 * (k + 1)) (bytesV (fileHeadL number name data ++ hashesL ((ss.map hashL).take (k + 1)))) := by
        rw [take_snoc _ k (by simpa using hlt), hashesL_snoc, ← List.append_assoc, List.getElem_map]
        exact hown8
      clear hown8 hb8' hc hownr
      go_wp2_with fail
      go_roundw
      case rel => exact ⟨k + 1, by omega, by go_num, hown8', hb8⟩
      case measure => simp [intOf]; omega
    · obtain rfl : k = ss.length := by omega
      have hc := owned_string hownr
      rw [List.take_of_length_le (by simp)] at hc
      have hB := HL.out _ hbl
      clear hownr
      go_wp2_with fail
      go_ret
      exact ⟨rfl, hB⟩
end Go.Proofs.Ytonjphollmdicaa
