import Derived.Test.YtonjphollmdicaaDoorB00
import Derived.RegionTactic
import Derived.ChangeAlike
import Derived.BigRegion
namespace Go.Proofs.YtonjphollmdicaaDoor
open Go.ChangeShapes Go.WideShapes Go.ChangeAt Go.RowKit

def u64V (l : List Nat) : List Value := l.map fun (n : Nat) => Value.int .u64 (n : Int)
def strV (l : List (List UInt8)) : List Value := l.map fun x => Value.string (str x)

def hashesL (hs : List Nat) : List UInt8 := hs.flatMap fun h => numBytes h 8
def mainBodyL (size : Nat) (hs : List Nat) : List UInt8 := numBytes size 2 ++ numBytes hs.length 1 ++ hashesL hs

theorem hashesL_snoc (l : List Nat) (h : Nat) : hashesL (l ++ [h]) = hashesL l ++ numBytes h 8 := by simp [hashesL]
theorem take_snoc {α : Type} (l : List α) (k : Nat) (h : k < l.length) : l.take (k + 1) = l.take k ++ [l[k]] := by
  rw [List.take_add_one, List.getElem?_eq_getElem h]; rfl

set_option maxRecDepth 100000 in
theorem MainBody_walk (size : Nat) (hs : List Nat) (a : Option Addr) (cap : Nat) (hsize : size ≤ 100) (hn : hs.length ≤ 100) (w : World) (hrd : Rd w a (u64V hs)) :
    Calls Tryd.prog 34 #[.int .i64 (size : Int), .slice a hs.length cap] w fun e w' => e = .returned (.string (str (mainBodyL size hs))) ∧ Below w.heap.size w w' := by
  go_enter Tryd.func34, Tryd.ntmps34
  go_wp2_with fail
  refine (appendNumber_walk _ 0 [] size 2 w.heap.size w (by omega) (by omega) (Nat.le_refl _) (World.ownsRow_nil _ _ _ _)).mono ?_
  rintro e w1 ⟨v1, rfl, hown1, hb1⟩
  have hsz1 := hb1.size
  go_wp2_with fail
  refine (appendNumber_walk v1 2 _ hs.length 1 w.heap.size w1 (by omega) (by omega) (by omega) hown1).mono ?_
  rintro e w2 ⟨v2, rfl, hown2, hb2'⟩
  have hb2 := hb1.trans hb2'
  clear hown1 hb1 hb2' hsz1
  go_wp2_with fail
  go_loopw [5, 7, 18] (fun t x i wr => ∃ k : Nat, k ≤ hs.length ∧ i = .int .i64 (k : Int) ∧ wr.ownsRow w.heap.size 5 1 t (3 + 8 * k) (bytesV (numBytes size 2 ++ numBytes hs.length 1 ++ hashesL (hs.take k))) ∧ Below w.heap.size w wr)
    (fun _ _ i _ => hs.length - (intOf i).toNat)
  case atStart => exact ⟨0, by omega, rfl, by simpa [hashesL] using hown2, hb2⟩
  case round =>
    obtain ⟨k, hk, rfl, hownr, hbl⟩ := hrel
    have hsz := hbl.size
    by_cases hlt : k < hs.length
    · obtain ⟨b, off, rfl, hc0⟩ := hrd k (.int .u64 (hs[k] : Int)) (by simp [u64V, hlt])
      have hc : wr.cell? ⟨b, off + k, none⟩ = some (.int .u64 (hs[k] : Int)) := by
        rw [hbl.cell (World.block_lt_of_cell? w _ hc0)]; exact hc0
      clear hc0 hown2
      go_wp2_with fail
      refine (appendNumber_walk u5 (3 + 8 * k) _ hs[k] 8 w.heap.size wr (by omega) (by omega) (by omega) hownr).mono ?_
      rintro e w3 ⟨v3, rfl, hown3, hb3'⟩
      have hb3 := hbl.trans hb3'
      have hown3' : w3.ownsRow w.heap.size 5 1 v3 (3 + 8 * (k + 1)) (bytesV (numBytes size 2 ++ numBytes hs.length 1 ++ hashesL (hs.take (k + 1)))) := by
        rw [take_snoc hs k hlt, hashesL_snoc, ← List.append_assoc]
        exact hown3
      clear hown3 hb3' hc hownr hb2
      go_wp2_with fail
      go_roundw
      case rel => exact ⟨k + 1, by omega, by go_num, hown3', hb3⟩
      case measure => simp [intOf]; omega
    · obtain rfl : k = hs.length := by omega
      have hc := owned_string hownr
      rw [List.take_length] at hc
      clear hownr
      go_wp2_with fail
      go_ret
      exact ⟨rfl, hbl⟩

theorem Tryd.info64 : (Tryd.prog.info? 60).map (fun i => (i.zero, i.size, i.bytes)) = some (some (.int .u64 0), 1, 8) := by kernel_rfl

set_option maxRecDepth 100000 in
theorem hashAll_walk (ts : List (List UInt8)) (a : Option Addr) (cap : Nat) (hn : ts.length ≤ 100) (hts : ∀ t ∈ ts, t.length ≤ 100000) (w : World) (hrd : Rd w a (strV ts)) :
    Calls Tryd.prog 35 #[.slice a ts.length cap] w fun e w' => ∃ v', e = .returned v' ∧ w'.ownsRow w.heap.size 60 1 v' ts.length (u64V (ts.map hashL)) ∧ Below w.heap.size w w' := by
  obtain ⟨i0, hi, hz0, hz1, hz2⟩ := info_parts Tryd.info64
  go_enter Tryd.func35, Tryd.ntmps35
  go_wp2_with (at_make; refine wpList_make_full _ rfl _ _ 61 rfl w.heap.size 60 i0 (.int .u64 0) 1 Tryd.underlying61 hi hz0 hz1 .i64 .i64 _ _ ts.length rfl rfl rfl rfl ?c1 ?c2 (Nat.le_refl _) ?_)
  case c1 => rw [hz2]; omega
  case c2 => unfold maxLen; omega
  intro w1 hown1 hg1
  have hb1 : Below w.heap.size w w1 := (Below.refl _ w).grown hg1 (Nat.le_refl _) (by simp)
  clear hg1
  go_wp2_with fail
  go_loopw [4, 5, 11] (fun _ _ i wr => ∃ (k : Nat) (zs : List Nat), k ≤ ts.length ∧ i = .int .i64 (k : Int) ∧ wr.ownsRow w.heap.size 60 1 (.slice (some ⟨w.heap.size, 0, none⟩) ts.length ts.length) ts.length (u64V zs) ∧ Below w.heap.size w wr ∧ Hid (zs.take k = (ts.map hashL).take k))
    (fun _ _ i _ => ts.length - (intOf i).toNat)
  case atStart => exact ⟨0, List.replicate ts.length 0, by omega, rfl, by simpa [u64V, toList_madeCells_one] using hown1, hb1, hid_of (by simp)⟩
  case round =>
    obtain ⟨k, zs, hk, rfl, hownr, hbl, hzs⟩ := hrel
    have hsz := hbl.size
    have hzl : zs.length = ts.length := by have := hownr.1; simpa [u64V] using this
    by_cases hlt : k < ts.length
    · obtain ⟨b, off, rfl, hc0⟩ := hrd k (.string (str ts[k])) (by simp [strV, hlt])
      have hc : wr.cell? ⟨b, off + k, none⟩ = some (.string (str ts[k])) := by
        rw [hbl.cell (World.block_lt_of_cell? w _ hc0)]; exact hc0
      have hcell : wr.cell? ⟨w.heap.size, k, none⟩ = some (.int .u64 (zs[k] : Int)) := by
        rw [hownr.cellAt k (by omega)]; simp [u64V, hzl, hlt]
      have hfz := hownr.frozenAt k
      have hst := hownr.stored k (.int .u64 ((hashL ts[k] : Nat) : Int))
      have hown' : (wr.setCell ⟨w.heap.size, k, none⟩ (.int .u64 ((hashL ts[k] : Nat) : Int))).ownsRow w.heap.size 60 1 (.slice (some ⟨w.heap.size, 0, none⟩) ts.length ts.length) ts.length (u64V (zs.set k (hashL ts[k]))) := by
        have e : u64V (zs.set k (hashL ts[k])) = (u64V zs).set k (.int .u64 ((hashL ts[k] : Nat) : Int)) := by simp [u64V, List.map_set]
        rw [e]; exact hst.1
      have hB := hbl.setCell (p := ⟨w.heap.size, k, none⟩) (Nat.le_refl _) (.int .u64 ((hashL ts[k] : Nat) : Int))
      have hkl : k < zs.length := by omega
      have hset : (zs.set k (hashL ts[k])).take (k + 1) = (ts.map hashL).take (k + 1) := by
        rw [take_snoc _ k (by simpa using hkl), take_snoc _ k (by simpa using hlt)]
        simp only [List.getElem_set_self, List.getElem_map]
        rw [List.take_set_of_le (Nat.le_refl _), hzs.out]
      have HS := hid_of hset
      have HO := hid_of hown'
      have HB := hid_of hB
      clear hset hown' hB hst hownr hc0 hzs
      have htl := hts ts[k] (List.getElem_mem hlt)
      go_wp2_with fail
      refine (Hash_l ts[k] (by omega) wr).mono ?_
      rintro e w3 ⟨rfl, rfl⟩
      go_wp2_with fail
      go_roundw
      case rel => exact ⟨k + 1, zs.set k (hashL ts[k]), by omega, by go_num, HO.out, HB.out, HS⟩
      case measure => simp [intOf]; omega
    · obtain rfl : k = ts.length := by omega
      have := hzs.out
      rw [← hzl, List.take_length, hzl, List.take_of_length_le (by simp)] at this
      subst this
      go_wp2_with fail
      go_ret
      exact ⟨_, rfl, hownr, hbl⟩

def fileHeadL (number : Nat) (name data : List UInt8) : List UInt8 := numBytes number 1 ++ numBytes name.length 1 ++ name ++ numBytes data.length 2 ++ numBytes (hashL data) 8
def fileBodyL (number : Nat) (name data : List UInt8) (ss : List (List UInt8)) : List UInt8 := fileHeadL number name data ++ hashesL (ss.map hashL)

set_option maxRecDepth 100000 in
theorem FileBody_walk (number : Nat) (name data : List UInt8) (ss : List (List UInt8)) (a : Option Addr) (cap : Nat) (hnum : number ≤ 100) (hname : name.length ≤ 100) (hdata : data.length ≤ 1000) (hn : ss.length ≤ 1000) (hss : ∀ t ∈ ss, t.length ≤ 1000) (w : World) (hrd : Rd w a (strV ss)) :
    Calls Tryd.prog 48 #[.int .i64 (number : Int), .agg #[.string (str name), .string (str data)], .slice a ss.length cap] w fun e w' => e = .returned (.string (str (fileBodyL number name data ss))) ∧ Below w.heap.size w w' := by
  obtain ⟨i0, hi, hz0, hz1, hz2⟩ := info_parts Tryd.info8
  have hns : (str name).size = name.length := str_size name
  have hds : (str data).size = data.length := str_size data
  obtain ⟨W0, hW0⟩ : ∃ W0, W0 = w.alloc (.cells #[.string (str name), .string (str data)] 43) := ⟨_, rfl⟩
  have hs0 : W0.heap.size = w.heap.size + 1 := by rw [hW0]; simp
  have hcn : ∀ W, Below (w.heap.size + 1) W0 W → W.cell? ⟨w.heap.size, 0, none⟩ = some (.string (str name)) ∧ W.cell? ⟨w.heap.size, 1, none⟩ = some (.string (str data)) := by
    intro W hW
    rw [hW.cell (by simp), hW.cell (by simp), hW0]
    constructor <;> simp
  have hw0 : Below w.heap.size w W0 := by rw [hW0]; exact (Below.refl _ _).alloc (Nat.le_refl _) _
  have hlow : ∀ W, Below (w.heap.size + 1) W0 W → Below w.heap.size w W := fun W h => hw0.trans (h.mono (by omega))
  have HC := hid_of hcn
  have HL := hid_of hlow
  have HW := hid_of hW0
  have HS := hid_of hs0
  clear hcn hlow hs0
  go_enter Tryd.func48, Tryd.ntmps48
  go_wp2_with fail
  rw [← HW.out]
  clear hW0
  refine (appendNumber_walk _ 0 [] number 1 (w.heap.size + 1) W0 (by omega) (by omega) (by rw [HS.out]; omega) (World.ownsRow_nil _ _ _ _)).mono ?_
  rintro e w1 ⟨v1, rfl, hown1, hb1⟩
  have hsz1 := hb1.size
  rw [HS.out] at hsz1
  obtain ⟨hn1, hd1⟩ := HC.out w1 hb1
  go_wp2_with fail
  refine (appendNumber_walk v1 1 _ name.length 1 (w.heap.size + 1) w1 (by omega) (by omega) hsz1 hown1).mono ?_
  rintro e w2 ⟨v2, rfl, hown2, hb2'⟩
  have hb2 := hb1.trans hb2'
  have hsz2 := hb2.size
  rw [HS.out] at hsz2
  clear hown1 hb2' hb1 hsz1 hn1 hd1
  obtain ⟨hn2, hd2⟩ := HC.out w2 hb2
  go_wp2_with (at_builtin; refine Lib.wpList_append_own_string _ rfl (.tmp 19) (.tmp 21) 39 9 rfl (w.heap.size + 1) 5 i0 Tryd.underlying39 Tryd.underlying9 hi hz0 hz1 hz2 v2 2 _ rfl hown2 (str name) rfl ?c5 ?c6 ?c7 ?_)
  case c5 => unfold maxLen; omega
  case c6 => omega
  case c7 => omega
  intro v3 w3 hown3 hg3 _
  have hb3 := below_grown hb2 hsz2 hown2 hg3
  rw [strCells_bytesV, ← bytesV_append, str_data] at hown3
  have hsz3 := hb3.size
  rw [HS.out] at hsz3
  clear hown2 hg3 hb2 hsz2 hn2 hd2
  obtain ⟨hn3, hd3⟩ := HC.out w3 hb3
  go_wp2_with fail
  refine (appendNumber_walk v3 (2 + name.length) _ data.length 2 (w.heap.size + 1) w3 (by omega) (by omega) hsz3 hown3).mono ?_
  rintro e w4 ⟨v4, rfl, hown4, hb4'⟩
  have hb4 := hb3.trans hb4'
  have hsz4 := hb4.size
  rw [HS.out] at hsz4
  clear hown3 hb4' hb3 hsz3 hn3 hd3
  obtain ⟨hn4, hd4⟩ := HC.out w4 hb4
  go_wp2_with fail
  refine (Hash_l data (by omega) w4).mono ?_
  rintro e w5 ⟨rfl, rfl⟩
  go_wp2_with fail
  refine (appendNumber_walk v4 (2 + name.length + 2) _ (hashL data) 8 (w.heap.size + 1) w5 (by omega) (by omega) hsz4 hown4).mono ?_
  rintro e w6 ⟨v6, rfl, hown6, hb6'⟩
  have hb6 := hb4.trans hb6'
  have hsz6 := hb6.size
  rw [HS.out] at hsz6
  have hown6' : w6.ownsRow (w.heap.size + 1) 5 1 v6 (name.length + 12) (bytesV (fileHeadL number name data)) := by
    have e : 2 + name.length + 2 + 8 = name.length + 12 := by omega
    rw [e] at hown6
    exact hown6
  clear hown4 hb6' hb4 hsz4 hn4 hd4 hown6
  go_wp2_with fail
  go_loopw [7, 9, 36] (fun t x i wr => ∃ k : Nat, k ≤ ss.length ∧ i = .int .i64 (k : Int) ∧ wr.ownsRow (w.heap.size + 1) 5 1 t (name.length + 12 + 8 * k) (bytesV (fileHeadL number name data ++ hashesL ((ss.map hashL).take k))) ∧ Below (w.heap.size + 1) W0 wr)
    (fun _ _ i _ => ss.length - (intOf i).toNat)
  case atStart => exact ⟨0, by omega, rfl, by simpa [hashesL] using hown6', hb6⟩
  case round =>
    clear hown6' hb6 hsz6
    obtain ⟨k, hk, rfl, hownr, hbl⟩ := hrel
    have hsz := hbl.size
    rw [HS.out] at hsz
    by_cases hlt : k < ss.length
    · obtain ⟨b, off, rfl, hc0⟩ := hrd k (.string (str ss[k])) (by simp [strV, hlt])
      have hc : wr.cell? ⟨b, off + k, none⟩ = some (.string (str ss[k])) := by
        rw [(HL.out wr hbl).cell (World.block_lt_of_cell? w _ hc0)]; exact hc0
      clear hc0
      have htl := hss ss[k] (List.getElem_mem hlt)
      go_wp2_with fail
      refine (Hash_l ss[k] (by omega) wr).mono ?_
      rintro e w7 ⟨rfl, rfl⟩
      go_wp2_with fail
      refine (appendNumber_walk u7 (name.length + 12 + 8 * k) _ (hashL ss[k]) 8 (w.heap.size + 1) w7 (by omega) (by omega) hsz hownr).mono ?_
      rintro e w8 ⟨v8, rfl, hown8, hb8'⟩
      have hb8 := hbl.trans hb8'
      have hown8' : w8.ownsRow (w.heap.size + 1) 5 1 v8 (name.length + 12 + 8 * (k + 1)) (bytesV (fileHeadL number name data ++ hashesL ((ss.map hashL).take (k + 1)))) := by
        rw [take_snoc _ k (by simpa using hlt), hashesL_snoc, ← List.append_assoc, List.getElem_map]
        exact hown8
      clear hown8 hb8' hc hownr
      go_wp2_with fail
      go_roundw
      case rel => exact ⟨k + 1, by omega, by go_num, hown8', hb8⟩
      case measure => simp [intOf]; omega
    · obtain rfl : k = ss.length := by omega
      have hc := owned_string hownr
      rw [List.take_of_length_le (by simp)] at hc
      have hB := HL.out _ hbl
      clear hownr
      go_wp2_with fail
      go_ret
      exact ⟨rfl, hB⟩
end Go.Proofs.YtonjphollmdicaaDoor
namespace Go.Proofs.YtonjphollmdicaaDoor
open Go.ChangeShapes Go.WideShapes Go.ChangeAt Go.RowKit

def u16V (l : List Nat) : List Value := l.map fun (n : Nat) => Value.int .u16 (n : Int)
def numAt (l : List UInt8) (i : Nat) : Nat := (l[2 * i]?.getD 0).toNat * 256 + (l[2 * i + 1]?.getD 0).toNat
def rowL (l : List UInt8) : List Nat := (List.range (l.length / 2)).map (numAt l)
def textL (r : List Nat) : List UInt8 := r.flatMap fun n => numBytes n 2

theorem Tryd.info16 : (Tryd.prog.info? 119).map (fun i => (i.zero, i.size, i.bytes)) = some (some (.int .u16 0), 1, 2) := by kernel_rfl

theorem numAt_lt (l : List UInt8) (i : Nat) : numAt l i < 65536 := by
  unfold numAt
  have h1 := (l[2 * i]?.getD 0).toNat_lt
  have h2 := (l[2 * i + 1]?.getD 0).toNat_lt
  omega
theorem rowL_length (l : List UInt8) : (rowL l).length = l.length / 2 := by simp [rowL]

theorem numAt_spelt (l : List UInt8) (k : Nat) :
    bits BinOp.or IntKind.u16 (IntKind.u16.wrap (IntKind.u16.wrap ((l[2 * k]?.getD 0).toNat : Int) * 256)) (IntKind.u16.wrap ((l[2 * k + 1]?.getD 0).toNat : Int)) = ((numAt l k : Nat) : Int) := by
  have h1 := (l[2 * k]?.getD 0).toNat_lt
  have h2 := (l[2 * k + 1]?.getD 0).toNat_lt
  unfold numAt
  generalize (l[2 * k]?.getD 0).toNat = a at *
  generalize (l[2 * k + 1]?.getD 0).toNat = b at *
  have e1 : IntKind.u16.wrap (IntKind.u16.wrap (a : Int) * 256) = ((a * 256 : Nat) : Int) := by rw [IntKind.wrap_u16, IntKind.wrap_u16]; omega
  have e2 : IntKind.u16.wrap (b : Int) = (b : Int) := by rw [IntKind.wrap_u16]; omega
  rw [e1, e2, u16_or_nat (a * 256) b (by omega) (by omega)]
  have h3 := Nat.two_pow_add_eq_or_of_lt (i := 8) (b := b) (by omega) a
  rw [show a * 256 = 2 ^ 8 * a from by omega, ← h3]

theorem index_str (l : List UInt8) (j : Nat) (i : Int) (hi : i = (j : Int)) (hj : j < l.length) (W : World) :
    (Instr.index 9 (.string (str l)) (.int .i64 i)).run Tryd.prog W = .ok (.int .u8 ((l[j]?.getD 0).toNat : Int)) W := by
  subst hi
  have hs : j < (str l).size := by rw [str_size]; exact hj
  rw [run_index_string W 9 (str l) .i64 (j : Int) Tryd.underlying9, dif_pos ⟨by omega, by omega⟩]
  have e : ((str l)[((j : Int)).toNat]'(by omega)) = l[j]?.getD 0 := by
    have h2 : ((j : Int)).toNat = j := by omega
    simp only [h2]
    rw [List.getElem?_eq_getElem hj]
    rfl
  rw [e]

set_option maxRecDepth 100000 in
set_option maxHeartbeats 1000000 in
theorem ReadRow_walk (l : List UInt8) (hl : l.length ≤ 1000) (w : World) :
    Calls Tryd.prog 49 #[.string (str l)] w fun e w' => ∃ v', e = .returned v' ∧ w'.ownsRow w.heap.size 119 1 v' (l.length / 2) (u16V (rowL l)) ∧ Below w.heap.size w w' := by
  obtain ⟨i0, hi, hz0, hz1, hz2⟩ := info_parts Tryd.info16
  have hss : (str l).size = l.length := str_size l
  obtain ⟨n, hn⟩ : ∃ n, n = l.length / 2 := ⟨_, rfl⟩
  have hn2 : 2 * n ≤ l.length := by omega
  have e2 : ((l.length : Int) / 2) = (n : Int) := by omega
  rw [← hn]
  have HN := hid_of hn
  clear hn
  go_enter Tryd.func49, Tryd.ntmps49
  go_wp2_with (at_make; refine wpList_make_full _ rfl _ _ 91 rfl w.heap.size 119 i0 (.int .u16 0) 1 Tryd.underlying91 hi hz0 hz1 .i64 .i64 _ _ n rfl rfl ?c0 ?c0b ?c1 ?c2 (Nat.le_refl _) ?_)
  case c0 => first | rfl | omega
  case c0b => first | rfl | omega
  case c1 => rw [hz2]; omega
  case c2 => unfold maxLen; omega
  intro w1 hown1 hg1
  have hb1 : Below w.heap.size w w1 := (Below.refl _ w).grown hg1 (Nat.le_refl _) (by simp)
  clear hg1
  have HE := hid_of e2
  clear e2
  go_wp2_with fail
  go_loopw [4, 11] (fun _ i wr => ∃ (k : Nat) (zs : List Nat), k ≤ n ∧ i = .int .i64 (k : Int) ∧ wr.ownsRow w.heap.size 119 1 (.slice (some ⟨w.heap.size, 0, none⟩) n n) n (u16V zs) ∧ Below w.heap.size w wr ∧ Hid (zs.take k = (rowL l).take k))
    (fun _ i _ => n - (intOf i).toNat)
  case atStart => exact ⟨0, List.replicate n 0, by omega, rfl, by simpa [u16V, toList_madeCells_one] using hown1, hb1, hid_of (by simp)⟩
  case round =>
    clear hown1 hb1
    obtain ⟨k, zs, hk, rfl, hownr, hbl, hzs⟩ := hrel
    have hzl : zs.length = n := by have := hownr.1; simpa [u16V] using this
    by_cases hlt : k < n
    · have hcell : wr.cell? ⟨w.heap.size, k, none⟩ = some (.int .u16 (zs[k] : Int)) := by
        rw [hownr.cellAt k (by omega)]; simp [u16V, hzl, hlt]
      have hfz := hownr.frozenAt k
      have i1 := index_str l (2 * k) (2 * (k : Int)) (by omega) (by omega)
      have i2 := index_str l (2 * k + 1) (2 * (k : Int) + 1) (by omega) (by omega)
      have hst := (hownr.stored k (.int .u16 ((numAt l k : Nat) : Int))).1
      have hown' : (wr.setCell ⟨w.heap.size, k, none⟩ (.int .u16 ((numAt l k : Nat) : Int))).ownsRow w.heap.size 119 1 (.slice (some ⟨w.heap.size, 0, none⟩) n n) n (u16V (zs.set k (numAt l k))) := by
        have e : u16V (zs.set k (numAt l k)) = (u16V zs).set k (.int .u16 ((numAt l k : Nat) : Int)) := by simp [u16V, List.map_set]
        rw [e]; exact hst
      have hB := hbl.setCell (p := ⟨w.heap.size, k, none⟩) (Nat.le_refl _) (.int .u16 ((numAt l k : Nat) : Int))
      have hset : (zs.set k (numAt l k)).take (k + 1) = (rowL l).take (k + 1) := by
        rw [take_snoc _ k (by simpa using (by omega : k < zs.length)), take_snoc _ k (by rw [rowL_length, ← HN.out]; exact hlt)]
        rw [List.take_set_of_le (Nat.le_refl _), hzs.out]
        congr 2
        rw [List.getElem_set_self]
        simp [rowL]
      have HS := hid_of hset
      have HO := hid_of hown'
      have HB := hid_of hB
      clear hset hown' hB hst hownr hzs
      go_wp2_with fail
      go_region
      rw [numAt_spelt]
      clear i1 i2
      go_wp2_with fail
      go_roundw
      case rel => exact ⟨k + 1, zs.set k (numAt l k), by omega, by go_num, HO.out.drew, HB.out.drew, HS⟩
      case measure => simp [intOf]; omega
    · obtain rfl : k = n := by omega
      have := hzs.out
      rw [← hzl, List.take_length, hzl, List.take_of_length_le (by rw [rowL_length, ← HN.out]; exact Nat.le_refl _)] at this
      subst this
      go_wp2_with fail
      go_ret
      exact ⟨_, rfl, hownr, hbl⟩

theorem textL_snoc (l : List Nat) (h : Nat) : textL (l ++ [h]) = textL l ++ numBytes h 2 := by simp [textL]

theorem two_new (w : World) (x y : Value) (t : TypeId) : ∀ j u, [x, y][j]? = some u → (w.alloc (.cells #[x, y] t)).cell? ((⟨w.heap.size, 0, none⟩ : Addr).add j) = some u := by
  intro j u hj
  rcases j with _ | _ | j
  · simp at hj; subst hj; simp [Addr.add]
  · simp at hj; subst hj; simp [Addr.add]
  · simp at hj

theorem bytes2 (n : Nat) (h : n < 65536) : bytesV (numBytes n 2) = [.int .u8 ((n : Int) / 256), .int .u8 ((n : Int) % 256)] := by
  have e1 : ((byteAt n 1).toNat : Int) = (n : Int) / 256 := by rw [← byteAt_spelt]; simp; omega
  have e2 : ((byteAt n 0).toNat : Int) = (n : Int) % 256 := by rw [← byteAt_spelt]; simp
  simp only [numBytes, bytesV, List.map_cons, List.map_nil]
  rw [e1, e2]

set_option maxRecDepth 100000 in
theorem Text_walk (r : List Nat) (a : Option Addr) (cap : Nat) (hn : r.length ≤ 1000) (hr : ∀ x ∈ r, x < 65536) (w : World) (hrd : Rd w a (u16V r)) :
    Calls Tryd.prog 40 #[.slice a r.length cap] w fun e w' => e = .returned (.string (str (textL r))) ∧ Below w.heap.size w w' := by
  obtain ⟨i0, hi, hz0, hz1, hz2⟩ := info_parts Tryd.info8
  go_enter Tryd.func40, Tryd.ntmps40
  go_wp2_with (at_make; refine wpList_make_own _ rfl _ _ 39 rfl w.heap.size 5 i0 (.int .u8 0) 1 Tryd.underlying39 hi hz0 hz1 .i64 .i64 _ (2 * r.length) rfl rfl ?c0 ?c1 ?c2 (Nat.le_refl _) ?_)
  case c0 => omega
  case c1 => rw [hz2]; omega
  case c2 => unfold maxLen; omega
  intro w1 hown1 hg1
  have hb1 : Below w.heap.size w w1 := (Below.refl _ w).grown hg1 (Nat.le_refl _) (by simp)
  clear hg1
  go_wp2_with fail
  go_loopw [3, 5, 12] (fun t _ i wr => ∃ k : Nat, k ≤ r.length ∧ i = .int .i64 (k : Int) ∧ wr.ownsRow w.heap.size 5 1 t (2 * k) (bytesV (textL (r.take k))) ∧ Below w.heap.size w wr)
    (fun _ _ i _ => r.length - (intOf i).toNat)
  case atStart => exact ⟨0, by omega, rfl, by simpa [textL, bytesV] using hown1, hb1⟩
  case round =>
    clear hown1 hb1
    obtain ⟨k, hk, rfl, hownr, hbl⟩ := hrel
    have hsz := hbl.size
    by_cases hlt : k < r.length
    · obtain ⟨b, off, rfl, hc0⟩ := hrd k (.int .u16 (r[k] : Int)) (by simp [u16V, hlt])
      have hc : wr.cell? ⟨b, off + k, none⟩ = some (.int .u16 (r[k] : Int)) := by
        rw [hbl.cell (World.block_lt_of_cell? w _ hc0)]; exact hc0
      have hrk := hr r[k] (List.getElem_mem hlt)
      clear hc0
      go_wp2_with (at_builtin; refine wpList_append_own _ rfl _ _ 39 rfl w.heap.size 5 i0 (.int .u8 0) 1 1 Tryd.underlying39 hi hz0 hz1 hz2 rfl (by decide) _ _ _ rfl (hownr.alloc _) ⟨wr.heap.size, 0, none⟩ 2 2 [.int .u8 ((r[k] : Int) / 256), .int .u8 ((r[k] : Int) % 256)] rfl rfl (two_new _ _ _ _) ?c3 ?c4 ?c5 ?c6 ?_)
      case c3 => intro u hu; simp at hu; rcases hu with rfl | rfl <;> rfl
      case c4 => unfold maxLen; omega
      case c5 => omega
      case c6 => simp; omega
      · intro v' w2 hown' hgrow _
        have hB := below_step hbl (by omega) hownr hgrow
        have hown2 : w2.ownsRow w.heap.size 5 1 v' (2 * (k + 1)) (bytesV (textL (r.take (k + 1)))) := by
          rw [take_snoc r k hlt, textL_snoc, bytesV_append, bytes2 _ hrk]
          exact hown'
        clear hown' hgrow hownr
        go_wp2_with fail
        go_roundw
        case rel => exact ⟨k + 1, by omega, by go_num, hown2, hB⟩
        case measure => simp [intOf]; omega
    · obtain rfl : k = r.length := by omega
      have hc := owned_string hownr
      rw [List.take_length] at hc
      clear hownr
      go_wp2_with fail
      go_ret
      exact ⟨rfl, hbl⟩
end Go.Proofs.YtonjphollmdicaaDoor
namespace Go.Proofs.YtonjphollmdicaaDoor
open Go.ChangeShapes Go.WideShapes Go.ChangeAt Go.RowKit

/-- the product of the differences of point i from all the others -/
def diffStep (pts : List Nat) (i : Nat) (p k : Nat) : Nat := if k = i then p else Math.mul p (pts.getD i 0 ^^^ pts.getD k 0)
def diffL (pts : List Nat) (i : Nat) : Nat := (List.range pts.length).foldl (diffStep pts i) 1

theorem xor_lt16 {a b : Nat} (ha : a < 65536) (hb : b < 65536) : a ^^^ b < 65536 := Nat.xor_lt_two_pow (n := 16) ha hb
theorem getD_lt {l : List Nat} (h : ∀ x ∈ l, x < 65536) (i : Nat) : l.getD i 0 < 65536 := by
  rw [List.getD_eq_getElem?_getD]
  rcases Nat.lt_or_ge i l.length with hi | hi
  · rw [List.getElem?_eq_getElem hi]; exact h _ (List.getElem_mem hi)
  · rw [List.getElem?_eq_none hi]; decide
theorem diffStep_lt {pts : List Nat} {i p k : Nat} (hp : p < 65536) : diffStep pts i p k < 65536 := by
  unfold diffStep
  split
  · exact hp
  · exact Math.mul_lt hp _
theorem foldl_lt {α : Type} (f : Nat → α → Nat) (hf : ∀ p k, p < 65536 → f p k < 65536) (l : List α) : ∀ p, p < 65536 → l.foldl f p < 65536 := by
  induction l with
  | nil => intro p hp; exact hp
  | cons x l ih => intro p hp; exact ih _ (hf _ _ hp)
theorem diffL_lt (pts : List Nat) (i : Nat) : diffL pts i < 65536 := foldl_lt _ (fun _ _ h => diffStep_lt h) _ _ (by decide)

theorem u16_get {r : List Nat} {w : World} {a : Option Addr} (h : Rd w a (u16V r)) (k : Nat) (hk : k < r.length) : ∃ b off, a = some ⟨b, off, none⟩ ∧ w.cell? ⟨b, off + k, none⟩ = some (.int .u16 ((r.getD k 0 : Nat) : Int)) := by
  refine h k _ ?_
  simp [u16V, hk]

set_option maxRecDepth 100000 in
theorem differences_walk (pts : List Nat) (i : Nat) (a : Option Addr) (cap : Nat) (hn : pts.length ≤ 1000) (hi : i < pts.length) (hp : ∀ x ∈ pts, x < 65536) (w : World) (hrd : Rd w a (u16V pts)) :
    Calls Tryd.prog 64 #[.slice a pts.length cap, .int .i64 (i : Int)] w fun e w' => e = .returned (.int .u16 ((diffL pts i : Nat) : Int)) ∧ w' = w := by
  obtain ⟨b, off, rfl, hci⟩ := u16_get hrd i hi
  have hpi := getD_lt hp i
  obtain ⟨pi, hpie⟩ : ∃ x, x = pts.getD i 0 := ⟨_, rfl⟩
  rw [← hpie] at hci hpi
  have HPI := hid_of hpie
  clear hpie
  go_enter Tryd.func64, Tryd.ntmps64
  go_wp2
  go_loop [5, 6, 7, 10] (fun p _ _ j => ∃ k p' : Nat, k ≤ pts.length ∧ p' < 65536 ∧ p = .int .u16 (p' : Int) ∧ j = .int .i64 (k : Int) ∧ Hid (p' = (List.range k).foldl (diffStep pts i) 1))
    (fun _ _ _ j => pts.length - (intOf j).toNat)
  case atStart => exact ⟨0, 1, by omega, by omega, rfl, rfl, hid_of rfl⟩
  case round =>
    obtain ⟨k, p', hk, hp', rfl, rfl, hd⟩ := hrel
    by_cases hlt : k < pts.length
    · obtain ⟨b', off', e, hck⟩ := u16_get hrd k hlt
      cases e
      have hpk := getD_lt hp k
      obtain ⟨pk, hpke⟩ : ∃ x, x = pts.getD k 0 := ⟨_, rfl⟩
      rw [← hpke] at hck hpk
      have HPK := hid_of hpke
      clear hpke
      have hx := xor16 pi pk hpi hpk
      have hnext : diffStep pts i p' k = (List.range (k + 1)).foldl (diffStep pts i) 1 := by
        rw [List.range_succ, List.foldl_append, ← hd.out]; rfl
      have HN := hid_of hnext
      clear hnext
      by_cases hki : k = i
      · have e1 : ((k : Int) == (i : Int)) = true := by simp; omega
        have e2 : ((k : Int) != (i : Int)) = false := by simp; omega
        have h3 : diffStep pts i p' k = p' := by unfold diffStep; rw [if_pos hki]
        have H3 := hid_of h3
        have HK := hid_of hki
        clear h3 hki
        go_wp2_with fail
        refine ⟨⟨k + 1, p', by omega, hp', rfl, by go_num, hid_of ?_⟩, by simp [intOf]; omega⟩
        rw [← HN.out, H3.out]
      · have e2 : ((k : Int) != (i : Int)) = true := by simp; omega
        have h3 : diffStep pts i p' k = Math.mul p' (pi ^^^ pk) := by unfold diffStep; rw [if_neg hki, ← HPI.out, ← HPK.out]
        have H3 := hid_of h3
        have HK := hid_of hki
        clear h3 hki
        go_wp2_with fail
        refine (Times_walk p' (pi ^^^ pk) hp' (xor_lt16 hpi hpk) _).mono ?_
        rintro e w' ⟨rfl, rfl⟩
        go_wp2_with fail
        refine ⟨⟨k + 1, Math.mul p' (pi ^^^ pk), by omega, Math.mul_lt hp' _, rfl, by go_num, hid_of ?_⟩, by simp [intOf]; omega⟩
        rw [← HN.out, H3.out]
    · obtain rfl : k = pts.length := by omega
      go_wp2
      go_ret
      refine ⟨?_, rfl⟩
      have := hd.out
      rw [this]
      rfl
end Go.Proofs.YtonjphollmdicaaDoor
