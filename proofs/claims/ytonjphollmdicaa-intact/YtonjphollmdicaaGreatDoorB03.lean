import Derived.Test.YtonjphollmdicaaGreatDoorB02
import Derived.Shelf.Strings.Repeat
import Derived.Test.YtonjphollmdicaaGreatDoorProg
import Derived.Laws.DeepStrings4
import Derived.RegionTactic
import Derived.ChangeAlike
import Derived.BigRegion
namespace Go.Proofs
open Go.Shelf
def Tryz.lays105_ren : Go.Shelf.Ren := ⟨fun | 105 => 112 | 212 => 129 | 99 => 130 | 165 => 131 | 166 => 132 | 170 => 133 | 169 => 134 | 263 => 143 | 264 => 144 | 206 => 145 | 240 => 146 | 241 => 147 | 276 => 159 | 277 => 160 | n => n, fun | 9 => 9 | 3 => 3 | 4 => 4 | 20 => 20 | 0 => 0 | 46 => 156 | 109 => 212 | 5 => 5 | 72 => 217 | 76 => 221 | 51 => 155 | 146 => 230 | 53 => 63 | 148 => 232 | 70 => 215 | 37 => 67 | 75 => 220 | 127 => 234 | 164 => 247 | 80 => 169 | n => n, fun | n => n⟩
theorem Tryz.lays105 : Go.Proofs.Lays.n105 Tryz.prog Tryz.lays105_ren := {
  mixed := by kernel_rfl
  f99 := Tryz.func130.trans (congrArg some (by kernel_rfl))
  f105 := Tryz.func112.trans (congrArg some (by kernel_rfl))
  f165 := Tryz.func131.trans (congrArg some (by kernel_rfl))
  f166 := Tryz.func132.trans (congrArg some (by kernel_rfl))
  f169 := Tryz.func134.trans (congrArg some (by kernel_rfl))
  f170 := Tryz.func133.trans (congrArg some (by kernel_rfl))
  f206 := Tryz.func145.trans (congrArg some (by kernel_rfl))
  f212 := Tryz.func129.trans (congrArg some (by kernel_rfl))
  f240 := Tryz.func146.trans (congrArg some (by kernel_rfl))
  f241 := Tryz.func147.trans (congrArg some (by kernel_rfl))
  f263 := Tryz.func143.trans (congrArg some (by kernel_rfl))
  f264 := Tryz.func144.trans (congrArg some (by kernel_rfl))
  f276 := Tryz.func159.trans (congrArg some (by kernel_rfl))
  f277 := Tryz.func160.trans (congrArg some (by kernel_rfl))
  t0 := Tryz.underlying0
  a0 := Tryz.isAgg0
  z0 := Tryz.sizeOf0
  v0 := Tryz.zeroValue0
  t3 := Tryz.underlying3
  a3 := Tryz.isAgg3
  z3 := Tryz.sizeOf3
  v3 := Tryz.zeroValue3
  t4 := Tryz.underlying4
  a4 := Tryz.isAgg4
  z4 := Tryz.sizeOf4
  v4 := Tryz.zeroValue4
  t5 := Tryz.underlying5
  a5 := Tryz.isAgg5
  z5 := Tryz.sizeOf5
  v5 := Tryz.zeroValue5
  t9 := Tryz.underlying9
  a9 := Tryz.isAgg9
  z9 := Tryz.sizeOf9
  v9 := Tryz.zeroValue9
  t20 := Tryz.underlying20
  a20 := Tryz.isAgg20
  z20 := Tryz.sizeOf20
  v20 := Tryz.zeroValue20
  t37 := Tryz.underlying67
  a37 := Tryz.isAgg67
  z37 := Tryz.sizeOf67
  v37 := Tryz.zeroValue67
  t46 := Tryz.underlying156
  a46 := Tryz.isAgg156
  z46 := Tryz.sizeOf156
  v46 := Tryz.zeroValue156
  t51 := Tryz.underlying155
  a51 := Tryz.isAgg155
  z51 := Tryz.sizeOf155
  v51 := Tryz.zeroValue155
  t53 := Tryz.underlying63
  a53 := Tryz.isAgg63
  z53 := Tryz.sizeOf63
  v53 := Tryz.zeroValue63
  t70 := Tryz.underlying215
  a70 := Tryz.isAgg215
  z70 := Tryz.sizeOf215
  v70 := Tryz.zeroValue215
  t72 := Tryz.underlying217
  a72 := Tryz.isAgg217
  z72 := Tryz.sizeOf217
  v72 := Tryz.zeroValue217
  t75 := Tryz.underlying220
  a75 := Tryz.isAgg220
  z75 := Tryz.sizeOf220
  v75 := Tryz.zeroValue220
  t76 := Tryz.underlying221
  a76 := Tryz.isAgg221
  z76 := Tryz.sizeOf221
  v76 := Tryz.zeroValue221
  t109 := Tryz.underlying212
  a109 := Tryz.isAgg212
  z109 := Tryz.sizeOf212
  v109 := Tryz.zeroValue212
  t127 := Tryz.underlying234
  a127 := Tryz.isAgg234
  z127 := Tryz.sizeOf234
  v127 := Tryz.zeroValue234
  t146 := Tryz.underlying230
  a146 := Tryz.isAgg230
  z146 := Tryz.sizeOf230
  v146 := Tryz.zeroValue230
  t148 := Tryz.underlying232
  a148 := Tryz.isAgg232
  z148 := Tryz.sizeOf232
  v148 := Tryz.zeroValue232
  t164 := Tryz.underlying247
  a164 := Tryz.isAgg247
  z164 := Tryz.sizeOf247
  v164 := Tryz.zeroValue247 }
theorem Tryz.Builder_Extra_105 : Builder.Extra Tryz.prog Tryz.lays105_ren := {
  sizeBuilder := by kernel_rfl
  liesBuilder := by kernel_rfl
  t5 := Tryz.underlying5
  a5 := Tryz.isAgg5
  z5 := Tryz.sizeOf5
  v5 := Tryz.zeroValue5
  infoByte := by kernel_rfl
  cellsByte := by kernel_rfl
  sizeByte := by kernel_rfl
  neB5 := by decide }
open Go.RowKit Go.Lib in
/-- **strings.Repeat: count ≥ 0, the result within one allocation: count copies of s.** (LAID: no walk: one application.) -/
theorem Tryz.strings_Repeat (s : ByteArray) (c : Nat) (w : World) (hc : c ≤ 9223372036854775807) (hlen : s.size * c ≤ 140737488355328) :
    Calls Tryz.prog 112 #[.string s, .int .i64 c] w fun e w' => e = .returned (.string ⟨(Lib.repeatL s.data.toList c).toArray⟩) ∧ Below w.heap.size w w' := Any.strings_Repeat Tryz.lays105 Tryz.Builder_Extra_105 s c w hc hlen
end Go.Proofs
namespace Go.Proofs.YtonjphollmdicaaGreatDoor
open Go.ChangeShapes Go.WideShapes Go.ChangeAt Go.RowKit

def padL (data : List UInt8) (size : Nat) : List UInt8 := data ++ List.replicate (slicesOfN data.length size * size - data.length) 0
def pieceL (l : List UInt8) (size i : Nat) : List UInt8 := (l.drop (i * size)).take size
def cutL (data : List UInt8) (size : Nat) : List (List UInt8) := (List.range (slicesOfN data.length size)).map (pieceL (padL data size) size)

theorem Tryz.infoS : (Tryz.prog.info? 9).map (fun i => (i.zero, i.size, i.bytes)) = some (some (.string ByteArray.empty), 1, 16) := by kernel_rfl

/-- what strings.Repeat does to one byte 0 -/
def RepeatDoes : Prop := ∀ (c : Nat) (w : World), c ≤ 1000 → Calls Tryz.prog 112 #[.string ⟨#[0]⟩, .int .i64 (c : Int)] w fun e w' => e = .returned (.string (str (List.replicate c 0))) ∧ Below w.heap.size w w'

theorem slices_ge (len size : Nat) (h : 0 < size) : len ≤ slicesOfN len size * size := by
  unfold slicesOfN
  have h1 := Nat.div_add_mod (len + size - 1) size
  have h2 := Nat.mod_lt (len + size - 1) h
  rw [Nat.mul_comm] at h1
  omega
theorem slices_lt (len size : Nat) : slicesOfN len size * size ≤ len + size - 1 := by
  unfold slicesOfN
  exact Nat.div_mul_le_self _ _

theorem str_extract (l : List UInt8) (a b : Nat) : (str l).extract a b = str ((l.drop a).take (b - a)) := by
  apply ByteArray.ext
  simp [str, ByteArray.data_extract]

theorem wrap64_nat (m : Nat) (h : m ≤ 1000000) : wrap64 ((m : Nat) : Int) = (m : Int) := by unfold wrap64; omega
theorem wrap64_mul (k size : Nat) (h : k * size ≤ 1000000) : wrap64 ((k : Int) * (size : Int)) = ((k * size : Nat) : Int) := by
  rw [← Int.natCast_mul, wrap64_nat _ h]
theorem wrap64_mul1 (k size : Nat) (h : (k + 1) * size ≤ 1000000) : wrap64 (((k : Int) + 1) * (size : Int)) = (((k + 1) * size : Nat) : Int) := by
  have : ((k : Int) + 1) * (size : Int) = (((k + 1) * size : Nat) : Int) := by simp
  rw [this, wrap64_nat _ h]

theorem cut_facts (l : List UInt8) (n k size : Nat) (hk : k < n) (hn : n * size ≤ 1000) (hl : l.length = n * size) :
    Hid ((str l).extract (wrap64 ((k : Int) * (size : Int))).toNat (wrap64 (((k : Int) + 1) * (size : Int))).toNat = str (pieceL l size k)) ∧
    0 ≤ wrap64 ((k : Int) * (size : Int)) ∧ wrap64 ((k : Int) * (size : Int)) ≤ wrap64 (((k : Int) + 1) * (size : Int)) ∧ wrap64 (((k : Int) + 1) * (size : Int)) ≤ ((str l).size : Int) := by
  have m1 : (k + 1) * size ≤ n * size := Nat.mul_le_mul_right _ hk
  have m2 : (k + 1) * size = k * size + size := Nat.succ_mul k size
  rw [wrap64_mul k size (by omega), wrap64_mul1 k size (by omega), str_size, hl]
  refine ⟨hid_of ?_, by omega, Int.ofNat_le.2 (by omega), Int.ofNat_le.2 m1⟩
  rw [str_extract]
  unfold pieceL
  have e3 : (((k + 1) * size : Nat) : Int).toNat - ((k * size : Nat) : Int).toNat = size := by rw [Int.toNat_natCast, Int.toNat_natCast, m2]; exact Nat.add_sub_cancel_left _ _
  rw [e3, Int.toNat_natCast]

theorem cut_set (data : List UInt8) (size n k : Nat) (zs : List (List UInt8)) (hn : n = slicesOfN data.length size) (hz : zs.length = n) (hk : k < n) (h : zs.take k = (cutL data size).take k) :
    (zs.set k (pieceL (padL data size) size k)).take (k + 1) = (cutL data size).take (k + 1) := by
  have hcl : (cutL data size).length = n := by unfold cutL; rw [List.length_map, List.length_range]; exact hn.symm
  rw [take_snoc _ k (by simpa using (by omega : k < zs.length)), take_snoc _ k (by omega)]
  rw [List.take_set_of_le (Nat.le_refl _), h]
  congr 2
  rw [List.getElem_set_self]
  simp [cutL]

theorem pad_len (data : List UInt8) (size n : Nat) (h0 : 0 < size) (hn : n = slicesOfN data.length size) : (padL data size).length = n * size := by
  have := slices_ge data.length size h0
  unfold padL
  rw [List.length_append, List.length_replicate, ← hn]
  rw [← hn] at this
  omega

set_option maxRecDepth 100000 in
theorem Cut_walk (hrep : RepeatDoes) (data : List UInt8) (size : Nat) (h0 : 0 < size) (h1 : size ≤ 32) (hd : data.length ≤ 400) (w : World) :
    Calls Tryz.prog 122 #[.string (str data), .int .i64 (size : Int)] w fun e w' => ∃ v', e = .returned v' ∧ w'.ownsRow w.heap.size 9 1 v' (slicesOfN data.length size) (strV (cutL data size)) ∧ Below w.heap.size w w' := by
  obtain ⟨i0, hi, hz0, hz1, hz2⟩ := info_parts Tryz.infoS
  have hsd : (str data).size = data.length := str_size data
  obtain ⟨n, hn⟩ : ∃ n, n = slicesOfN data.length size := ⟨_, rfl⟩
  have hge := slices_ge data.length size h0
  have hlt := slices_lt data.length size
  have hnl := slicesOfN_le data.length size h0
  rw [← hn] at hge hlt hnl
  have hns : n * size ≤ 432 := by omega
  have HN := hid_of hn
  go_enter Tryz.func122, Tryz.ntmps122
  go_wp2_with fail
  refine (slicesOf_walk data.length size (by omega) h0 (by omega) w).mono ?_
  rintro e w' ⟨rfl, rfl⟩
  rw [← HN.out]
  clear hn
  have hw : ((n : Int) * (size : Int)) = ((n * size : Nat) : Int) := by simp
  have HW := hid_of hw
  clear hw
  go_wp2_with fail
  rw [show ((n : Int) * (size : Int) - (data.length : Int)) = ((n * size - data.length : Nat) : Int) from by rw [HW.out]; omega]
  refine (hrep (n * size - data.length) w' (by omega)).mono ?_
  rintro e w1 ⟨rfl, hb1⟩
  have hps : (str (List.replicate (n * size - data.length) 0)).size = n * size - data.length := by rw [str_size, List.length_replicate]
  have hss : (str data).size + (str (List.replicate (n * size - data.length) 0)).size ≤ 9223372036854775807 := by rw [hps, hsd]; omega
  have hpad : str data ++ str (List.replicate (n * size - data.length) 0) = str (padL data size) := by
    rw [str_add, str_data]
    unfold padL
    rw [← HN.out]
  have hsz1 := hb1.size
  go_wp2_with (at_make; refine wpList_make_full _ rfl _ _ 23 rfl w'.heap.size 9 i0 (.string ByteArray.empty) 1 Tryz.underlying23 hi hz0 hz1 .i64 .i64 _ _ n rfl rfl rfl rfl ?c1 ?c2 ?c3 ?_)
  case c1 => rw [hz2]; omega
  case c2 => unfold maxLen; omega
  case c3 => exact hsz1
  intro w2 hown2 hg2
  have hb2 : Below w'.heap.size w' w2 := hb1.grown hg2 hsz1 (by simp)
  obtain ⟨g, hg⟩ : ∃ g, g = w1.heap.size := ⟨_, rfl⟩
  rw [← hg] at hown2 ⊢
  have hgw : w'.heap.size ≤ g := by omega
  clear hg2 hb1 hsz1 hg
  go_wp2_with fail
  go_loopw [8, 26] (fun _ i wr => ∃ (k : Nat) (zs : List (List UInt8)), k ≤ n ∧ i = .int .i64 (k : Int) ∧ wr.ownsRow w'.heap.size 9 1 (.slice (some ⟨g, 0, none⟩) n n) n (strV zs) ∧ Below w'.heap.size w' wr ∧ Hid (zs.take k = (cutL data size).take k))
    (fun _ i _ => n - (intOf i).toNat)
  case atStart => exact ⟨0, List.replicate n [], by omega, rfl, by simp only [strV, List.map_replicate, show str [] = ByteArray.empty from rfl]; simpa [toList_madeCells_one] using hown2, hb2, hid_of (by simp)⟩
  case round =>
    clear hown2 hb2
    obtain ⟨k, zs, hk, rfl, hownr, hbl, hzs⟩ := hrel
    have hzl : zs.length = n := by have := hownr.1; simpa [strV] using this
    by_cases hkn : k < n
    · have hcell : wr.cell? ⟨g, k, none⟩ = some (.string (str zs[k])) := by
        rw [hownr.cellAt k (by omega)]; simp [strV, hzl, hkn]
      have hfz := hownr.frozenAt k
      obtain ⟨EEX, b1, b2, b3⟩ := cut_facts (padL data size) n k size hkn (by omega) (pad_len data size n h0 HN.out)
      have HSET := hid_of (cut_set data size n k zs HN.out hzl hkn hzs.out)
      have hst := (hownr.stored k (.string (str (pieceL (padL data size) size k)))).1
      have hown' : (wr.setCell ⟨g, k, none⟩ (.string (str (pieceL (padL data size) size k)))).ownsRow w'.heap.size 9 1 (.slice (some ⟨g, 0, none⟩) n n) n (strV (zs.set k (pieceL (padL data size) size k))) := by
        have e : strV (zs.set k (pieceL (padL data size) size k)) = (strV zs).set k (.string (str (pieceL (padL data size) size k))) := by simp [strV, List.map_set]
        rw [e]; exact hst
      have hB := hbl.setCell (p := ⟨g, k, none⟩) hgw (.string (str (pieceL (padL data size) size k)))
      have HO := hid_of hown'
      have HB := hid_of hB
      clear hown' hB hst hownr hzs
      go_wp2_with fail
      rw [EEX.out]
      go_roundw
      case rel => exact ⟨k + 1, zs.set k (pieceL (padL data size) size k), by omega, by go_num, HO.out, HB.out, HSET⟩
      case measure => simp [intOf]; omega
    · obtain rfl : k = n := by omega
      have := hzs.out
      rw [← hzl, List.take_length, hzl, List.take_of_length_le (by unfold cutL; rw [List.length_map, List.length_range, ← HN.out]; exact Nat.le_refl _)] at this
      subst this
      go_wp2_with fail
      go_ret
      exact ⟨_, rfl, by rw [← HN.out]; exact hownr, hbl⟩

theorem repeat_zero (c : Nat) : Lib.repeatL [0] c = List.replicate c 0 := by
  induction c with
  | zero => rfl
  | succ c ih => simp only [Lib.repeatL, ih, List.replicate_succ]; rfl

theorem repeat_does : RepeatDoes := by
  intro c w hc
  have h := Tryz.strings_Repeat ⟨#[0]⟩ c w (by omega) (by
    have : (ByteArray.mk #[0]).size = 1 := rfl
    rw [this]; omega)
  have e : (ByteArray.mk #[0]).data.toList = [0] := rfl
  rw [e, repeat_zero] at h
  exact h

theorem Cut_l (data : List UInt8) (size : Nat) (h0 : 0 < size) (h1 : size ≤ 32) (hd : data.length ≤ 400) (w : World) :
    Calls Tryz.prog 122 #[.string (str data), .int .i64 (size : Int)] w fun e w' => ∃ v', e = .returned v' ∧ w'.ownsRow w.heap.size 9 1 v' (slicesOfN data.length size) (strV (cutL data size)) ∧ Below w.heap.size w w' :=
  Cut_walk repeat_does data size h0 h1 hd w
end Go.Proofs.YtonjphollmdicaaGreatDoor
namespace Go.Proofs.YtonjphollmdicaaGreatDoor
open Go.ChangeShapes Go.WideShapes Go.ChangeAt Go.RowKit

def u16V (l : List Nat) : List Value := l.map fun (n : Nat) => Value.int .u16 (n : Int)
def numAt (l : List UInt8) (i : Nat) : Nat := (l[2 * i]?.getD 0).toNat * 256 + (l[2 * i + 1]?.getD 0).toNat
def rowL (l : List UInt8) : List Nat := (List.range (l.length / 2)).map (numAt l)
def textL (r : List Nat) : List UInt8 := r.flatMap fun n => numBytes n 2

theorem Tryz.info16 : (Tryz.prog.info? 80).map (fun i => (i.zero, i.size, i.bytes)) = some (some (.int .u16 0), 1, 2) := by kernel_rfl

theorem numAt_lt (l : List UInt8) (i : Nat) : numAt l i < 65536 := by
  unfold numAt
  have h1 := (l[2 * i]?.getD 0).toNat_lt
  have h2 := (l[2 * i + 1]?.getD 0).toNat_lt
  omega
theorem rowL_length (l : List UInt8) : (rowL l).length = l.length / 2 := by simp [rowL]

theorem numAt_spelt (l : List UInt8) (k : Nat) :
    bits BinOp.or IntKind.u16 (IntKind.u16.wrap (IntKind.u16.wrap ((l[2 * k]?.getD 0).toNat : Int) * 256)) (IntKind.u16.wrap ((l[2 * k + 1]?.getD 0).toNat : Int)) = ((numAt l k : Nat) : Int) := by
  have h1 := (l[2 * k]?.getD 0).toNat_lt
  have h2 := (l[2 * k + 1]?.getD 0).toNat_lt
  unfold numAt
  generalize (l[2 * k]?.getD 0).toNat = a at *
  generalize (l[2 * k + 1]?.getD 0).toNat = b at *
  have e1 : IntKind.u16.wrap (IntKind.u16.wrap (a : Int) * 256) = ((a * 256 : Nat) : Int) := by rw [IntKind.wrap_u16, IntKind.wrap_u16]; omega
  have e2 : IntKind.u16.wrap (b : Int) = (b : Int) := by rw [IntKind.wrap_u16]; omega
  rw [e1, e2, u16_or_nat (a * 256) b (by omega) (by omega)]
  have h3 := Nat.two_pow_add_eq_or_of_lt (i := 8) (b := b) (by omega) a
  rw [show a * 256 = 2 ^ 8 * a from by omega, ← h3]

theorem index_str (l : List UInt8) (j : Nat) (i : Int) (hi : i = (j : Int)) (hj : j < l.length) (W : World) :
    (Instr.index 9 (.string (str l)) (.int .i64 i)).run Tryz.prog W = .ok (.int .u8 ((l[j]?.getD 0).toNat : Int)) W := by
  subst hi
  have hs : j < (str l).size := by rw [str_size]; exact hj
  rw [run_index_string W 9 (str l) .i64 (j : Int) Tryz.underlying9, dif_pos ⟨by omega, by omega⟩]
  have e : ((str l)[((j : Int)).toNat]'(by omega)) = l[j]?.getD 0 := by
    have h2 : ((j : Int)).toNat = j := by omega
    simp only [h2]
    rw [List.getElem?_eq_getElem hj]
    rfl
  rw [e]

set_option maxRecDepth 100000 in
set_option maxHeartbeats 1000000 in
theorem ReadRow_walk (l : List UInt8) (hl : l.length ≤ 1000) (w : World) :
    Calls Tryz.prog 124 #[.string (str l)] w fun e w' => ∃ v', e = .returned v' ∧ w'.ownsRow w.heap.size 80 1 v' (l.length / 2) (u16V (rowL l)) ∧ Below w.heap.size w w' := by
  obtain ⟨i0, hi, hz0, hz1, hz2⟩ := info_parts Tryz.info16
  have hss : (str l).size = l.length := str_size l
  obtain ⟨n, hn⟩ : ∃ n, n = l.length / 2 := ⟨_, rfl⟩
  have hn2 : 2 * n ≤ l.length := by omega
  have e2 : ((l.length : Int) / 2) = (n : Int) := by omega
  rw [← hn]
  have HN := hid_of hn
  clear hn
  go_enter Tryz.func124, Tryz.ntmps124
  go_wp2_with (at_make; refine wpList_make_full _ rfl _ _ 167 rfl w.heap.size 80 i0 (.int .u16 0) 1 Tryz.underlying167 hi hz0 hz1 .i64 .i64 _ _ n rfl rfl ?c0 ?c0b ?c1 ?c2 (Nat.le_refl _) ?_)
  case c0 => first | rfl | omega
  case c0b => first | rfl | omega
  case c1 => rw [hz2]; omega
  case c2 => unfold maxLen; omega
  intro w1 hown1 hg1
  have hb1 : Below w.heap.size w w1 := (Below.refl _ w).grown hg1 (Nat.le_refl _) (by simp)
  clear hg1
  have HE := hid_of e2
  clear e2
  go_wp2_with fail
  go_loopw [4, 11] (fun _ i wr => ∃ (k : Nat) (zs : List Nat), k ≤ n ∧ i = .int .i64 (k : Int) ∧ wr.ownsRow w.heap.size 80 1 (.slice (some ⟨w.heap.size, 0, none⟩) n n) n (u16V zs) ∧ Below w.heap.size w wr ∧ Hid (zs.take k = (rowL l).take k))
    (fun _ i _ => n - (intOf i).toNat)
  case atStart => exact ⟨0, List.replicate n 0, by omega, rfl, by simpa [u16V, toList_madeCells_one] using hown1, hb1, hid_of (by simp)⟩
  case round =>
    clear hown1 hb1
    obtain ⟨k, zs, hk, rfl, hownr, hbl, hzs⟩ := hrel
    have hzl : zs.length = n := by have := hownr.1; simpa [u16V] using this
    by_cases hlt : k < n
    · have hcell : wr.cell? ⟨w.heap.size, k, none⟩ = some (.int .u16 (zs[k] : Int)) := by
        rw [hownr.cellAt k (by omega)]; simp [u16V, hzl, hlt]
      have hfz := hownr.frozenAt k
      have i1 := index_str l (2 * k) (2 * (k : Int)) (by omega) (by omega)
      have i2 := index_str l (2 * k + 1) (2 * (k : Int) + 1) (by omega) (by omega)
      have hst := (hownr.stored k (.int .u16 ((numAt l k : Nat) : Int))).1
      have hown' : (wr.setCell ⟨w.heap.size, k, none⟩ (.int .u16 ((numAt l k : Nat) : Int))).ownsRow w.heap.size 80 1 (.slice (some ⟨w.heap.size, 0, none⟩) n n) n (u16V (zs.set k (numAt l k))) := by
        have e : u16V (zs.set k (numAt l k)) = (u16V zs).set k (.int .u16 ((numAt l k : Nat) : Int)) := by simp [u16V, List.map_set]
        rw [e]; exact hst
      have hB := hbl.setCell (p := ⟨w.heap.size, k, none⟩) (Nat.le_refl _) (.int .u16 ((numAt l k : Nat) : Int))
      have hset : (zs.set k (numAt l k)).take (k + 1) = (rowL l).take (k + 1) := by
        rw [take_snoc _ k (by simpa using (by omega : k < zs.length)), take_snoc _ k (by rw [rowL_length, ← HN.out]; exact hlt)]
        rw [List.take_set_of_le (Nat.le_refl _), hzs.out]
        congr 2
        rw [List.getElem_set_self]
        simp [rowL]
      have HS := hid_of hset
      have HO := hid_of hown'
      have HB := hid_of hB
      clear hset hown' hB hst hownr hzs
      go_wp2_with fail
      go_region
      rw [numAt_spelt]
      clear i1 i2
      go_wp2_with fail
      go_roundw
      case rel => exact ⟨k + 1, zs.set k (numAt l k), by omega, by go_num, HO.out.drew, HB.out.drew, HS⟩
      case measure => simp [intOf]; omega
    · obtain rfl : k = n := by omega
      have := hzs.out
      rw [← hzl, List.take_length, hzl, List.take_of_length_le (by rw [rowL_length, ← HN.out]; exact Nat.le_refl _)] at this
      subst this
      go_wp2_with fail
      go_ret
      exact ⟨_, rfl, hownr, hbl⟩

theorem textL_snoc (l : List Nat) (h : Nat) : textL (l ++ [h]) = textL l ++ numBytes h 2 := by simp [textL]

theorem two_new (w : World) (x y : Value) (t : TypeId) : ∀ j u, [x, y][j]? = some u → (w.alloc (.cells #[x, y] t)).cell? ((⟨w.heap.size, 0, none⟩ : Addr).add j) = some u := by
  intro j u hj
  rcases j with _ | _ | j
  · simp at hj; subst hj; simp [Addr.add]
  · simp at hj; subst hj; simp [Addr.add]
  · simp at hj

theorem bytes2 (n : Nat) (h : n < 65536) : bytesV (numBytes n 2) = [.int .u8 ((n : Int) / 256), .int .u8 ((n : Int) % 256)] := by
  have e1 : ((byteAt n 1).toNat : Int) = (n : Int) / 256 := by rw [← byteAt_spelt]; simp; omega
  have e2 : ((byteAt n 0).toNat : Int) = (n : Int) % 256 := by rw [← byteAt_spelt]; simp
  simp only [numBytes, bytesV, List.map_cons, List.map_nil]
  rw [e1, e2]

set_option maxRecDepth 100000 in
theorem Text_walk (r : List Nat) (a : Option Addr) (cap : Nat) (hn : r.length ≤ 1000) (hr : ∀ x ∈ r, x < 65536) (w : World) (hrd : Rd w a (u16V r)) :
    Calls Tryz.prog 103 #[.slice a r.length cap] w fun e w' => e = .returned (.string (str (textL r))) ∧ Below w.heap.size w w' := by
  obtain ⟨i0, hi, hz0, hz1, hz2⟩ := info_parts Tryz.info8
  go_enter Tryz.func103, Tryz.ntmps103
  go_wp2_with (at_make; refine wpList_make_own _ rfl _ _ 67 rfl w.heap.size 5 i0 (.int .u8 0) 1 Tryz.underlying67 hi hz0 hz1 .i64 .i64 _ (2 * r.length) rfl rfl ?c0 ?c1 ?c2 (Nat.le_refl _) ?_)
  case c0 => omega
  case c1 => rw [hz2]; omega
  case c2 => unfold maxLen; omega
  intro w1 hown1 hg1
  have hb1 : Below w.heap.size w w1 := (Below.refl _ w).grown hg1 (Nat.le_refl _) (by simp)
  clear hg1
  go_wp2_with fail
  go_loopw [3, 5, 12] (fun t _ i wr => ∃ k : Nat, k ≤ r.length ∧ i = .int .i64 (k : Int) ∧ wr.ownsRow w.heap.size 5 1 t (2 * k) (bytesV (textL (r.take k))) ∧ Below w.heap.size w wr)
    (fun _ _ i _ => r.length - (intOf i).toNat)
  case atStart => exact ⟨0, by omega, rfl, by simpa [textL, bytesV] using hown1, hb1⟩
  case round =>
    clear hown1 hb1
    obtain ⟨k, hk, rfl, hownr, hbl⟩ := hrel
    have hsz := hbl.size
    by_cases hlt : k < r.length
    · obtain ⟨b, off, rfl, hc0⟩ := hrd k (.int .u16 (r[k] : Int)) (by simp [u16V, hlt])
      have hc : wr.cell? ⟨b, off + k, none⟩ = some (.int .u16 (r[k] : Int)) := by
        rw [hbl.cell (World.block_lt_of_cell? w _ hc0)]; exact hc0
      have hrk := hr r[k] (List.getElem_mem hlt)
      clear hc0
      go_wp2_with (at_builtin; refine wpList_append_own _ rfl _ _ 67 rfl w.heap.size 5 i0 (.int .u8 0) 1 1 Tryz.underlying67 hi hz0 hz1 hz2 rfl (by decide) _ _ _ rfl (hownr.alloc _) ⟨wr.heap.size, 0, none⟩ 2 2 [.int .u8 ((r[k] : Int) / 256), .int .u8 ((r[k] : Int) % 256)] rfl rfl (two_new _ _ _ _) ?c3 ?c4 ?c5 ?c6 ?_)
      case c3 => intro u hu; simp at hu; rcases hu with rfl | rfl <;> rfl
      case c4 => unfold maxLen; omega
      case c5 => omega
      case c6 => simp; omega
      · intro v' w2 hown' hgrow _
        have hB := below_step hbl (by omega) hownr hgrow
        have hown2 : w2.ownsRow w.heap.size 5 1 v' (2 * (k + 1)) (bytesV (textL (r.take (k + 1)))) := by
          rw [take_snoc r k hlt, textL_snoc, bytesV_append, bytes2 _ hrk]
          exact hown'
        clear hown' hgrow hownr
        go_wp2_with fail
        go_roundw
        case rel => exact ⟨k + 1, by omega, by go_num, hown2, hB⟩
        case measure => simp [intOf]; omega
    · obtain rfl : k = r.length := by omega
      have hc := owned_string hownr
      rw [List.take_length] at hc
      clear hownr
      go_wp2_with fail
      go_ret
      exact ⟨rfl, hbl⟩
end Go.Proofs.YtonjphollmdicaaGreatDoor
