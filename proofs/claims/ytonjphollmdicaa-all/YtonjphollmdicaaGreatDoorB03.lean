import Derived.Test.YtonjphollmdicaaGreatDoorB01
import Derived.Test.YtonjphollmdicaaGreatDoorB02
import Derived.Laws.DeepStrings4
import Derived.RegionTactic
import Derived.ChangeAlike
import Derived.BigRegion
import Derived.Deep.QuietTactic
import Derived.BigQuiet
import Derived.Deep.OwnRows
import Derived.Deep.RegionWith
import Derived.Laws.AppendOwnNone
set_option maxRecDepth 100000
set_option maxHeartbeats 4000000
set_option linter.unusedSimpArgs false
namespace Go.Proofs.YtonjphollmdicaaGreatDoor
open Go.ChangeShapes Go.WideShapes Go.ChangeAt Go.RowKit
def LX (data : List UInt8) (size : Nat) : List UInt8 := data ++ List.replicate (Aj data.length size * size - data.length) 0
def Ek (l : List UInt8) (size i : Nat) : List UInt8 := (l.drop (i * size)).take size
def C8 (data : List UInt8) (size : Nat) : List (List UInt8) := (List.range (Aj data.length size)).map (Ek (LX data size) size)
theorem Tryz.infoS : (Tryz.prog.info? 9).map (fun i => (i.zero, i.size, i.bytes)) = some (some (.string ByteArray.empty), 1, 16) := by kernel_rfl
def JD : Prop := ∀ (c : Nat) (w : World), c ≤ 1000 → Calls Tryz.prog 112 #[.string ⟨#[0]⟩, .int .i64 (c : Int)] w fun e w' => e = .returned (.string (str (List.replicate c 0))) ∧ Below w.heap.size w w'
theorem Ff (len size : Nat) (h : 0 < size) : len ≤ Aj len size * size := by
 unfold Aj
 have h1 := Nat.div_add_mod (len + size - 1) size
 have h2 := Nat.mod_lt (len + size - 1) h
 rw [Nat.mul_comm] at h1
 omega
theorem Lf (len size : Nat) : Aj len size * size ≤ len + size - 1 := by
 unfold Aj
 exact Nat.div_mul_le_self _ _
theorem AB (l : List UInt8) (a b : Nat) : (str l).extract a b = str ((l.drop a).take (b - a)) := by
 apply ByteArray.ext
 simp [str, ByteArray.data_extract]
theorem JQ (m : Nat) (h : m ≤ 1000000) : wrap64 ((m : Nat) : Int) = (m : Int) := by unfold wrap64; omega
theorem On (k size : Nat) (h : k * size ≤ 1000000) : wrap64 ((k : Int) * (size : Int)) = ((k * size : Nat) : Int) := by
 rw [← Int.natCast_mul, JQ _ h]
theorem Mc (k size : Nat) (h : (k + 1) * size ≤ 1000000) : wrap64 (((k : Int) + 1) * (size : Int)) = (((k + 1) * size : Nat) : Int) := by
 have : ((k : Int) + 1) * (size : Int) = (((k + 1) * size : Nat) : Int) := by simp
 rw [this, JQ _ h]
theorem Qe (l : List UInt8) (n k size : Nat) (hk : k < n) (hn : n * size ≤ 1000) (hl : l.length = n * size) :
  Hid ((str l).extract (wrap64 ((k : Int) * (size : Int))).toNat (wrap64 (((k : Int) + 1) * (size : Int))).toNat = str (Ek l size k)) ∧
  0 ≤ wrap64 ((k : Int) * (size : Int)) ∧ wrap64 ((k : Int) * (size : Int)) ≤ wrap64 (((k : Int) + 1) * (size : Int)) ∧ wrap64 (((k : Int) + 1) * (size : Int)) ≤ ((str l).size : Int) := by
 have m1 : (k + 1) * size ≤ n * size := Nat.mul_le_mul_right _ hk
 have m2 : (k + 1) * size = k * size + size := Nat.succ_mul k size
 rw [On k size (by omega), Mc k size (by omega), Ae, hl]
 refine ⟨Aa ?_, by omega, Int.ofNat_le.2 (by omega), Int.ofNat_le.2 m1⟩
 rw [AB]
 unfold Ek
 have e3 : (((k + 1) * size : Nat) : Int).toNat - ((k * size : Nat) : Int).toNat = size := by rw [Int.toNat_natCast, Int.toNat_natCast, m2]; exact Nat.add_sub_cancel_left _ _
 rw [e3, Int.toNat_natCast]
theorem RN (data : List UInt8) (size n k : Nat) (zs : List (List UInt8)) (hn : n = Aj data.length size) (hz : zs.length = n) (hk : k < n) (h : zs.take k = (C8 data size).take k) :
  (zs.set k (Ek (LX data size) size k)).take (k + 1) = (C8 data size).take (k + 1) := by
 have hcl : (C8 data size).length = n := by unfold C8; rw [List.length_map, List.length_range]; exact hn.symm
 rw [Ap _ k (by simpa using (by omega : k < zs.length)), Ap _ k (by omega)]
 rw [List.take_set_of_le (Nat.le_refl _), h]
 congr 2
 rw [List.getElem_set_self]
 simp [C8]
theorem P7 (data : List UInt8) (size n : Nat) (h0 : 0 < size) (hn : n = Aj data.length size) : (LX data size).length = n * size := by
 have := Ff data.length size h0
 unfold LX
 rw [List.length_append, List.length_replicate, ← hn]
 rw [← hn] at this
 omega
theorem Q8 (hrep : JD) (data : List UInt8) (size : Nat) (h0 : 0 < size) (h1 : size ≤ 32) (hd : data.length ≤ 400) (w : World) :
  Calls Tryz.prog 122 #[.string (str data), .int .i64 (size : Int)] w fun e w' => ∃ v', e = .returned v' ∧ w'.ownsRow w.heap.size 9 1 v' (Aj data.length size) (AM (C8 data size)) ∧ Below w.heap.size w w' := by
 obtain ⟨i0, hi, hz0, hz1, hz2⟩ := info_parts Tryz.infoS
 have hsd : (str data).size = data.length := Ae data
 obtain ⟨n, hn⟩ : ∃ n, n = Aj data.length size := ⟨_, rfl⟩
 have hge := Ff data.length size h0
 have hlt := Lf data.length size
 have hnl := Bu data.length size h0
 rw [← hn] at hge hlt hnl
 have hns : n * size ≤ 432 := by omega
 have HN := Aa hn
 go_enter Tryz.func122, Tryz.ntmps122
 go_wp2_with fail
 refine (EP data.length size (by omega) h0 (by omega) w).mono ?_
 rintro e w' ⟨rfl, rfl⟩
 rw [← HN.out]
 clear hn
 have hw : ((n : Int) * (size : Int)) = ((n * size : Nat) : Int) := by simp
 have HW := Aa hw
 clear hw
 go_wp2_with fail
 rw [show ((n : Int) * (size : Int) - (data.length : Int)) = ((n * size - data.length : Nat) : Int) from by rw [HW.out]; omega]
 refine (hrep (n * size - data.length) w' (by omega)).mono ?_
 rintro e w1 ⟨rfl, hb1⟩
 have hps : (str (List.replicate (n * size - data.length) 0)).size = n * size - data.length := by rw [Ae, List.length_replicate]
 have hss : (str data).size + (str (List.replicate (n * size - data.length) 0)).size ≤ 9223372036854775807 := by rw [hps, hsd]; omega
 have hpad : str data ++ str (List.replicate (n * size - data.length) 0) = str (LX data size) := by
  rw [Iq, De]
  unfold LX
  rw [← HN.out]
 have hsz1 := hb1.size
 go_wp2_with (at_make; refine wpList_make_full _ rfl _ _ 23 rfl w'.heap.size 9 i0 (.string ByteArray.empty) 1 Tryz.underlying23 hi hz0 hz1 .i64 .i64 _ _ n rfl rfl rfl rfl ?c1 ?c2 ?c3 ?_)
 case c1 => rw [hz2]; omega
 case c2 => unfold maxLen; omega
 case c3 => exact hsz1
 intro w2 hown2 hg2
 have hb2 : Below w'.heap.size w' w2 := hb1.grown hg2 hsz1 (by simp)
 obtain ⟨g, hg⟩ : ∃ g, g = w1.heap.size := ⟨_, rfl⟩
 rw [← hg] at hown2 ⊢
 have hgw : w'.heap.size ≤ g := by omega
 clear hg2 hb1 hsz1 hg
 go_wp2_with fail
 go_loopw [8, 26] (fun _ i wr => ∃ (k : Nat) (zs : List (List UInt8)), k ≤ n ∧ i = .int .i64 (k : Int) ∧ wr.ownsRow w'.heap.size 9 1 (.slice (some ⟨g, 0, none⟩) n n) n (AM zs) ∧ Below w'.heap.size w' wr ∧ Hid (zs.take k = (C8 data size).take k))
  (fun _ i _ => n - (intOf i).toNat)
 case atStart => exact ⟨0, List.replicate n [], by omega, rfl, by simp only [AM, List.map_replicate, show str [] = ByteArray.empty from rfl]; simpa [toList_madeCells_one] using hown2, hb2, Aa (by simp)⟩
 case round =>
  clear hown2 hb2
  obtain ⟨k, zs, hk, rfl, hownr, hbl, hzs⟩ := hrel
  have hzl : zs.length = n := by have := hownr.1; simpa [AM] using this
  by_cases hkn : k < n
  ·have hcell : wr.cell? ⟨g, k, none⟩ = some (.string (str zs[k])) := by
    rw [hownr.cellAt k (by omega)]; simp [AM, hzl, hkn]
   have hfz := hownr.frozenAt k
   obtain ⟨EEX, b1, b2, b3⟩ := Qe (LX data size) n k size hkn (by omega) (P7 data size n h0 HN.out)
   have HSET := Aa (RN data size n k zs HN.out hzl hkn hzs.out)
   have hst := (hownr.stored k (.string (str (Ek (LX data size) size k)))).1
   have hown' : (wr.setCell ⟨g, k, none⟩ (.string (str (Ek (LX data size) size k)))).ownsRow w'.heap.size 9 1 (.slice (some ⟨g, 0, none⟩) n n) n (AM (zs.set k (Ek (LX data size) size k))) := by
    have e : AM (zs.set k (Ek (LX data size) size k)) = (AM zs).set k (.string (str (Ek (LX data size) size k))) := by simp [AM, List.map_set]
    rw [e]; exact hst
   have hB := hbl.setCell (p := ⟨g, k, none⟩) hgw (.string (str (Ek (LX data size) size k)))
   have HO := Aa hown'
   have HB := Aa hB
   clear hown' hB hst hownr hzs
   go_wp2_with fail
   rw [EEX.out]
   go_roundw
   case rel => exact ⟨k + 1, zs.set k (Ek (LX data size) size k), by omega, by go_num, HO.out, HB.out, HSET⟩
   case measure => simp [intOf]; omega
  ·obtain rfl : k = n := by omega
   have := hzs.out
   rw [← hzl, List.take_length, hzl, List.take_of_length_le (by unfold C8; rw [List.length_map, List.length_range, ← HN.out]; exact Nat.le_refl _)] at this
   subst this
   go_wp2_with fail
   go_ret
   exact ⟨_, rfl, by rw [← HN.out]; exact hownr, hbl⟩
theorem MT (c : Nat) : Lib.repeatL [0] c = List.replicate c 0 := by
 induction c with
 | zero => rfl
 | succ c ih => simp only [Lib.repeatL, ih, List.replicate_succ]; rfl
theorem Ig : JD := by
 intro c w hc
 have h := Tryz.strings_Repeat ⟨#[0]⟩ c w (by omega) (by
  have : (ByteArray.mk #[0]).size = 1 := rfl
  rw [this]; omega)
 have e : (ByteArray.mk #[0]).data.toList = [0] := rfl
 rw [e, MT] at h
 exact h
theorem Ta (data : List UInt8) (size : Nat) (h0 : 0 < size) (h1 : size ≤ 32) (hd : data.length ≤ 400) (w : World) :
  Calls Tryz.prog 122 #[.string (str data), .int .i64 (size : Int)] w fun e w' => ∃ v', e = .returned v' ∧ w'.ownsRow w.heap.size 9 1 v' (Aj data.length size) (AM (C8 data size)) ∧ Below w.heap.size w w' :=
 Q8 Ig data size h0 h1 hd w
def A9 (l : List Nat) : List Value := l.map fun (n : Nat) => Value.int .u16 (n : Int)
def E7 (l : List UInt8) (i : Nat) : Nat := (l[2 * i]?.getD 0).toNat * 256 + (l[2 * i + 1]?.getD 0).toNat
def C7 (l : List UInt8) : List Nat := (List.range (l.length / 2)).map (E7 l)
def Cx (r : List Nat) : List UInt8 := r.flatMap fun n => Af n 2
theorem Tryz.info16 : (Tryz.prog.info? 80).map (fun i => (i.zero, i.size, i.bytes)) = some (some (.int .u16 0), 1, 2) := by kernel_rfl
theorem Nl (l : List UInt8) (i : Nat) : E7 l i < 65536 := by
 unfold E7
 have h1 := (l[2 * i]?.getD 0).toNat_lt
 have h2 := (l[2 * i + 1]?.getD 0).toNat_lt
 omega
theorem BK (l : List UInt8) : (C7 l).length = l.length / 2 := by simp [C7]
theorem LZ (l : List UInt8) (k : Nat) :
  bits BinOp.or IntKind.u16 (IntKind.u16.wrap (IntKind.u16.wrap ((l[2 * k]?.getD 0).toNat : Int) * 256)) (IntKind.u16.wrap ((l[2 * k + 1]?.getD 0).toNat : Int)) = ((E7 l k : Nat) : Int) := by
 have h1 := (l[2 * k]?.getD 0).toNat_lt
 have h2 := (l[2 * k + 1]?.getD 0).toNat_lt
 unfold E7
 generalize (l[2 * k]?.getD 0).toNat = a at *
 generalize (l[2 * k + 1]?.getD 0).toNat = b at *
 have e1 : IntKind.u16.wrap (IntKind.u16.wrap (a : Int) * 256) = ((a * 256 : Nat) : Int) := by rw [IntKind.wrap_u16, IntKind.wrap_u16]; omega
 have e2 : IntKind.u16.wrap (b : Int) = (b : Int) := by rw [IntKind.wrap_u16]; omega
 rw [e1, e2, u16_or_nat (a * 256) b (by omega) (by omega)]
 have h3 := Nat.two_pow_add_eq_or_of_lt (i := 8) (b := b) (by omega) a
 rw [show a * 256 = 2 ^ 8 * a from by omega, ← h3]
theorem CA (l : List UInt8) (j : Nat) (i : Int) (hi : i = (j : Int)) (hj : j < l.length) (W : World) :
  (Instr.index 9 (.string (str l)) (.int .i64 i)).run Tryz.prog W = .ok (.int .u8 ((l[j]?.getD 0).toNat : Int)) W := by
 subst hi
 have hs : j < (str l).size := by rw [Ae]; exact hj
 rw [run_index_string W 9 (str l) .i64 (j : Int) Tryz.underlying9, dif_pos ⟨by omega, by omega⟩]
 have e : ((str l)[((j : Int)).toNat]'(by omega)) = l[j]?.getD 0 := by
  have h2 : ((j : Int)).toNat = j := by omega
  simp only [h2]
  rw [List.getElem?_eq_getElem hj]
  rfl
 rw [e]
theorem Fw (l : List UInt8) (hl : l.length ≤ 1000) (w : World) :
  Calls Tryz.prog 124 #[.string (str l)] w fun e w' => ∃ v', e = .returned v' ∧ w'.ownsRow w.heap.size 80 1 v' (l.length / 2) (A9 (C7 l)) ∧ Below w.heap.size w w' := by
 obtain ⟨i0, hi, hz0, hz1, hz2⟩ := info_parts Tryz.info16
 have hss : (str l).size = l.length := Ae l
 obtain ⟨n, hn⟩ : ∃ n, n = l.length / 2 := ⟨_, rfl⟩
 have hn2 : 2 * n ≤ l.length := by omega
 have e2 : ((l.length : Int) / 2) = (n : Int) := by omega
 rw [← hn]
 have HN := Aa hn
 clear hn
 go_enter Tryz.func124, Tryz.ntmps124
 go_wp2_with (at_make; refine wpList_make_full _ rfl _ _ 167 rfl w.heap.size 80 i0 (.int .u16 0) 1 Tryz.underlying167 hi hz0 hz1 .i64 .i64 _ _ n rfl rfl ?c0 ?c0b ?c1 ?c2 (Nat.le_refl _) ?_)
 case c0 => first | rfl | omega
 case c0b => first | rfl | omega
 case c1 => rw [hz2]; omega
 case c2 => unfold maxLen; omega
 intro w1 hown1 hg1
 have hb1 : Below w.heap.size w w1 := (Below.refl _ w).grown hg1 (Nat.le_refl _) (by simp)
 clear hg1
 have HE := Aa e2
 clear e2
 go_wp2_with fail
 go_loopw [4, 11] (fun _ i wr => ∃ (k : Nat) (zs : List Nat), k ≤ n ∧ i = .int .i64 (k : Int) ∧ wr.ownsRow w.heap.size 80 1 (.slice (some ⟨w.heap.size, 0, none⟩) n n) n (A9 zs) ∧ Below w.heap.size w wr ∧ Hid (zs.take k = (C7 l).take k))
  (fun _ i _ => n - (intOf i).toNat)
 case atStart => exact ⟨0, List.replicate n 0, by omega, rfl, by simpa [A9, toList_madeCells_one] using hown1, hb1, Aa (by simp)⟩
 case round =>
  clear hown1 hb1
  obtain ⟨k, zs, hk, rfl, hownr, hbl, hzs⟩ := hrel
  have hzl : zs.length = n := by have := hownr.1; simpa [A9] using this
  by_cases hlt : k < n
  ·have hcell : wr.cell? ⟨w.heap.size, k, none⟩ = some (.int .u16 (zs[k] : Int)) := by
    rw [hownr.cellAt k (by omega)]; simp [A9, hzl, hlt]
   have hfz := hownr.frozenAt k
   have i1 := CA l (2 * k) (2 * (k : Int)) (by omega) (by omega)
   have i2 := CA l (2 * k + 1) (2 * (k : Int) + 1) (by omega) (by omega)
   have hst := (hownr.stored k (.int .u16 ((E7 l k : Nat) : Int))).1
   have hown' : (wr.setCell ⟨w.heap.size, k, none⟩ (.int .u16 ((E7 l k : Nat) : Int))).ownsRow w.heap.size 80 1 (.slice (some ⟨w.heap.size, 0, none⟩) n n) n (A9 (zs.set k (E7 l k))) := by
    have e : A9 (zs.set k (E7 l k)) = (A9 zs).set k (.int .u16 ((E7 l k : Nat) : Int)) := by simp [A9, List.map_set]
    rw [e]; exact hst
   have hB := hbl.setCell (p := ⟨w.heap.size, k, none⟩) (Nat.le_refl _) (.int .u16 ((E7 l k : Nat) : Int))
   have hset : (zs.set k (E7 l k)).take (k + 1) = (C7 l).take (k + 1) := by
    rw [Ap _ k (by simpa using (by omega : k < zs.length)), Ap _ k (by rw [BK, ← HN.out]; exact hlt)]
    rw [List.take_set_of_le (Nat.le_refl _), hzs.out]
    congr 2
    rw [List.getElem_set_self]
    simp [C7]
   have HS := Aa hset
   have HO := Aa hown'
   have HB := Aa hB
   clear hset hown' hB hst hownr hzs
   go_wp2_with fail
   go_region
   rw [LZ]
   clear i1 i2
   go_wp2_with fail
   go_roundw
   case rel => exact ⟨k + 1, zs.set k (E7 l k), by omega, by go_num, HO.out.drew, HB.out.drew, HS⟩
   case measure => simp [intOf]; omega
  ·obtain rfl : k = n := by omega
   have := hzs.out
   rw [← hzl, List.take_length, hzl, List.take_of_length_le (by rw [BK, ← HN.out]; exact Nat.le_refl _)] at this
   subst this
   go_wp2_with fail
   go_ret
   exact ⟨_, rfl, hownr, hbl⟩
theorem Jl (l : List Nat) (h : Nat) : Cx (l ++ [h]) = Cx l ++ Af h 2 := by simp [Cx]
theorem IN (w : World) (x y : Value) (t : TypeId) : ∀ j u, [x, y][j]? = some u → (w.alloc (.cells #[x, y] t)).cell? ((⟨w.heap.size, 0, none⟩ : Addr).add j) = some u := by
 intro j u hj
 rcases j with _ | _ | j
 ·simp at hj; subst hj; simp [Addr.add]
 ·simp at hj; subst hj; simp [Addr.add]
 ·simp at hj
theorem SH (n : Nat) (h : n < 65536) : Bw (Af n 2) = [.int .u8 ((n : Int) / 256), .int .u8 ((n : Int) % 256)] := by
 have e1 : ((DD n 1).toNat : Int) = (n : Int) / 256 := by rw [← Ef]; simp; omega
 have e2 : ((DD n 0).toNat : Int) = (n : Int) % 256 := by rw [← Ef]; simp
 simp only [Af, Bw, List.map_cons, List.map_nil]
 rw [e1, e2]
theorem KG (r : List Nat) (a : Option Addr) (cap : Nat) (hn : r.length ≤ 1000) (hr : ∀ x ∈ r, x < 65536) (w : World) (hrd : Rd w a (A9 r)) :
  Calls Tryz.prog 103 #[.slice a r.length cap] w fun e w' => e = .returned (.string (str (Cx r))) ∧ Below w.heap.size w w' := by
 obtain ⟨i0, hi, hz0, hz1, hz2⟩ := info_parts Tryz.info8
 go_enter Tryz.func103, Tryz.ntmps103
 go_wp2_with (at_make; refine wpList_make_own _ rfl _ _ 67 rfl w.heap.size 5 i0 (.int .u8 0) 1 Tryz.underlying67 hi hz0 hz1 .i64 .i64 _ (2 * r.length) rfl rfl ?c0 ?c1 ?c2 (Nat.le_refl _) ?_)
 case c0 => omega
 case c1 => rw [hz2]; omega
 case c2 => unfold maxLen; omega
 intro w1 hown1 hg1
 have hb1 : Below w.heap.size w w1 := (Below.refl _ w).grown hg1 (Nat.le_refl _) (by simp)
 clear hg1
 go_wp2_with fail
 go_loopw [3, 5, 12] (fun t _ i wr => ∃ k : Nat, k ≤ r.length ∧ i = .int .i64 (k : Int) ∧ wr.ownsRow w.heap.size 5 1 t (2 * k) (Bw (Cx (r.take k))) ∧ Below w.heap.size w wr)
  (fun _ _ i _ => r.length - (intOf i).toNat)
 case atStart => exact ⟨0, by omega, rfl, by simpa [Cx, Bw] using hown1, hb1⟩
 case round =>
  clear hown1 hb1
  obtain ⟨k, hk, rfl, hownr, hbl⟩ := hrel
  have hsz := hbl.size
  by_cases hlt : k < r.length
  ·obtain ⟨b, off, rfl, hc0⟩ := hrd k (.int .u16 (r[k] : Int)) (by simp [A9, hlt])
   have hc : wr.cell? ⟨b, off + k, none⟩ = some (.int .u16 (r[k] : Int)) := by
    rw [hbl.cell (World.block_lt_of_cell? w _ hc0)]; exact hc0
   have hrk := hr r[k] (List.getElem_mem hlt)
   clear hc0
   go_wp2_with (at_builtin; refine wpList_append_own _ rfl _ _ 67 rfl w.heap.size 5 i0 (.int .u8 0) 1 1 Tryz.underlying67 hi hz0 hz1 hz2 rfl (by decide) _ _ _ rfl (hownr.alloc _) ⟨wr.heap.size, 0, none⟩ 2 2 [.int .u8 ((r[k] : Int) / 256), .int .u8 ((r[k] : Int) % 256)] rfl rfl (IN _ _ _ _) ?c3 ?c4 ?c5 ?c6 ?_)
   case c3 => intro u hu; simp at hu; rcases hu with rfl | rfl <;> rfl
   case c4 => unfold maxLen; omega
   case c5 => omega
   case c6 => simp; omega
   ·intro v' w2 hown' hgrow _
    have hB := Az hbl (by omega) hownr hgrow
    have hown2 : w2.ownsRow w.heap.size 5 1 v' (2 * (k + 1)) (Bw (Cx (r.take (k + 1)))) := by
     rw [Ap r k hlt, Jl, DL, SH _ hrk]
     exact hown'
    clear hown' hgrow hownr
    go_wp2_with fail
    go_roundw
    case rel => exact ⟨k + 1, by omega, by go_num, hown2, hB⟩
    case measure => simp [intOf]; omega
  ·obtain rfl : k = r.length := by omega
   have hc := Cd hownr
   rw [List.take_length] at hc
   clear hownr
   go_wp2_with fail
   go_ret
   exact ⟨rfl, hbl⟩
theorem KE (a b : List UInt8) : str a ++ str b = str (a ++ b) := by rw [Iq, De]
theorem BJ {B : Nat} {a w : World} (h : Below B a w) (n : Nat) : Below B a (w.drewN n) := ⟨h.os, h.tape, h.output, h.size, h.block⟩
def IV (fs : List Ak) (i : Nat) : Bool := match fs[i]? with
 | some f => BC (fs.take i) f.1
 | none => false
def DT (fs : List Ak) : Bool := (List.range fs.length).any (IV fs)
def A8 (l : List FoundL) : List Value := l.flatMap fun f => [.int .u8 (f.kind.toNat : Int), .int .u64 (f.set : Int), .string (str f.body)]
theorem G0 (l : List FoundL) (f : FoundL) : A8 (l ++ [f]) = A8 l ++ [.int .u8 (f.kind.toNat : Int), .int .u64 (f.set : Int), .string (str f.body)] := by simp [A8]
theorem IW : ∀ (k : Nat) (s : List UInt8), (FY k s).length ≤ k
 | 0, _ => by simp [FY]
 | k + 1, [] => by simp [FY]
 | k + 1, b :: r => by
  simp only [FY]
  cases h : Dv (b :: r) with
  | none => have := IW k r; simp only; omega
  | some x =>
   obtain ⟨f, n⟩ := x
   have := IW k ((b :: r).drop n)
   simp only [List.length_cons]
   omega
theorem IK (s : List UInt8) : (DQ s).length ≤ s.length := IW _ _
theorem Gh (vs : List (List UInt8)) (M : Nat) (h : ∀ v ∈ vs, v.length ≤ M) : (At vs).length ≤ vs.length * M := by
 induction vs with
 | nil => simp [At]
 | cons v r ih =>
  have h1 := ih (fun x hx => h x (List.mem_cons_of_mem _ hx))
  have h2 := h v (by simp)
  have h3 := IK v
  simp only [At, List.flatMap_cons, List.length_append, List.length_cons] at h1 ⊢
  rw [Nat.succ_mul]
  omega
theorem JF (vs : List (List UInt8)) (k : Nat) (h : k < vs.length) : At (vs.take (k + 1)) = At (vs.take k) ++ DQ vs[k] := by
 unfold At
 rw [Ap vs k h, List.flatMap_append]
 simp
theorem LH (w : World) (x y z : Value) (t : TypeId) : ∀ j u, [x, y, z][j]? = some u → (w.alloc (.cells #[x, y, z] t)).cell? ((⟨w.heap.size, 0, none⟩ : Addr).add j) = some u := by
 intro j u h
 rcases j with _ | _ | _ | j
 ·simp at h; subst h; simp [Addr.add]
 ·simp at h; subst h; simp [Addr.add]
 ·simp at h; subst h; simp [Addr.add]
 ·simp at h
def BW (f : FoundL) : Bool := f.kind == 77 && decide (3 ≤ f.body.length) && (Ay ((C0 (f.body.take 2) : Nat) : Int) && (AC f.body == f.set) && decide (1 ≤ (f.body.getD 2 0).toNat) && decide ((f.body.getD 2 0).toNat ≤ 6) && decide (f.body.length = 3 + 8 * (f.body.getD 2 0).toNat))
def AV (l : List FoundL) : Option FoundL := l.find? BW
theorem DN {w : World} {a : Option Addr} {l : List FoundL} (h : Rd w a (A8 l)) (k : Nat) (hk : k < l.length) :
  ∃ b off, a = some ⟨b, off, none⟩ ∧ w.cell? ⟨b, off + k * 3, none⟩ = some (.int .u8 (l[k].kind.toNat : Int)) ∧ w.cell? ⟨b, off + k * 3 + 1, none⟩ = some (.int .u64 (l[k].set : Int)) ∧ w.cell? ⟨b, off + k * 3 + 2, none⟩ = some (.string (str l[k].body)) := by
 have key : ∀ (l : List FoundL) (k : Nat) (hk : k < l.length), (A8 l)[k * 3]? = some (.int .u8 (l[k].kind.toNat : Int)) ∧ (A8 l)[k * 3 + 1]? = some (.int .u64 (l[k].set : Int)) ∧ (A8 l)[k * 3 + 2]? = some (.string (str l[k].body)) := by
  intro l
  induction l with
  | nil => intro k hk; simp at hk
  | cons f r ih =>
   intro k hk
   cases k with
   | zero => exact ⟨rfl, rfl, rfl⟩
   | succ k =>
    obtain ⟨h1, h2, h3⟩ := ih k (by simpa using hk)
    have e : A8 (f :: r) = [.int .u8 (f.kind.toNat : Int), .int .u64 (f.set : Int), .string (str f.body)] ++ A8 r := rfl
    rw [e, show (k + 1) * 3 = k * 3 + 3 from by omega]
    refine ⟨?_, ?_, ?_⟩
    ·rw [List.getElem?_append_right (by simp)]; exact h1
    ·rw [List.getElem?_append_right (by simp)]
     simpa using h2
    ·rw [List.getElem?_append_right (by simp)]
     simpa using h3
 obtain ⟨k1, k2, k3⟩ := key l k hk
 obtain ⟨b, off, e, h1⟩ := h _ _ k1
 obtain ⟨b', off', e', h2⟩ := h _ _ k2
 obtain ⟨b'', off'', e'', h3⟩ := h _ _ k3
 rw [e] at e' e''
 cases e'
 cases e''
 exact ⟨b, off, e, h1, by rw [Nat.add_assoc]; exact h2, by rw [Nat.add_assoc]; exact h3⟩
structure DescL where
 name : List UInt8
 long : Nat
 hash : Nat
 slices : List Nat
def Bp (s : List UInt8) : Nat := (s.getD 1 0).toNat
def BA (s : List UInt8) : Nat := C0 ((s.drop (2 + Bp s)).take 2)
def EG (s : List UInt8) : Nat := C0 ((s.drop (4 + Bp s)).take 8)
def Is (s : List UInt8) (i : Nat) : Nat := C0 ((s.drop (12 + Bp s + 8 * i)).take 8)
def Dj (s : List UInt8) (b : Nat) : Bool := decide (2 ≤ s.length) && decide (1 ≤ Bp s) && decide (Bp s ≤ 20) && decide (12 + Bp s ≤ s.length) && decide (BA s ≤ 400) && decide (s.length = 12 + Bp s + 8 * Aj (BA s) b)
def Hh (s : List UInt8) (b : Nat) : DescL := ⟨(s.drop 2).take (Bp s), BA s, EG s, (List.range (Aj (BA s) b)).map (Is s)⟩
def Hn (s : List UInt8) (b : Nat) : Option DescL := if Dj s b then some (Hh s b) else none
def Cf (set i hash : Nat) (f : FoundL) : Bool := f.kind == 70 && (f.set == set) && decide (1 ≤ f.body.length) && ((f.body.getD 0 0).toNat == i) && (AC f.body == hash)
def Bl (l : List FoundL) (set i hash b : Nat) : Option DescL := l.findSome? fun f => if Cf set i hash f then Hn f.body b else none
def D6 (name : List UInt8) (long hash : Nat) (fs : List Ak) : Nat := match fs.find? (fun f => f.1 == name) with
 | none => 3
 | some f => if f.2.length = long ∧ AC f.2 = hash then 1 else 2
theorem Jx (name : List UInt8) (long hash : Nat) (fs : List Ak) (k : Nat) (hk : k < fs.length) : D6 name long hash (fs.drop k) = if fs[k].1 = name then (if fs[k].2.length = long ∧ AC fs[k].2 = hash then 1 else 2) else D6 name long hash (fs.drop (k + 1)) := by
 rw [List.drop_eq_getElem_cons hk]
 unfold D6
 rw [List.find?_cons]
 by_cases h : fs[k].1 = name
 ·rw [if_pos h, beq_iff_eq.2 h]
 ·rw [if_neg h, beq_eq_false_iff_ne.2 h]
def GR (data : List UInt8) (b : Nat) : List UInt8 := data ++ List.replicate (b - 1) 0
def CP (data : List UInt8) (b at' : Nat) : List UInt8 := ((GR data b).drop at').take b
def Dh (b hash : Nat) (data : List UInt8) (from' : Nat) : Option (List UInt8) := ((List.range data.length).drop from').findSome? fun j => if AC (CP data b j) = hash then some (CP data b j) else none
def AL (fs : List Ak) (b hash : Nat) : Option (List UInt8) := fs.findSome? fun f => Dh b hash f.2 0
theorem AE {w : World} {base : Nat} {e : TypeId} {sz : Nat} {v : Value} {n : Nat} {xs : List Value} (h : w.ownsRow base e sz v n xs) : ∃ a cap, v = .slice a n cap ∧ Rd w a xs := by
 rcases h.2 with ⟨rfl, rfl⟩ | ⟨g, cap, cur, rfl, _, hg, _⟩
 ·have hx : xs = [] := List.eq_nil_of_length_eq_zero (by simpa using h.1)
  subst hx
  exact ⟨none, 0, rfl, fun k u hu => by simp at hu⟩
 ·refine ⟨some ⟨g, 0, none⟩, cap, rfl, fun k u hu => ⟨g, 0, rfl, ?_⟩⟩
  have := h.cells (g := g) rfl k u hu
  have hadd : (⟨g, 0, none⟩ : Addr).add k = ⟨g, 0 + k, none⟩ := by unfold Addr.add; split <;> simp_all
  rw [hadd] at this
  exact this
theorem GQ : ∀ (k : Nat) (s : List UInt8) (M : Nat), s.length ≤ M → ∀ f ∈ FY k s, f.body.length ≤ M
 | 0, _, _, _, f, hf => by simp [FY] at hf
 | k + 1, [], _, _, f, hf => by simp [FY] at hf
 | k + 1, b :: r, M, h, f, hf => by
  simp only [FY] at hf
  cases hr : Dv (b :: r) with
  | none =>
   rw [hr] at hf
   exact GQ k r M (by simp only [List.length_cons] at h; omega) f hf
  | some x =>
   obtain ⟨g, n⟩ := x
   rw [hr] at hf
   simp only [List.mem_cons] at hf
   rcases hf with rfl | hf
   ·unfold Dv at hr
    split at hr
    ·simp only [Option.some.injEq, Prod.mk.injEq] at hr
     rw [← hr.1]
     unfold Er
     simp only [List.length_take, List.length_drop]
     omega
    ·cases hr
   ·exact GQ k _ M (by rw [List.length_drop]; omega) f hf
theorem Js (vs : List (List UInt8)) (M : Nat) (h : ∀ v ∈ vs, v.length ≤ M) : ∀ f ∈ At vs, f.body.length ≤ M := by
 intro f hf
 unfold At at hf
 rw [List.mem_flatMap] at hf
 obtain ⟨v, hv, hf⟩ := hf
 exact GQ _ v M (h v hv) f hf
end Go.Proofs.YtonjphollmdicaaGreatDoor
