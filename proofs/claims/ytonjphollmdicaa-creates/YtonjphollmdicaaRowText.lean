import Derived.Test.YtonjphollmdicaaBodies

import Derived.RegionTactic
import Derived.ChangeAlike
import Derived.BigRegion
namespace Go.Proofs.Ytonjphollmdicaa
open Go.ChangeShapes Go.WideShapes Go.ChangeAt Go.RowKit

def u16V (l : List Nat) : List Value := l.map fun (n : Nat) => Value.int .u16 (n : Int)
def numAt (l : List UInt8) (i : Nat) : Nat := (l[2 * i]?.getD 0).toNat * 256 + (l[2 * i + 1]?.getD 0).toNat
def rowL (l : List UInt8) : List Nat := (List.range (l.length / 2)).map (numAt l)
def textL (r : List Nat) : List UInt8 := r.flatMap fun n => numBytes n 2

theorem Try.info16 : (Try.prog.info? 22).map (fun i => (i.zero, i.size, i.bytes)) = some (some (.int .u16 0), 1, 2) := by kernel_rfl

theorem numAt_lt (l : List UInt8) (i : Nat) : numAt l i < 65536 := by
  unfold numAt
  have h1 := (l[2 * i]?.getD 0).toNat_lt
  have h2 := (l[2 * i + 1]?.getD 0).toNat_lt
  omega
theorem rowL_length (l : List UInt8) : (rowL l).length = l.length / 2 := by simp [rowL]

theorem numAt_spelt (l : List UInt8) (k : Nat) :
    bits BinOp.or IntKind.u16 (IntKind.u16.wrap (IntKind.u16.wrap ((l[2 * k]?.getD 0).toNat : Int) * 256)) (IntKind.u16.wrap ((l[2 * k + 1]?.getD 0).toNat : Int)) = ((numAt l k : Nat) : Int) := by
  have h1 := (l[2 * k]?.getD 0).toNat_lt
  have h2 := (l[2 * k + 1]?.getD 0).toNat_lt
  unfold numAt
  generalize (l[2 * k]?.getD 0).toNat = a at *
  generalize (l[2 * k + 1]?.getD 0).toNat = b at *
  have e1 : IntKind.u16.wrap (IntKind.u16.wrap (a : Int) * 256) = ((a * 256 : Nat) : Int) := by rw [IntKind.wrap_u16, IntKind.wrap_u16]; omega
  have e2 : IntKind.u16.wrap (b : Int) = (b : Int) := by rw [IntKind.wrap_u16]; omega
  rw [e1, e2, u16_or_nat (a * 256) b (by omega) (by omega)]
  have h3 := Nat.two_pow_add_eq_or_of_lt (i := 8) (b := b) (by omega) a
  rw [show a * 256 = 2 ^ 8 * a from by omega, ← h3]

theorem index_str (l : List UInt8) (j : Nat) (i : Int) (hi : i = (j : Int)) (hj : j < l.length) (W : World) :
    (Instr.index 9 (.string (str l)) (.int .i64 i)).run Try.prog W = .ok (.int .u8 ((l[j]?.getD 0).toNat : Int)) W := by
  subst hi
  have hs : j < (str l).size := by rw [str_size]; exact hj
  rw [run_index_string W 9 (str l) .i64 (j : Int) Try.underlying9, dif_pos ⟨by omega, by omega⟩]
  have e : ((str l)[((j : Int)).toNat]'(by omega)) = l[j]?.getD 0 := by
    have h2 : ((j : Int)).toNat = j := by omega
    simp only [h2]
    rw [List.getElem?_eq_getElem hj]
    rfl
  rw [e]

set_option maxRecDepth 100000 in
set_option maxHeartbeats 1000000 in
theorem ReadRow_walk (l : List UInt8) (hl : l.length ≤ 1000) (w : World) :
    Calls Try.prog 59 #[.string (str l)] w fun e w' => ∃ v', e = .returned v' ∧ w'.ownsRow w.heap.size 22 1 v' (l.length / 2) (u16V (rowL l)) ∧ Below w.heap.size w w' := by
  obtain ⟨i0, hi, hz0, hz1, hz2⟩ := info_parts Try.info16
  have hss : (str l).size = l.length := str_size l
  obtain ⟨n, hn⟩ : ∃ n, n = l.length / 2 := ⟨_, rfl⟩
  have hn2 : 2 * n ≤ l.length := by omega
  have e2 : ((l.length : Int) / 2) = (n : Int) := by omega
  rw [← hn]
  have HN := hid_of hn
  clear hn
  go_enter Try.func59, Try.ntmps59
  go_wp2_with (at_make; refine wpList_make_full _ rfl _ _ 79 rfl w.heap.size 22 i0 (.int .u16 0) 1 Try.underlying79 hi hz0 hz1 .i64 .i64 _ _ n rfl rfl ?c0 ?c0b ?c1 ?c2 (Nat.le_refl _) ?_)
  case c0 => first | rfl | omega
  case c0b => first | rfl | omega
  case c1 => rw [hz2]; omega
  case c2 => unfold maxLen; omega
  intro w1 hown1 hg1
  have hb1 : Below w.heap.size w w1 := (Below.refl _ w).grown hg1 (Nat.le_refl _) (by simp)
  clear hg1
  have HE := hid_of e2
  clear e2
  go_wp2_with fail
  go_loopw [4, 11] (fun _ i wr => ∃ (k : Nat) (zs : List Nat), k ≤ n ∧ i = .int .i64 (k : Int) ∧ wr.ownsRow w.heap.size 22 1 (.slice (some ⟨w.heap.size, 0, none⟩) n n) n (u16V zs) ∧ Below w.heap.size w wr ∧ Hid (zs.take k = (rowL l).take k))
    (fun _ i _ => n - (intOf i).toNat)
  case atStart => exact ⟨0, List.replicate n 0, by omega, rfl, by simpa [u16V, toList_madeCells_one] using hown1, hb1, hid_of (by simp)⟩
  case round =>
    clear hown1 hb1
    obtain ⟨k, zs, hk, rfl, hownr, hbl, hzs⟩ := hrel
    have hzl : zs.length = n := by have := hownr.1; simpa [u16V] using this
    by_cases hlt : k < n
    · have hcell : wr.cell? ⟨w.heap.size, k, none⟩ = some (.int .u16 (zs[k] : Int)) := by
        rw [hownr.cellAt k (by omega)]; simp [u16V, hzl, hlt]
      have hfz := hownr.frozenAt k
      have i1 := index_str l (2 * k) (2 * (k : Int)) (by omega) (by omega)
      have i2 := index_str l (2 * k + 1) (2 * (k : Int) + 1) (by omega) (by omega)
      have hst := (hownr.stored k (.int .u16 ((numAt l k : Nat) : Int))).1
      have hown' : (wr.setCell ⟨w.heap.size, k, none⟩ (.int .u16 ((numAt l k : Nat) : Int))).ownsRow w.heap.size 22 1 (.slice (some ⟨w.heap.size, 0, none⟩) n n) n (u16V (zs.set k (numAt l k))) := by
        have e : u16V (zs.set k (numAt l k)) = (u16V zs).set k (.int .u16 ((numAt l k : Nat) : Int)) := by simp [u16V, List.map_set]
        rw [e]; exact hst
      have hB := hbl.setCell (p := ⟨w.heap.size, k, none⟩) (Nat.le_refl _) (.int .u16 ((numAt l k : Nat) : Int))
      have hset : (zs.set k (numAt l k)).take (k + 1) = (rowL l).take (k + 1) := by
        rw [take_snoc _ k (by simpa using (by omega : k < zs.length)), take_snoc _ k (by rw [rowL_length, ← HN.out]; exact hlt)]
        rw [List.take_set_of_le (Nat.le_refl _), hzs.out]
        congr 2
        rw [List.getElem_set_self]
        simp [rowL]
      have HS := hid_of hset
      have HO := hid_of hown'
      have HB := hid_of hB
      clear hset hown' hB hst hownr hzs
      go_wp2_with fail
      go_region
      rw [numAt_spelt]
      clear i1 i2
      go_wp2_with fail
      go_roundw
      case rel => exact ⟨k + 1, zs.set k (numAt l k), by omega, by go_num, HO.out.drew, HB.out.drew, HS⟩
      case measure => simp [intOf]; omega
    · obtain rfl : k = n := by omega
      have := hzs.out
      rw [← hzl, List.take_length, hzl, List.take_of_length_le (by rw [rowL_length, ← HN.out]; exact Nat.le_refl _)] at this
      subst this
      go_wp2_with fail
      go_ret
      exact ⟨_, rfl, hownr, hbl⟩

theorem textL_snoc (l : List Nat) (h : Nat) : textL (l ++ [h]) = textL l ++ numBytes h 2 := by simp [textL]

theorem two_new (w : World) (x y : Value) (t : TypeId) : ∀ j u, [x, y][j]? = some u → (w.alloc (.cells #[x, y] t)).cell? ((⟨w.heap.size, 0, none⟩ : Addr).add j) = some u := by
  intro j u hj
  rcases j with _ | _ | j
  · simp at hj; subst hj; simp [Addr.add]
  · simp at hj; subst hj; simp [Addr.add]
  · simp at hj

theorem bytes2 (n : Nat) (h : n < 65536) : bytesV (numBytes n 2) = [.int .u8 ((n : Int) / 256), .int .u8 ((n : Int) % 256)] := by
  have e1 : ((byteAt n 1).toNat : Int) = (n : Int) / 256 := by rw [← byteAt_spelt]; simp; omega
  have e2 : ((byteAt n 0).toNat : Int) = (n : Int) % 256 := by rw [← byteAt_spelt]; simp
  simp only [numBytes, bytesV, List.map_cons, List.map_nil]
  rw [e1, e2]

set_option maxRecDepth 100000 in
theorem Text_walk (r : List Nat) (a : Option Addr) (cap : Nat) (hn : r.length ≤ 1000) (hr : ∀ x ∈ r, x < 65536) (w : World) (hrd : Rd w a (u16V r)) :
    Calls Try.prog 51 #[.slice a r.length cap] w fun e w' => e = .returned (.string (str (textL r))) ∧ Below w.heap.size w w' := by
  obtain ⟨i0, hi, hz0, hz1, hz2⟩ := info_parts Try.info8
  go_enter Try.func51, Try.ntmps51
  go_wp2_with (at_make; refine wpList_make_own _ rfl _ _ 83 rfl w.heap.size 5 i0 (.int .u8 0) 1 Try.underlying83 hi hz0 hz1 .i64 .i64 _ (2 * r.length) rfl rfl ?c0 ?c1 ?c2 (Nat.le_refl _) ?_)
  case c0 => omega
  case c1 => rw [hz2]; omega
  case c2 => unfold maxLen; omega
  intro w1 hown1 hg1
  have hb1 : Below w.heap.size w w1 := (Below.refl _ w).grown hg1 (Nat.le_refl _) (by simp)
  clear hg1
  go_wp2_with fail
  go_loopw [3, 5, 12] (fun t _ i wr => ∃ k : Nat, k ≤ r.length ∧ i = .int .i64 (k : Int) ∧ wr.ownsRow w.heap.size 5 1 t (2 * k) (bytesV (textL (r.take k))) ∧ Below w.heap.size w wr)
    (fun _ _ i _ => r.length - (intOf i).toNat)
  case atStart => exact ⟨0, by omega, rfl, by simpa [textL, bytesV] using hown1, hb1⟩
  case round =>
    clear hown1 hb1
    obtain ⟨k, hk, rfl, hownr, hbl⟩ := hrel
    have hsz := hbl.size
    by_cases hlt : k < r.length
    · obtain ⟨b, off, rfl, hc0⟩ := hrd k (.int .u16 (r[k] : Int)) (by simp [u16V, hlt])
      have hc : wr.cell? ⟨b, off + k, none⟩ = some (.int .u16 (r[k] : Int)) := by
        rw [hbl.cell (World.block_lt_of_cell? w _ hc0)]; exact hc0
      have hrk := hr r[k] (List.getElem_mem hlt)
      clear hc0
      go_wp2_with (at_builtin; refine wpList_append_own _ rfl _ _ 83 rfl w.heap.size 5 i0 (.int .u8 0) 1 1 Try.underlying83 hi hz0 hz1 hz2 rfl (by decide) _ _ _ rfl (hownr.alloc _) ⟨wr.heap.size, 0, none⟩ 2 2 [.int .u8 ((r[k] : Int) / 256), .int .u8 ((r[k] : Int) % 256)] rfl rfl (two_new _ _ _ _) ?c3 ?c4 ?c5 ?c6 ?_)
      case c3 => intro u hu; simp at hu; rcases hu with rfl | rfl <;> rfl
      case c4 => unfold maxLen; omega
      case c5 => omega
      case c6 => simp; omega
      · intro v' w2 hown' hgrow _
        have hB := below_step hbl (by omega) hownr hgrow
        have hown2 : w2.ownsRow w.heap.size 5 1 v' (2 * (k + 1)) (bytesV (textL (r.take (k + 1)))) := by
          rw [take_snoc r k hlt, textL_snoc, bytesV_append, bytes2 _ hrk]
          exact hown'
        clear hown' hgrow hownr
        go_wp2_with fail
        go_roundw
        case rel => exact ⟨k + 1, by omega, by go_num, hown2, hB⟩
        case measure => simp [intOf]; omega
    · obtain rfl : k = r.length := by omega
      have hc := owned_string hownr
      rw [List.take_length] at hc
      clear hownr
      go_wp2_with fail
      go_ret
      exact ⟨rfl, hbl⟩
end Go.Proofs.Ytonjphollmdicaa
