import Derived.Test.YtonjphollmdicaaGreatDoorB06
import Derived.Deep.RegionWith
namespace Go.Proofs.YtonjphollmdicaaGreatDoor
open Go.ChangeShapes Go.WideShapes Go.ChangeAt Go.RowKit

/-- rows of numbers, each behind a slice of its own -/
def RdRows (w : World) (a : Option Addr) (rows : List (List Nat)) : Prop :=
  ∀ k r, rows[k]? = some r → ∃ b off a' cap', a = some ⟨b, off, none⟩ ∧ w.cell? ⟨b, off + k, none⟩ = some (.slice a' r.length cap') ∧ Rd w a' (u16V r)

theorem RdRows.later {w w' : World} {a : Option Addr} {rows : List (List Nat)} (h : RdRows w a rows) {B : Nat} (hB : w.heap.size ≤ B) (hb : Below B w w') : RdRows w' a rows := by
  intro k r hk
  obtain ⟨b, off, a', cap', rfl, hc, hr⟩ := h k r hk
  refine ⟨b, off, a', cap', rfl, ?_, hr.later hB hb⟩
  rw [hb.cell (Nat.lt_of_lt_of_le (World.block_lt_of_cell? w _ hc) hB)]
  exact hc

def accL (rows : List (List Nat)) (ws : List Nat) (k p : Nat) : Nat := (List.range k).foldl (fun acc j => acc ^^^ Math.mul (ws.getD j 0) ((rows.getD j []).getD p 0)) 0
def mixL (rows : List (List Nat)) (ws : List Nat) (width : Nat) : List Nat := (List.range width).map (accL rows ws rows.length)

theorem accL_succ (rows : List (List Nat)) (ws : List Nat) (k p : Nat) : accL rows ws (k + 1) p = accL rows ws k p ^^^ Math.mul (ws.getD k 0) ((rows.getD k []).getD p 0) := by
  unfold accL
  rw [List.range_succ, List.foldl_append]
  rfl
theorem accL_lt {rows : List (List Nat)} {ws : List Nat} (hw : ∀ x ∈ ws, x < 65536) (k p : Nat) : accL rows ws k p < 65536 := by
  unfold accL
  exact foldl_lt _ (fun _ _ h => xor_lt16 h (Math.mul_lt (getD_lt hw _) _)) _ _ (by decide)

set_option maxRecDepth 100000 in
set_option maxHeartbeats 4000000 in
theorem Mix_walk (rows : List (List Nat)) (ws : List Nat) (width : Nat) (a1 a2 : Option Addr) (c1 c2 : Nat) (hn : rows.length ≤ 1000) (hws : ws.length = rows.length) (hwd : width ≤ 1000) (hr : ∀ r ∈ rows, r.length = width ∧ ∀ x ∈ r, x < 65536) (hw : ∀ x ∈ ws, x < 65536)
    (w : World) (hrd1 : RdRows w a1 rows) (hrd2 : Rd w a2 (u16V ws)) :
    Calls Tryz.prog 121 #[.slice a1 rows.length c1, .slice a2 rows.length c2, .int .i64 (width : Int)] w fun e w' => ∃ v', e = .returned v' ∧ w'.ownsRow w.heap.size 80 1 v' width (u16V (mixL rows ws width)) ∧ Below w.heap.size w w' := by
  obtain ⟨i0, hi, hz0, hz1, hz2⟩ := info_parts Tryz.info16
  go_enter Tryz.func121, Tryz.ntmps121
  go_wp2_with (at_make; refine wpList_make_full _ rfl _ _ 167 rfl w.heap.size 80 i0 (.int .u16 0) 1 Tryz.underlying167 hi hz0 hz1 .i64 .i64 _ _ width rfl rfl rfl rfl ?c1 ?c2 (Nat.le_refl _) ?_)
  case c1 => rw [hz2]; omega
  case c2 => unfold maxLen; omega
  intro w1 hown1 hg1
  have hb1 : Below w.heap.size w w1 := (Below.refl _ w).grown hg1 (Nat.le_refl _) (by simp)
  have hown1' : w1.ownsRow w.heap.size 80 1 (.slice (some ⟨w.heap.size, 0, none⟩) width width) width (u16V ((List.range width).map (accL rows ws 0))) := by
    have e : (List.range width).map (accL rows ws 0) = List.replicate width 0 := by
      apply List.ext_getElem
      · simp
      · intro j h1 h2; simp [accL]
    rw [e]
    simpa [u16V, toList_madeCells_one] using hown1
  clear hg1 hown1
  go_wp2_with fail
  go_loopw [8, 9, 10, 15] (fun _ _ _ i wr => ∃ k : Nat, k ≤ rows.length ∧ i = .int .i64 (k : Int) ∧ wr.ownsRow w.heap.size 80 1 (.slice (some ⟨w.heap.size, 0, none⟩) width width) width (u16V ((List.range width).map (accL rows ws k))) ∧ Below w.heap.size w wr)
    (fun _ _ _ i _ => rows.length - (intOf i).toNat)
  case atStart => exact ⟨0, by omega, rfl, hown1', hb1⟩
  case round =>
    clear hown1' hb1
    obtain ⟨k, hk, rfl, hownr, hbl⟩ := hrel
    by_cases hlt : k < rows.length
    · obtain ⟨b1, off1, a3, c3, rfl, hcr0, hrow⟩ := hrd1 k rows[k] (List.getElem?_eq_getElem hlt)
      have hcr : wr.cell? ⟨b1, off1 + k, none⟩ = some (.slice a3 width c3) := by
        rw [hbl.cell (World.block_lt_of_cell? w _ hcr0), hcr0, (hr rows[k] (List.getElem_mem hlt)).1]
      have hrl := (hr rows[k] (List.getElem_mem hlt)).1
      have hrx := (hr rows[k] (List.getElem_mem hlt)).2
      have hpart : (List.range width).map (accL rows ws k) = partL width 0 (accL rows ws (k + 1)) (accL rows ws k) := by rw [partL_zero]
      rw [hpart] at hownr
      have HA := hid_of hownr
      have HBL := hid_of hbl
      have HR1 := hid_of hrd1
      clear hownr hpart hcr0 hrd1
      obtain ⟨wo, hwo⟩ : ∃ x, x = wr := ⟨_, rfl⟩
      subst hwo
      go_wp2_with fail
      go_loopw [10, 22] (fun _ i wr => ∃ q : Nat, q ≤ width ∧ i = .int .i64 (q : Int) ∧ wr.ownsRow w.heap.size 80 1 (.slice (some ⟨w.heap.size, 0, none⟩) width width) width (u16V (partL width q (accL rows ws (k + 1)) (accL rows ws k))) ∧ Below w.heap.size w wr)
        (fun _ i _ => width - (intOf i).toNat)
      case atStart => exact ⟨0, by omega, rfl, HA.out, HBL.out⟩
      case round =>
        clear HA HBL hbl hcr
        obtain ⟨q, hq, rfl, hownr, hbl⟩ := hrel
        by_cases hql : q < width
        · obtain ⟨b2, off2, rfl, hcw0⟩ := u16_get hrd2 k (by omega)
          obtain ⟨b3, off3, rfl, hcq0⟩ := u16_get hrow q (by omega)
          have hcw : wr.cell? ⟨b2, off2 + k, none⟩ = some (.int .u16 ((ws.getD k 0 : Nat) : Int)) := by
            rw [hbl.cell (World.block_lt_of_cell? w _ hcw0)]; exact hcw0
          have hcq : wr.cell? ⟨b3, off3 + q, none⟩ = some (.int .u16 ((rows[k].getD q 0 : Nat) : Int)) := by
            rw [hbl.cell (World.block_lt_of_cell? w _ hcq0)]; exact hcq0
          have hcs : wr.cell? ⟨w.heap.size, q, none⟩ = some (.int .u16 ((accL rows ws k q : Nat) : Int)) := by
            rw [hownr.cellAt q (by omega)]
            have := partL_getD width q (accL rows ws (k + 1)) (accL rows ws k) q hql
            rw [if_neg (by omega)] at this
            rw [← this]
            simp [u16V, partL_length, hql]
          have hfz := hownr.frozenAt q
          have hst := (hownr.stored q (.int .u16 ((accL rows ws (k + 1) q : Nat) : Int))).1
          have hown' : (wr.setCell ⟨w.heap.size, q, none⟩ (.int .u16 ((accL rows ws (k + 1) q : Nat) : Int))).ownsRow w.heap.size 80 1 (.slice (some ⟨w.heap.size, 0, none⟩) width width) width (u16V (partL width (q + 1) (accL rows ws (k + 1)) (accL rows ws k))) := by
            rw [← partL_up]
            have e : u16V ((partL width q (accL rows ws (k + 1)) (accL rows ws k)).set q (accL rows ws (k + 1) q)) = (u16V (partL width q (accL rows ws (k + 1)) (accL rows ws k))).set q (.int .u16 ((accL rows ws (k + 1) q : Nat) : Int)) := by simp [u16V, List.map_set]
            rw [e]; exact hst
          have hB' := hbl.setCell (p := ⟨w.heap.size, q, none⟩) (Nat.le_refl _) (.int .u16 ((accL rows ws (k + 1) q : Nat) : Int))
          have hsucc : accL rows ws (k + 1) q = accL rows ws k q ^^^ Math.mul (ws.getD k 0) (rows[k].getD q 0) := by
            rw [accL_succ]
            have e : rows.getD k [] = rows[k] := by simp [hlt]
            rw [e]
          have hal := accL_lt (rows := rows) hw k q
          have hwl := getD_lt hw k
          have hxl := getD_lt hrx q
          have HO := hid_of hown'
          have HBB := hid_of hB'
          have HOR := hid_of hownr
          clear hst hown' hB' hownr hcw0 hcq0
          obtain ⟨wk, hwk⟩ : ∃ x, x = ws.getD k 0 := ⟨_, rfl⟩
          obtain ⟨xq, hxq⟩ : ∃ x, x = rows[k].getD q 0 := ⟨_, rfl⟩
          obtain ⟨aq, haq⟩ : ∃ x, x = accL rows ws k q := ⟨_, rfl⟩
          rw [← hwk] at hcw hwl hsucc
          rw [← hxq] at hcq hxl hsucc
          rw [← haq] at hcs hal hsucc
          have hml : Math.mul wk xq < 65536 := Math.mul_lt hwl _
          have hx := xor16 aq (Math.mul wk xq) hal hml
          have HSU := hid_of hsucc
          have HRD2 := hid_of hrd2
          have HROW := hid_of hrow
          clear hwk hxq haq hsucc hrd2 hrow
          go_wp2_with fail
          go_region_with (go_at_call 60; refine (Times_walk wk xq hwl hxl _).mono ?_; rintro e w' ⟨rfl, rfl⟩)
          all_goals
            rw [← HSU.out]
            go_wp2_with fail
            go_roundw
            case rel => exact ⟨q + 1, by omega, by go_num, HO.out.drew, HBB.out.drew⟩
            case measure => simp [intOf]; omega
        · obtain rfl : q = width := by omega
          rw [partL_full] at hownr
          go_wp2_with fail
          go_roundw
          case rel => exact ⟨k + 1, by omega, by go_num, hownr, hbl⟩
          case measure => simp [intOf]; omega
    · obtain rfl : k = rows.length := by omega
      go_wp2_with fail
      go_ret
      exact ⟨_, rfl, hownr, hbl⟩
end Go.Proofs.YtonjphollmdicaaGreatDoor
