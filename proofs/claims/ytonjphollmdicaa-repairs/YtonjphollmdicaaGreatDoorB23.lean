import Derived.Test.YtonjphollmdicaaGreatDoorB21
import Derived.Test.YtonjphollmdicaaGreatDoorB22
namespace Go.Proofs.YtonjphollmdicaaGreatDoor
open Go.ChangeShapes Go.WideShapes Go.ChangeAt Go.RowKit
def mainL (size : Nat) (fs : List FileL) : List UInt8 := mainBodyL size ((bodiesL size fs).map hashL)
def setL (size : Nat) (fs : List FileL) : Nat := hashL (mainL size fs)
def fPacketsL (size : Nat) (fs : List FileL) : List (List UInt8) := (bodiesL size fs).map (sealL 70 (setL size fs))
def rPacketL (size : Nat) (fs : List FileL) (width j : Nat) : List UInt8 := sealL 82 (setL size fs) (extraBodyL j (textL (extraL (rowsL size fs) width j)))
def rPacketsL (size : Nat) (fs : List FileL) (width extra : Nat) : List (List UInt8) := (List.range extra).map (rPacketL size fs width)
def packetsL (size : Nat) (fs : List FileL) (extra : Nat) : List (List UInt8) := sealL 77 (setL size fs) (mainL size fs) :: (fPacketsL size fs ++ rPacketsL size fs (size / 2) extra)
theorem hashesL_len (l : List Nat) : (hashesL l).length = 8 * l.length := by
 induction l with
 | nil => rfl
 | cons x l ih => simp only [hashesL, List.flatMap_cons, List.length_append, numBytes_len, List.length_cons] at ih ⊢; omega
theorem mainL_len (size : Nat) (fs : List FileL) : (mainL size fs).length = 3 + 8 * fs.length := by
 unfold mainL mainBodyL
 simp only [List.length_append, numBytes_len, hashesL_len, List.length_map, bodiesL, List.length_range]
theorem bodyL_len (size : Nat) (fs : List FileL) (i : Nat) (h0 : 0 < size) : (bodyL size fs i).length = 12 + (fs.getD i ([], [])).1.length + 8 * slicesOfN (fs.getD i ([], [])).2.length size := by
 unfold bodyL fileBodyL fileHeadL
 simp only [List.length_append, numBytes_len, hashesL_len, List.length_map, (cutL_len _ size h0).1]
 omega
theorem textL_len (r : List Nat) : (textL r).length = 2 * r.length := by
 induction r with
 | nil => rfl
 | cons x l ih => simp only [textL, List.flatMap_cons, List.length_append, numBytes_len, List.length_cons] at ih ⊢; omega
theorem extraL_len (rows : List (List Nat)) (width j : Nat) : (extraL rows width j).length = width := by simp [extraL, mixL]
theorem extraL_lt (rows : List (List Nat)) (width j : Nat) : ∀ x ∈ extraL rows width j, x < 65536 := by
 intro x hx
 simp only [extraL, mixL, List.mem_map] at hx
 obtain ⟨p, _, rfl⟩ := hx
 exact accL_lt (weights_lt _ _ _ (scales_lt _)) _ _
theorem rowsL_ok (size : Nat) (fs : List FileL) (h0 : 0 < size) : ∀ r ∈ rowsL size fs, r.length = size / 2 ∧ ∀ x ∈ r, x < 65536 := by
 intro r hr
 simp only [rowsL, slicesL, List.mem_map, List.mem_flatMap] at hr
 obtain ⟨t, ⟨f, _, ht⟩, rfl⟩ := hr
 have := (cutL_len f.2 size h0).2 t ht
 refine ⟨by rw [rowL_length, this], ?_⟩
 intro x hx
 simp only [rowL, List.mem_map] at hx
 obtain ⟨i, _, rfl⟩ := hx
 exact numAt_lt _ _
theorem rowsL_count (size : Nat) (fs : List FileL) (h0 : 0 < size) : (rowsL size fs).length = countL fs size := by
 induction fs with
 | nil => rfl
 | cons f fs ih =>
  simp only [rowsL, slicesL, countL, List.flatMap_cons, List.map_append, List.length_append, List.length_map, List.map_cons, List.sum_cons, (cutL_len f.2 size h0).1] at ih ⊢
  omega
theorem getD_mem_or {fs : List FileL} (i : Nat) (P : FileL → Prop) (h : ∀ f ∈ fs, P f) (h0 : P ([], [])) : P (fs.getD i ([], [])) := by
 rw [List.getD_eq_getElem?_getD]
 rcases Nat.lt_or_ge i fs.length with hi | hi
 ·rw [List.getElem?_eq_getElem hi]; exact h _ (List.getElem_mem hi)
 ·rw [List.getElem?_eq_none hi]; exact h0
theorem bodies_short (size : Nat) (fs : List FileL) (h0 : 0 < size) (hf : ∀ f ∈ fs, f.1.length ≤ 20 ∧ f.2.length ≤ 400) : ∀ t ∈ bodiesL size fs, t.length ≤ 4000 := by
 intro t ht
 simp only [bodiesL, List.mem_map] at ht
 obtain ⟨i, _, rfl⟩ := ht
 rw [bodyL_len size fs i h0]
 have h1 := getD_mem_or i (fun f => f.1.length ≤ 20 ∧ f.2.length ≤ 400) hf (by simp)
 have h2 := slicesOfN_le (fs.getD i ([], [])).2.length size h0
 omega
theorem OwnRows.base {W : World} {B B' : Nat} {v : Value} {rs : List (List Nat)} (hb : B' ≤ B) (h : OwnRows W B v rs) : OwnRows W B' v rs := by
 obtain ⟨vs, h1, h2⟩ := h
 refine ⟨vs, ownsRow_base hb h1, fun j r hj => ?_⟩
 obtain ⟨u, m1, m2⟩ := h2 j r hj
 exact ⟨u, m1, ownsRow_base hb m2⟩
theorem Seal_M (set : Nat) (l : List UInt8) (hl : l.length ≤ 100000) (w : World) :
  Calls Tryz.prog 100 #[.int .u8 77, .int .u64 (set : Int), .string (str l)] w fun e w' => e = .returned (.string (str (sealL 77 set l))) ∧ Below w.heap.size w w' := Seal_l 77 set l hl w
theorem Seal_F (set : Nat) (l : List UInt8) (hl : l.length ≤ 100000) (w : World) :
  Calls Tryz.prog 100 #[.int .u8 70, .int .u64 (set : Int), .string (str l)] w fun e w' => e = .returned (.string (str (sealL 70 set l))) ∧ Below w.heap.size w w' := Seal_l 70 set l hl w
theorem Seal_R (set : Nat) (l : List UInt8) (hl : l.length ≤ 100000) (w : World) :
  Calls Tryz.prog 100 #[.int .u8 82, .int .u64 (set : Int), .string (str l)] w fun e w' => e = .returned (.string (str (sealL 82 set l))) ∧ Below w.heap.size w w' := Seal_l 82 set l hl w
theorem strV_append (a b : List (List UInt8)) : strV (a ++ b) = strV a ++ strV b := by simp [strV]
set_option maxRecDepth 100000 in
set_option maxHeartbeats 1000000 in
theorem makePackets_walk (fs : List FileL) (size extra : Nat) (a : Option Addr) (cap : Nat) (hn : fs.length ≤ 6) (h0 : 0 < size) (h1 : size ≤ 32) (heven : size % 2 = 0) (hf : ∀ f ∈ fs, f.1.length ≤ 20 ∧ f.2.length ≤ 400) (hc0 : 0 < countL fs size) (hc1 : countL fs size ≤ 60) (hex : extra ≤ 20) (w : World) (hrd : Rd w a (filesV fs)) :
  Calls Tryz.prog 64 #[.slice a fs.length cap, .int .i64 (size : Int), .int .i64 (extra : Int)] w fun e w' => ∃ v, e = .returned v ∧ w'.ownsRow w.heap.size 9 1 v (1 + fs.length + extra) (strV (packetsL size fs extra)) ∧ Below w.heap.size w w' := by
 obtain ⟨i0, hi, hz0, hz1, hz2⟩ := info_parts Tryz.infoS
 have HD := hid_of (describe_walk fs size a cap hn h0 h1 hf w hrd)
 have hbl : (bodiesL size fs).length = fs.length := by simp [bodiesL]
 have HBL := hid_of hbl
 clear hbl
 go_enter Tryz.func64, Tryz.ntmps64
 go_wp2_with fail
 refine HD.out.mono ?_
 rintro e w1 ⟨vb, vr, rfl, hownb, hownr, hb1⟩
 obtain ⟨ab, cb, rfl, _, _, hrb⟩ := ownsRow_rd hownb
 obtain ⟨ar, cr, rfl, hrr⟩ := hownr.rdRows
 have hA := hashAll_walk (bodiesL size fs) ab cb (by rw [HBL.out]; omega) (fun t ht => by have := bodies_short size fs h0 hf t ht; omega) w1 hrb
 rw [HBL.out] at hA
 have A1 := hid_of hA
 have A2 := hid_of hrb
 have A3 := hid_of hrr
 have A4 := hid_of hb1
 have A5 := hid_of hf
 clear hA hrb hrr hb1 hownb hownr hf hrd HD
 go_wp2_with fail
 refine A1.out.mono ?_
 rintro e w2 ⟨vh, rfl, hownh, hb2⟩
 obtain ⟨ah, ch, rfl, _, _, hrh⟩ := ownsRow_rd hownh
 have hM := MainBody_walk size ((bodiesL size fs).map hashL) ah ch (by omega) (by rw [List.length_map, HBL.out]; omega) w2 hrh
 rw [List.length_map, HBL.out] at hM
 have B1 := hid_of hM
 have B2 := hid_of (Below.next A4.out hb2)
 have B3 := hid_of (A2.out.later (Nat.le_refl _) hb2)
 have B4 := hid_of (A3.out.later (Nat.le_refl _) hb2)
 clear hM hrh hownh hb2 A1 A2 A3 A4
 go_wp2_with fail
 refine B1.out.mono ?_
 rintro e w3 ⟨rfl, hb3⟩
 have hml := mainL_len size fs
 have hH := Hash_l (mainL size fs) (by omega) w3
 have C1 := hid_of hH
 have C2 := hid_of (Below.next B2.out hb3)
 have C3 := hid_of (B3.out.later (Nat.le_refl _) hb3)
 have C4 := hid_of (B4.out.later (Nat.le_refl _) hb3)
 have C5 := hid_of hml
 clear hH hb3 B1 B2 B3 B4 hml
 go_wp2_with fail
 refine C1.out.mono ?_
 rintro e w' ⟨rfl, rfl⟩
 obtain ⟨id, hid⟩ : ∃ x, x = hashL (mainL size fs) := ⟨_, rfl⟩
 rw [← hid]
 have HID := hid_of hid
 clear hid C1
 have hrl := rowsL_count size fs h0
 have C6 := hid_of hrl
 clear hrl
 obtain ⟨wp, hwp⟩ : ∃ x, x = w' := ⟨_, rfl⟩
 subst hwp
 go_wp2_with (at_make; refine wpList_make_own _ rfl _ _ 23 rfl wp.heap.size 9 i0 (.string ByteArray.empty) 1 Tryz.underlying23 hi hz0 hz1 .i64 .i64 _ (1 + fs.length + extra) rfl rfl ?c0 ?c1 ?c2 (Nat.le_refl _) ?_)
 case c0 => omega
 case c1 => rw [hz2]; omega
 case c2 => unfold maxLen; omega
 intro w4 hown4 hg4
 have hb4 : Below wp.heap.size wp w4 := (Below.refl _ wp).grown hg4 (Nat.le_refl _) (by simp)
 have hS := Seal_M id (mainL size fs) (by rw [C5.out]; omega) w4
 have D1 := hid_of hS
 have D2 := hid_of hown4
 have D3 := hid_of hb4
 clear hS hown4 hb4 hg4
 go_wp2_with fail
 refine D1.out.mono ?_
 rintro e w5 ⟨rfl, hb5⟩
 have hown5 := ownsRow_later D2.out (Nat.le_refl _) hb5
 have hb5' := Below.next D3.out hb5
 have hsz5 := hb5'.size
 have E1 := hid_of hb5'
 clear hb5 hb5' D1 D2 D3
 go_wp2_with (at_builtin; refine wpList_append_own _ rfl (.tmp 35) (.tmp 39) 23 rfl wp.heap.size 9 i0 (.string ByteArray.empty) 1 16 Tryz.underlying23 hi hz0 hz1 hz2 rfl (by decide) _ _ _ rfl (hown5.alloc _) ⟨w5.heap.size, 0, none⟩ 1 1 [.string (str (sealL 77 id (mainL size fs)))] rfl rfl (cell_one_new _ _ _) ?d2 ?d3 ?d4 ?d5 ?_)
 case d2 => intro u hu; simp at hu; subst hu; rfl
 case d3 => unfold maxLen; omega
 case d4 => omega
 case d5 => simp; omega
 intro v6 w6 hown6 hg6 _
 have hb6 := below_step E1.out hsz5 hown5 hg6
 have F1 := hid_of hown6
 have F2 := hid_of hb6
 clear hown6 hg6 hb6 hown5 E1
 go_wp2_with fail
 go_loopw [11, 13, 43] (fun t _ i wr => ∃ k : Nat, k ≤ fs.length ∧ i = .int .i64 (k : Int) ∧ wr.ownsRow wp.heap.size 9 1 t (1 + k) (strV (sealL 77 id (mainL size fs) :: ((bodiesL size fs).map (sealL 70 id)).take k)) ∧ Below wp.heap.size wp wr)
  (fun _ _ i _ => fs.length - (intOf i).toNat)
 case atStart => exact ⟨0, by omega, rfl, by simpa [strV] using F1.out, F2.out⟩
 case round =>
  clear F1 F2
  obtain ⟨k, hk, rfl, hownr, hbl⟩ := hrel
  have hsz := hbl.size
  by_cases hlt : k < fs.length
  ·have hlb : k < (bodiesL size fs).length := by rw [HBL.out]; exact hlt
   obtain ⟨b, off, rfl, hc0'⟩ := (C3.out.later (Nat.le_refl _) hbl) k (.string (str (bodiesL size fs)[k])) (by simp [strV, hlb])
   have hS := Seal_F id (bodiesL size fs)[k] (by have := bodies_short size fs h0 A5.out _ (List.getElem_mem hlb); omega) wr
   have G1 := hid_of hS
   have G2 := hid_of hownr
   have G3 := hid_of hbl
   clear hS hownr hbl
   go_wp2_with fail
   refine G1.out.mono ?_
   rintro e w7 ⟨rfl, hb7⟩
   have hown7 := ownsRow_later G2.out (Nat.le_refl _) hb7
   have hbl7 : Below wp.heap.size wp w7 := G3.out.trans (hb7.mono (by omega))
   have hsz7 := hbl7.size
   have G4 := hid_of hbl7
   clear hb7 hbl7 G1 G2 G3 hc0'
   go_wp2_with (at_builtin; refine wpList_append_own _ rfl (.tmp 47) (.tmp 51) 23 rfl wp.heap.size 9 i0 (.string ByteArray.empty) 1 16 Tryz.underlying23 hi hz0 hz1 hz2 rfl (by decide) _ _ _ rfl (hown7.alloc _) ⟨w7.heap.size, 0, none⟩ 1 1 [.string (str (sealL 70 id (bodiesL size fs)[k]))] rfl rfl (cell_one_new _ _ _) ?e2 ?e3 ?e4 ?e5 ?_)
   case e2 => intro u hu; simp at hu; subst hu; rfl
   case e3 => unfold maxLen; omega
   case e4 => omega
   case e5 => simp; omega
   intro v8 w8 hown8 hg8 _
   have hb8 := below_step G4.out hsz7 hown7 hg8
   have hown8' : w8.ownsRow wp.heap.size 9 1 v8 (1 + (k + 1)) (strV (sealL 77 id (mainL size fs) :: ((bodiesL size fs).map (sealL 70 id)).take (k + 1))) := by
    rw [take_snoc _ k (by simpa using hlb), List.getElem_map, ← List.cons_append, strV_append]
    exact hown8
   have G5 := hid_of hown8'
   have G6 := hid_of hb8
   clear hown8 hown8' hg8 hb8 hown7 G4
   go_wp2_with fail
   go_roundw
   case rel => exact ⟨k + 1, by omega, by go_num, G5.out, G6.out⟩
   case measure => simp [intOf]; omega
  ·obtain rfl : k = fs.length := by omega
   rw [List.take_of_length_le (by rw [List.length_map, HBL.out]; exact Nat.le_refl _)] at hownr
   have hX := extraRows_walk (rowsL size fs) (size / 2) extra ar cr (by rw [C6.out]; omega) (by rw [C6.out]; exact hc0) (by omega) (by omega) (rowsL_ok size fs h0) wr (C4.out.later (Nat.le_refl _) hbl)
   have G1 := hid_of hX
   have G2 := hid_of hownr
   have G3 := hid_of hbl
   clear hX hownr hbl
   go_wp2_with fail
   rw [show ((size : Int) / 2) = ((size / 2 : Nat) : Int) from by omega]
   refine G1.out.mono ?_
   rintro e w7 ⟨gx, rfl, hrx, hb7⟩
   have hwrs := G3.out.size
   have hc2s := C2.out.size
   have hrx := OwnRows.base (B' := w.heap.size) (by omega) hrx
   have hown7 := ownsRow_later G2.out (Nat.le_refl _) hb7
   have hbl7 : Below wp.heap.size wp w7 := G3.out.trans (hb7.mono (by have := G3.out.size; omega))
   have hsz7 := hbl7.size
   have hown7' := ownsRow_base (base' := w.heap.size) C2.out.size hown7
   have G4 := hid_of hbl7
   have G5 := hid_of hown7
   have G6 := hid_of hrx
   clear hown7 hown7' hbl7 hrx hb7 G1 G2 G3
   go_wp2_with fail
   go_loopw [11, 14, 15, 16, 60] (fun t _ _ _ i wr => ∃ k : Nat, k ≤ extra ∧ i = .int .i64 (k : Int) ∧ wr.ownsRow wp.heap.size 9 1 t (1 + fs.length + k) (strV (sealL 77 id (mainL size fs) :: ((bodiesL size fs).map (sealL 70 id) ++ (rPacketsL size fs (size / 2) extra).take k))) ∧ Below wp.heap.size wp wr ∧ OwnRows wr w.heap.size (.slice (some ⟨gx, 0, none⟩) extra extra) (extrasL (rowsL size fs) (size / 2) extra))
    (fun _ _ _ _ i _ => extra - (intOf i).toNat)
   case atStart => exact ⟨0, by omega, rfl, by simpa using G5.out, G4.out, G6.out⟩
   case round =>
    clear G4 G5 G6
    obtain ⟨k, hk, rfl, hownr, hbl, hrx⟩ := hrel
    have hsz := hbl.size
    by_cases hlt : k < extra
    ·have hel := extraL_len (rowsL size fs) (size / 2) k
     have hge : (extrasL (rowsL size fs) (size / 2) extra)[k]? = some (extraL (rowsL size fs) (size / 2) k) := by simp [extrasL, hlt]
     obtain ⟨ax, cx, hax, hrdx⟩ := hrx.rdRows
     obtain ⟨b, off, a7, c7, hab, hcx, hr7⟩ := hrdx k _ hge
     rw [hab] at hax
     simp only [Value.slice.injEq, Option.some.injEq, Addr.mk.injEq, and_true] at hax
     obtain ⟨⟨rfl, rfl⟩, hx1, hx2⟩ := hax
     clear hx1 hx2
     rw [Nat.zero_add] at hcx
     have hT := Text_walk (extraL (rowsL size fs) (size / 2) k) a7 c7 (by rw [hel]; omega) (extraL_lt _ _ _) wr hr7
     have htl := textL_len (extraL (rowsL size fs) (size / 2) k)
     rw [hel] at htl
     have J1 := hid_of hT
     have J2 := hid_of hownr
     have J3 := hid_of hbl
     have J4 := hid_of hrx
     have J5 := hid_of htl
     have J6 := hid_of hel
     clear hT hownr hbl hrx htl hel hr7 hge hrdx hab
     go_wp2_with fail
     refine J1.out.mono ?_
     rintro e w8 ⟨rfl, hb8⟩
     have hE := ExtraBody_l k (textL (extraL (rowsL size fs) (size / 2) k)) (by omega) (by rw [J5.out]; omega) w8
     have J7 := hid_of hE
     have J8 := hid_of hb8
     clear hE hb8 hcx
     go_wp2_with fail
     refine J7.out.mono ?_
     rintro e w9 ⟨rfl, hb9⟩
     have hb89 := Below.next J8.out hb9
     have hbody : (extraBodyL k (textL (extraL (rowsL size fs) (size / 2) k))).length ≤ 100000 := by
      unfold extraBodyL
      rw [List.length_append, numBytes_len, J5.out]; omega
     have hS := Seal_R id (extraBodyL k (textL (extraL (rowsL size fs) (size / 2) k))) hbody w9
     have J9 := hid_of hS
     have J10 := hid_of hb89
     clear hS hb89 hb9 hbody J7 J8 J1
     go_wp2_with fail
     refine J9.out.mono ?_
     rintro e w10 ⟨rfl, hb10⟩
     have hch := Below.next J10.out hb10
     have hown10 := ownsRow_later J2.out (Nat.le_refl _) hch
     have hbl10 : Below wp.heap.size wp w10 := J3.out.trans (hch.mono (by omega))
     have hrx10 := J4.out.later hch
     have hsz10 := hbl10.size
     have L1 := hid_of hbl10
     have L2 := hid_of hrx10
     clear hch hbl10 hrx10 hb10 J9 J10 J2 J3 J4
     go_wp2_with (at_builtin; refine wpList_append_own _ rfl (.tmp 69) (.tmp 73) 23 rfl wp.heap.size 9 i0 (.string ByteArray.empty) 1 16 Tryz.underlying23 hi hz0 hz1 hz2 rfl (by decide) _ _ _ rfl (hown10.alloc _) ⟨w10.heap.size, 0, none⟩ 1 1 [.string (str (sealL 82 id (extraBodyL k (textL (extraL (rowsL size fs) (size / 2) k)))))] rfl rfl (cell_one_new _ _ _) ?g2 ?g3 ?g4 ?g5 ?_)
     case g2 => intro u hu; simp at hu; subst hu; rfl
     case g3 => unfold maxLen; omega
     case g4 => omega
     case g5 => simp; omega
     intro v11 w11 hown11 hg11 _
     have hb11 := below_step L1.out hsz10 hown10 hg11
     have hrx11 := (L2.out.later ((Below.refl _ _).alloc (Nat.le_refl _) (.cells #[.string (str (sealL 82 id (extraBodyL k (textL (extraL (rowsL size fs) (size / 2) k)))))] 9))).kept (hown10.alloc _) (by decide) (by decide) hg11
     have hown11' : w11.ownsRow wp.heap.size 9 1 v11 (1 + fs.length + (k + 1)) (strV (sealL 77 id (mainL size fs) :: ((bodiesL size fs).map (sealL 70 id) ++ (rPacketsL size fs (size / 2) extra).take (k + 1)))) := by
      have e1 : (rPacketsL size fs (size / 2) extra).take (k + 1) = (rPacketsL size fs (size / 2) extra).take k ++ [sealL 82 id (extraBodyL k (textL (extraL (rowsL size fs) (size / 2) k)))] := by
       rw [take_snoc _ k (by simpa [rPacketsL] using hlt)]
       congr 2
       simp only [rPacketsL, List.getElem_map, List.getElem_range]
       unfold rPacketL setL
       rw [← HID.out]
      rw [e1, ← List.append_assoc, ← List.cons_append, strV_append]
      exact hown11
     have L3 := hid_of hb11
     have L4 := hid_of hrx11
     have L5 := hid_of hown11'
     clear hb11 hrx11 hown11' hown11 hg11 hown10 L1 L2
     go_wp2_with fail
     go_roundw
     case rel => exact ⟨k + 1, by omega, by go_num, L5.out, L3.out, L4.out⟩
     case measure => simp [intOf]; omega
    ·obtain rfl : k = extra := by omega
     rw [List.take_of_length_le (by simp [rPacketsL])] at hownr
     have hres : wr.ownsRow w.heap.size 9 1 u11 (1 + fs.length + k) (strV (packetsL size fs k)) := by
      have := ownsRow_base (base' := w.heap.size) C2.out.size hownr
      unfold packetsL fPacketsL setL
      rw [← HID.out]
      exact this
     have hfin : Below w.heap.size w wr := Below.next C2.out hbl
     clear hownr
     go_wp2_with fail
     go_ret
     exact ⟨_, rfl, hres, hfin⟩
end Go.Proofs.YtonjphollmdicaaGreatDoor
namespace Go.Proofs.YtonjphollmdicaaGreatDoor
def knownP (K : Nat) (P : Nat → Option (List UInt8)) : List Nat := (List.range K).filter fun i => (P i).isSome
def lentE (K : Nat) (P : Nat → Option (List UInt8)) (es : List (Nat × List UInt8)) : List (Nat × List UInt8) := es.take (K - (knownP K P).length)
def kPts (K : Nat) (P : Nat → Option (List UInt8)) (es : List (Nat × List UInt8)) : List Nat := knownP K P ++ (lentE K P es).map fun e => K + e.1
def kRows (K : Nat) (P : Nat → Option (List UInt8)) (es : List (Nat × List UInt8)) : List (List Nat) := (knownP K P).map (fun i => rowL ((P i).getD [])) ++ (lentE K P es).map fun e => rowL e.2
def madeS (size K : Nat) (P : Nat → Option (List UInt8)) (es : List (Nat × List UInt8)) (i : Nat) : List UInt8 := match P i with
 | some p => p
 | none => textL (mixL (kRows K P es) (weightsL (kPts K P es) (scalesL (kPts K P es)) i) (size / 2))
def allS (size K : Nat) (P : Nat → Option (List UInt8)) (es : List (Nat × List UInt8)) : List (List UInt8) := (List.range K).map (madeS size K P es)
def joinL : List DescL → List (List UInt8) → List FileL
 | [], _ => []
 | d :: r, s => (d.name, (s.take d.slices.length).flatten.take d.long) :: joinL r (s.drop d.slices.length)
def hashOk : List DescL → List FileL → Bool
 | d :: r, f :: l => (hashL f.2 == d.hash) && hashOk r l
 | _, _ => true
def exPairs (es : List (List UInt8)) : List (Nat × List UInt8) := ((List.range 20).filter fun j => decide (es.getD j [] ≠ [])).map fun j => (j, es.getD j [])
def pieceOf (fs : List FileL) (s : SetL) (i : Nat) : Option (List UInt8) := firstPiece fs s.size ((dHashes s.files).getD i 0)
def madeL (fs : List FileL) (s : SetL) : List FileL := joinL s.files (allS s.size (dHashes s.files).length (pieceOf fs s) (exPairs s.extra))
def repairL (fs : List FileL) (vs : List (List UInt8)) : List FileL ⊕ Nat := match lookedL fs vs with
 | .inr n => .inr n
 | .inl l => if l.extra < l.lost then .inr 5 else if hashOk l.set.files (madeL fs l.set) then .inl (madeL fs l.set) else .inr 6
theorem lent_len (K : Nat) (P : Nat → Option (List UInt8)) (es : List (Nat × List UInt8)) (h : K - (knownP K P).length ≤ es.length) : (lentE K P es).length = K - (knownP K P).length := by
 unfold lentE
 rw [List.length_take]
 omega
theorem known_le (K : Nat) (P : Nat → Option (List UInt8)) : (knownP K P).length ≤ K := Nat.le_trans (List.length_filter_le _ _) (by simp)
theorem kPts_len (K : Nat) (P : Nat → Option (List UInt8)) (es : List (Nat × List UInt8)) (h : K - (knownP K P).length ≤ es.length) : (kPts K P es).length = K ∧ (kRows K P es).length = K := by
 have := lent_len K P es h
 have := known_le K P
 unfold kPts kRows
 rw [List.length_append, List.length_append, List.length_map, List.length_map, List.length_map]
 omega
theorem kPts_lt (K : Nat) (P : Nat → Option (List UInt8)) (es : List (Nat × List UInt8)) (hK : K ≤ 1000) (he : ∀ e ∈ es, e.1 < 1000) : ∀ x ∈ kPts K P es, x < 65536 := by
 intro x hx
 unfold kPts at hx
 rw [List.mem_append] at hx
 rcases hx with hx | hx
 ·unfold knownP at hx
  rw [List.mem_filter, List.mem_range] at hx
  omega
 ·rw [List.mem_map] at hx
  obtain ⟨e, hm, rfl⟩ := hx
  have := he e (List.mem_of_mem_take hm)
  omega
theorem kPts_nodup (K : Nat) (P : Nat → Option (List UInt8)) (es : List (Nat × List UInt8)) (he : (es.map (·.1)).Nodup) : (kPts K P es).Nodup := by
 unfold kPts
 rw [List.nodup_append]
 refine ⟨List.nodup_range.filter _, ?_, fun a ha b hb => ?_⟩
 ·have h1 : ((lentE K P es).map (·.1)).Nodup := by
   unfold lentE
   rw [List.map_take]
   exact he.sublist (List.take_sublist _ _)
  have e : ((lentE K P es).map fun e => K + e.1) = ((lentE K P es).map (·.1)).map (K + ·) := by rw [List.map_map]; rfl
  rw [e]
  unfold List.Nodup
  rw [List.pairwise_map]
  exact h1.imp (fun hne => by omega)
 ·unfold knownP at ha
  rw [List.mem_filter, List.mem_range] at ha
  rw [List.mem_map] at hb
  obtain ⟨e, _, rfl⟩ := hb
  omega
theorem kRows_ok (K size : Nat) (P : Nat → Option (List UInt8)) (es : List (Nat × List UInt8)) (hP : ∀ i p, P i = some p → p.length = size) (he : ∀ e ∈ es, e.2.length = size) : ∀ r ∈ kRows K P es, r.length = size / 2 ∧ ∀ x ∈ r, x < 65536 := by
 have hrow : ∀ t : List UInt8, t.length = size → (rowL t).length = size / 2 ∧ ∀ x ∈ rowL t, x < 65536 := by
  intro t ht
  refine ⟨by rw [rowL_length, ht], fun x hx => ?_⟩
  unfold rowL at hx
  rw [List.mem_map] at hx
  obtain ⟨k, _, rfl⟩ := hx
  exact numAt_lt t k
 intro r hr
 unfold kRows at hr
 rw [List.mem_append, List.mem_map, List.mem_map] at hr
 rcases hr with ⟨i, hi, rfl⟩ | ⟨e, hm, rfl⟩
 ·unfold knownP at hi
  rw [List.mem_filter] at hi
  cases hp : P i with
  | none => rw [hp] at hi; simp at hi
  | some p => exact hrow _ (hP i p hp)
 ·exact hrow _ (he e (List.mem_of_mem_take hm))
theorem madeS_len (size K : Nat) (P : Nat → Option (List UInt8)) (es : List (Nat × List UInt8)) (hev : size % 2 = 0) (hP : ∀ i p, P i = some p → p.length = size) (i : Nat) : (madeS size K P es i).length = size := by
 unfold madeS
 cases hp : P i with
 | some p => exact hP i p hp
 | none =>
  simp only
  rw [textL_len, mix_len]
  omega
theorem flat_len {size : Nat} : ∀ (l : List (List UInt8)), (∀ t ∈ l, t.length = size) → l.flatten.length = l.length * size
 | [], _ => by simp
 | t :: r, h => by
  rw [List.flatten_cons, List.length_append, flat_len r (fun x hx => h x (List.mem_cons_of_mem _ hx)), h t (List.mem_cons_self ..), List.length_cons, Nat.succ_mul, Nat.add_comm]
end Go.Proofs.YtonjphollmdicaaGreatDoor
