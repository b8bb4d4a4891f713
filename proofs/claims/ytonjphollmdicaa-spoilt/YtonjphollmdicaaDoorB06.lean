import Derived.Test.YtonjphollmdicaaDoorB05
namespace Go.Proofs.YtonjphollmdicaaDoor
open Go.ChangeShapes Go.WideShapes Go.ChangeAt Go.RowKit

/-- P4: the set's M body, its hash, the packets -/
def mainL (size : Nat) (fs : List FileL) : List UInt8 := mainBodyL size ((bodiesL size fs).map hashL)
def setL (size : Nat) (fs : List FileL) : Nat := hashL (mainL size fs)
def fPacketsL (size : Nat) (fs : List FileL) : List (List UInt8) := (bodiesL size fs).map (sealL 70 (setL size fs))
def rPacketL (size : Nat) (fs : List FileL) (width j : Nat) : List UInt8 := sealL 82 (setL size fs) (extraBodyL j (textL (extraL (rowsL size fs) width j)))
def rPacketsL (size : Nat) (fs : List FileL) (width extra : Nat) : List (List UInt8) := (List.range extra).map (rPacketL size fs width)
def packetsL (size : Nat) (fs : List FileL) (extra : Nat) : List (List UInt8) := sealL 77 (setL size fs) (mainL size fs) :: (fPacketsL size fs ++ rPacketsL size fs (size / 2) extra)

theorem hashesL_len (l : List Nat) : (hashesL l).length = 8 * l.length := by
  induction l with
  | nil => rfl
  | cons x l ih => simp only [hashesL, List.flatMap_cons, List.length_append, numBytes_len, List.length_cons] at ih ⊢; omega
theorem mainL_len (size : Nat) (fs : List FileL) : (mainL size fs).length = 3 + 8 * fs.length := by
  unfold mainL mainBodyL
  simp only [List.length_append, numBytes_len, hashesL_len, List.length_map, bodiesL, List.length_range]
theorem bodyL_len (size : Nat) (fs : List FileL) (i : Nat) (h0 : 0 < size) : (bodyL size fs i).length = 12 + (fs.getD i ([], [])).1.length + 8 * slicesOfN (fs.getD i ([], [])).2.length size := by
  unfold bodyL fileBodyL fileHeadL
  simp only [List.length_append, numBytes_len, hashesL_len, List.length_map, (cutL_len _ size h0).1]
  omega
theorem textL_len (r : List Nat) : (textL r).length = 2 * r.length := by
  induction r with
  | nil => rfl
  | cons x l ih => simp only [textL, List.flatMap_cons, List.length_append, numBytes_len, List.length_cons] at ih ⊢; omega
theorem extraL_len (rows : List (List Nat)) (width j : Nat) : (extraL rows width j).length = width := by simp [extraL, mixL]
theorem extraL_lt (rows : List (List Nat)) (width j : Nat) : ∀ x ∈ extraL rows width j, x < 65536 := by
  intro x hx
  simp only [extraL, mixL, List.mem_map] at hx
  obtain ⟨p, _, rfl⟩ := hx
  exact accL_lt (weights_lt _ _ _ (scales_lt _)) _ _
theorem rowsL_ok (size : Nat) (fs : List FileL) (h0 : 0 < size) : ∀ r ∈ rowsL size fs, r.length = size / 2 ∧ ∀ x ∈ r, x < 65536 := by
  intro r hr
  simp only [rowsL, slicesL, List.mem_map, List.mem_flatMap] at hr
  obtain ⟨t, ⟨f, _, ht⟩, rfl⟩ := hr
  have := (cutL_len f.2 size h0).2 t ht
  refine ⟨by rw [rowL_length, this], ?_⟩
  intro x hx
  simp only [rowL, List.mem_map] at hx
  obtain ⟨i, _, rfl⟩ := hx
  exact numAt_lt _ _
theorem rowsL_count (size : Nat) (fs : List FileL) (h0 : 0 < size) : (rowsL size fs).length = countL fs size := by
  induction fs with
  | nil => rfl
  | cons f fs ih =>
    simp only [rowsL, slicesL, countL, List.flatMap_cons, List.map_append, List.length_append, List.length_map, List.map_cons, List.sum_cons, (cutL_len f.2 size h0).1] at ih ⊢
    omega

theorem getD_mem_or {fs : List FileL} (i : Nat) (P : FileL → Prop) (h : ∀ f ∈ fs, P f) (h0 : P ([], [])) : P (fs.getD i ([], [])) := by
  rw [List.getD_eq_getElem?_getD]
  rcases Nat.lt_or_ge i fs.length with hi | hi
  · rw [List.getElem?_eq_getElem hi]; exact h _ (List.getElem_mem hi)
  · rw [List.getElem?_eq_none hi]; exact h0

theorem bodies_short (size : Nat) (fs : List FileL) (h0 : 0 < size) (hf : ∀ f ∈ fs, f.1.length ≤ 20 ∧ f.2.length ≤ 400) : ∀ t ∈ bodiesL size fs, t.length ≤ 4000 := by
  intro t ht
  simp only [bodiesL, List.mem_map] at ht
  obtain ⟨i, _, rfl⟩ := ht
  rw [bodyL_len size fs i h0]
  have h1 := getD_mem_or i (fun f => f.1.length ≤ 20 ∧ f.2.length ≤ 400) hf (by simp)
  have h2 := slicesOfN_le (fs.getD i ([], [])).2.length size h0
  omega

theorem OwnRows.base {W : World} {B B' : Nat} {v : Value} {rs : List (List Nat)} (hb : B' ≤ B) (h : OwnRows W B v rs) : OwnRows W B' v rs := by
  obtain ⟨vs, h1, h2⟩ := h
  refine ⟨vs, ownsRow_base hb h1, fun j r hj => ?_⟩
  obtain ⟨u, m1, m2⟩ := h2 j r hj
  exact ⟨u, m1, ownsRow_base hb m2⟩

theorem Seal_M (set : Nat) (l : List UInt8) (hl : l.length ≤ 100000) (w : World) :
    Calls Tryd.prog 37 #[.int .u8 77, .int .u64 (set : Int), .string (str l)] w fun e w' => e = .returned (.string (str (sealL 77 set l))) ∧ Below w.heap.size w w' := Seal_l 77 set l hl w
theorem Seal_F (set : Nat) (l : List UInt8) (hl : l.length ≤ 100000) (w : World) :
    Calls Tryd.prog 37 #[.int .u8 70, .int .u64 (set : Int), .string (str l)] w fun e w' => e = .returned (.string (str (sealL 70 set l))) ∧ Below w.heap.size w w' := Seal_l 70 set l hl w
theorem Seal_R (set : Nat) (l : List UInt8) (hl : l.length ≤ 100000) (w : World) :
    Calls Tryd.prog 37 #[.int .u8 82, .int .u64 (set : Int), .string (str l)] w fun e w' => e = .returned (.string (str (sealL 82 set l))) ∧ Below w.heap.size w w' := Seal_l 82 set l hl w
theorem strV_append (a b : List (List UInt8)) : strV (a ++ b) = strV a ++ strV b := by simp [strV]

set_option maxRecDepth 100000 in
set_option maxHeartbeats 1000000 in
theorem makePackets_walk (fs : List FileL) (size extra : Nat) (a : Option Addr) (cap : Nat) (hn : fs.length ≤ 6) (h0 : 0 < size) (h1 : size ≤ 32) (heven : size % 2 = 0) (hf : ∀ f ∈ fs, f.1.length ≤ 20 ∧ f.2.length ≤ 400) (hc0 : 0 < countL fs size) (hc1 : countL fs size ≤ 60) (hex : extra ≤ 20) (w : World) (hrd : Rd w a (filesV fs)) :
    Calls Tryd.prog 19 #[.slice a fs.length cap, .int .i64 (size : Int), .int .i64 (extra : Int)] w fun e w' => ∃ v, e = .returned v ∧ w'.ownsRow w.heap.size 9 1 v (1 + fs.length + extra) (strV (packetsL size fs extra)) ∧ Below w.heap.size w w' := by
  obtain ⟨i0, hi, hz0, hz1, hz2⟩ := info_parts Tryd.infoS
  have HD := hid_of (describe_walk fs size a cap hn h0 h1 hf w hrd)
  have hbl : (bodiesL size fs).length = fs.length := by simp [bodiesL]
  have HBL := hid_of hbl
  clear hbl
  go_enter Tryd.func19, Tryd.ntmps19
  go_wp2_with fail
  refine HD.out.mono ?_
  rintro e w1 ⟨vb, vr, rfl, hownb, hownr, hb1⟩
  obtain ⟨ab, cb, rfl, _, _, hrb⟩ := ownsRow_rd hownb
  obtain ⟨ar, cr, rfl, hrr⟩ := hownr.rdRows
  have hA := hashAll_walk (bodiesL size fs) ab cb (by rw [HBL.out]; omega) (fun t ht => by have := bodies_short size fs h0 hf t ht; omega) w1 hrb
  rw [HBL.out] at hA
  have A1 := hid_of hA
  have A2 := hid_of hrb
  have A3 := hid_of hrr
  have A4 := hid_of hb1
  have A5 := hid_of hf
  clear hA hrb hrr hb1 hownb hownr hf hrd HD
  go_wp2_with fail
  refine A1.out.mono ?_
  rintro e w2 ⟨vh, rfl, hownh, hb2⟩
  obtain ⟨ah, ch, rfl, _, _, hrh⟩ := ownsRow_rd hownh
  have hM := MainBody_walk size ((bodiesL size fs).map hashL) ah ch (by omega) (by rw [List.length_map, HBL.out]; omega) w2 hrh
  rw [List.length_map, HBL.out] at hM
  have B1 := hid_of hM
  have B2 := hid_of (Below.next A4.out hb2)
  have B3 := hid_of (A2.out.later (Nat.le_refl _) hb2)
  have B4 := hid_of (A3.out.later (Nat.le_refl _) hb2)
  clear hM hrh hownh hb2 A1 A2 A3 A4
  go_wp2_with fail
  refine B1.out.mono ?_
  rintro e w3 ⟨rfl, hb3⟩
  have hml := mainL_len size fs
  have hH := Hash_l (mainL size fs) (by omega) w3
  have C1 := hid_of hH
  have C2 := hid_of (Below.next B2.out hb3)
  have C3 := hid_of (B3.out.later (Nat.le_refl _) hb3)
  have C4 := hid_of (B4.out.later (Nat.le_refl _) hb3)
  have C5 := hid_of hml
  clear hH hb3 B1 B2 B3 B4 hml
  go_wp2_with fail
  refine C1.out.mono ?_
  rintro e w' ⟨rfl, rfl⟩
  obtain ⟨id, hid⟩ : ∃ x, x = hashL (mainL size fs) := ⟨_, rfl⟩
  rw [← hid]
  have HID := hid_of hid
  clear hid C1
  have hrl := rowsL_count size fs h0
  have C6 := hid_of hrl
  clear hrl
  obtain ⟨wp, hwp⟩ : ∃ x, x = w' := ⟨_, rfl⟩
  subst hwp
  go_wp2_with (at_make; refine wpList_make_own _ rfl _ _ 22 rfl wp.heap.size 9 i0 (.string ByteArray.empty) 1 Tryd.underlying22 hi hz0 hz1 .i64 .i64 _ (1 + fs.length + extra) rfl rfl ?c0 ?c1 ?c2 (Nat.le_refl _) ?_)
  case c0 => omega
  case c1 => rw [hz2]; omega
  case c2 => unfold maxLen; omega
  intro w4 hown4 hg4
  have hb4 : Below wp.heap.size wp w4 := (Below.refl _ wp).grown hg4 (Nat.le_refl _) (by simp)
  have hS := Seal_M id (mainL size fs) (by rw [C5.out]; omega) w4
  have D1 := hid_of hS
  have D2 := hid_of hown4
  have D3 := hid_of hb4
  clear hS hown4 hb4 hg4
  go_wp2_with fail
  refine D1.out.mono ?_
  rintro e w5 ⟨rfl, hb5⟩
  have hown5 := ownsRow_later D2.out (Nat.le_refl _) hb5
  have hb5' := Below.next D3.out hb5
  have hsz5 := hb5'.size
  have E1 := hid_of hb5'
  clear hb5 hb5' D1 D2 D3
  go_wp2_with (at_builtin; refine wpList_append_own _ rfl (.tmp 35) (.tmp 39) 22 rfl wp.heap.size 9 i0 (.string ByteArray.empty) 1 16 Tryd.underlying22 hi hz0 hz1 hz2 rfl (by decide) _ _ _ rfl (hown5.alloc _) ⟨w5.heap.size, 0, none⟩ 1 1 [.string (str (sealL 77 id (mainL size fs)))] rfl rfl (cell_one_new _ _ _) ?d2 ?d3 ?d4 ?d5 ?_)
  case d2 => intro u hu; simp at hu; subst hu; rfl
  case d3 => unfold maxLen; omega
  case d4 => omega
  case d5 => simp; omega
  intro v6 w6 hown6 hg6 _
  have hb6 := below_step E1.out hsz5 hown5 hg6
  have F1 := hid_of hown6
  have F2 := hid_of hb6
  clear hown6 hg6 hb6 hown5 E1
  go_wp2_with fail
  go_loopw [11, 13, 43] (fun t _ i wr => ∃ k : Nat, k ≤ fs.length ∧ i = .int .i64 (k : Int) ∧ wr.ownsRow wp.heap.size 9 1 t (1 + k) (strV (sealL 77 id (mainL size fs) :: ((bodiesL size fs).map (sealL 70 id)).take k)) ∧ Below wp.heap.size wp wr)
    (fun _ _ i _ => fs.length - (intOf i).toNat)
  case atStart => exact ⟨0, by omega, rfl, by simpa [strV] using F1.out, F2.out⟩
  case round =>
    clear F1 F2
    obtain ⟨k, hk, rfl, hownr, hbl⟩ := hrel
    have hsz := hbl.size
    by_cases hlt : k < fs.length
    · have hlb : k < (bodiesL size fs).length := by rw [HBL.out]; exact hlt
      obtain ⟨b, off, rfl, hc0'⟩ := (C3.out.later (Nat.le_refl _) hbl) k (.string (str (bodiesL size fs)[k])) (by simp [strV, hlb])
      have hS := Seal_F id (bodiesL size fs)[k] (by have := bodies_short size fs h0 A5.out _ (List.getElem_mem hlb); omega) wr
      have G1 := hid_of hS
      have G2 := hid_of hownr
      have G3 := hid_of hbl
      clear hS hownr hbl
      go_wp2_with fail
      refine G1.out.mono ?_
      rintro e w7 ⟨rfl, hb7⟩
      have hown7 := ownsRow_later G2.out (Nat.le_refl _) hb7
      have hbl7 : Below wp.heap.size wp w7 := G3.out.trans (hb7.mono (by omega))
      have hsz7 := hbl7.size
      have G4 := hid_of hbl7
      clear hb7 hbl7 G1 G2 G3 hc0'
      go_wp2_with (at_builtin; refine wpList_append_own _ rfl (.tmp 47) (.tmp 51) 22 rfl wp.heap.size 9 i0 (.string ByteArray.empty) 1 16 Tryd.underlying22 hi hz0 hz1 hz2 rfl (by decide) _ _ _ rfl (hown7.alloc _) ⟨w7.heap.size, 0, none⟩ 1 1 [.string (str (sealL 70 id (bodiesL size fs)[k]))] rfl rfl (cell_one_new _ _ _) ?e2 ?e3 ?e4 ?e5 ?_)
      case e2 => intro u hu; simp at hu; subst hu; rfl
      case e3 => unfold maxLen; omega
      case e4 => omega
      case e5 => simp; omega
      intro v8 w8 hown8 hg8 _
      have hb8 := below_step G4.out hsz7 hown7 hg8
      have hown8' : w8.ownsRow wp.heap.size 9 1 v8 (1 + (k + 1)) (strV (sealL 77 id (mainL size fs) :: ((bodiesL size fs).map (sealL 70 id)).take (k + 1))) := by
        rw [take_snoc _ k (by simpa using hlb), List.getElem_map, ← List.cons_append, strV_append]
        exact hown8
      have G5 := hid_of hown8'
      have G6 := hid_of hb8
      clear hown8 hown8' hg8 hb8 hown7 G4
      go_wp2_with fail
      go_roundw
      case rel => exact ⟨k + 1, by omega, by go_num, G5.out, G6.out⟩
      case measure => simp [intOf]; omega
    · obtain rfl : k = fs.length := by omega
      rw [List.take_of_length_le (by rw [List.length_map, HBL.out]; exact Nat.le_refl _)] at hownr
      have hX := extraRows_walk (rowsL size fs) (size / 2) extra ar cr (by rw [C6.out]; omega) (by rw [C6.out]; exact hc0) (by omega) (by omega) (rowsL_ok size fs h0) wr (C4.out.later (Nat.le_refl _) hbl)
      have G1 := hid_of hX
      have G2 := hid_of hownr
      have G3 := hid_of hbl
      clear hX hownr hbl
      go_wp2_with fail
      rw [show ((size : Int) / 2) = ((size / 2 : Nat) : Int) from by omega]
      refine G1.out.mono ?_
      rintro e w7 ⟨gx, rfl, hrx, hb7⟩
      have hwrs := G3.out.size
      have hc2s := C2.out.size
      have hrx := OwnRows.base (B' := w.heap.size) (by omega) hrx
      have hown7 := ownsRow_later G2.out (Nat.le_refl _) hb7
      have hbl7 : Below wp.heap.size wp w7 := G3.out.trans (hb7.mono (by have := G3.out.size; omega))
      have hsz7 := hbl7.size
      have hown7' := ownsRow_base (base' := w.heap.size) C2.out.size hown7
      have G4 := hid_of hbl7
      have G5 := hid_of hown7
      have G6 := hid_of hrx
      clear hown7 hown7' hbl7 hrx hb7 G1 G2 G3
      go_wp2_with fail
      go_loopw [11, 14, 15, 16, 60] (fun t _ _ _ i wr => ∃ k : Nat, k ≤ extra ∧ i = .int .i64 (k : Int) ∧ wr.ownsRow wp.heap.size 9 1 t (1 + fs.length + k) (strV (sealL 77 id (mainL size fs) :: ((bodiesL size fs).map (sealL 70 id) ++ (rPacketsL size fs (size / 2) extra).take k))) ∧ Below wp.heap.size wp wr ∧ OwnRows wr w.heap.size (.slice (some ⟨gx, 0, none⟩) extra extra) (extrasL (rowsL size fs) (size / 2) extra))
        (fun _ _ _ _ i _ => extra - (intOf i).toNat)
      case atStart => exact ⟨0, by omega, rfl, by simpa using G5.out, G4.out, G6.out⟩
      case round =>
        clear G4 G5 G6
        obtain ⟨k, hk, rfl, hownr, hbl, hrx⟩ := hrel
        have hsz := hbl.size
        by_cases hlt : k < extra
        · have hel := extraL_len (rowsL size fs) (size / 2) k
          have hge : (extrasL (rowsL size fs) (size / 2) extra)[k]? = some (extraL (rowsL size fs) (size / 2) k) := by simp [extrasL, hlt]
          obtain ⟨ax, cx, hax, hrdx⟩ := hrx.rdRows
          obtain ⟨b, off, a7, c7, hab, hcx, hr7⟩ := hrdx k _ hge
          rw [hab] at hax
          simp only [Value.slice.injEq, Option.some.injEq, Addr.mk.injEq, and_true] at hax
          obtain ⟨⟨rfl, rfl⟩, hx1, hx2⟩ := hax
          clear hx1 hx2
          rw [Nat.zero_add] at hcx
          have hT := Text_walk (extraL (rowsL size fs) (size / 2) k) a7 c7 (by rw [hel]; omega) (extraL_lt _ _ _) wr hr7
          have htl := textL_len (extraL (rowsL size fs) (size / 2) k)
          rw [hel] at htl
          have J1 := hid_of hT
          have J2 := hid_of hownr
          have J3 := hid_of hbl
          have J4 := hid_of hrx
          have J5 := hid_of htl
          have J6 := hid_of hel
          clear hT hownr hbl hrx htl hel hr7 hge hrdx hab
          go_wp2_with fail
          refine J1.out.mono ?_
          rintro e w8 ⟨rfl, hb8⟩
          have hE := ExtraBody_l k (textL (extraL (rowsL size fs) (size / 2) k)) (by omega) (by rw [J5.out]; omega) w8
          have J7 := hid_of hE
          have J8 := hid_of hb8
          clear hE hb8 hcx
          go_wp2_with fail
          refine J7.out.mono ?_
          rintro e w9 ⟨rfl, hb9⟩
          have hb89 := Below.next J8.out hb9
          have hbody : (extraBodyL k (textL (extraL (rowsL size fs) (size / 2) k))).length ≤ 100000 := by
            unfold extraBodyL
            rw [List.length_append, numBytes_len, J5.out]; omega
          have hS := Seal_R id (extraBodyL k (textL (extraL (rowsL size fs) (size / 2) k))) hbody w9
          have J9 := hid_of hS
          have J10 := hid_of hb89
          clear hS hb89 hb9 hbody J7 J8 J1
          go_wp2_with fail
          refine J9.out.mono ?_
          rintro e w10 ⟨rfl, hb10⟩
          have hch := Below.next J10.out hb10
          have hown10 := ownsRow_later J2.out (Nat.le_refl _) hch
          have hbl10 : Below wp.heap.size wp w10 := J3.out.trans (hch.mono (by omega))
          have hrx10 := J4.out.later hch
          have hsz10 := hbl10.size
          have L1 := hid_of hbl10
          have L2 := hid_of hrx10
          clear hch hbl10 hrx10 hb10 J9 J10 J2 J3 J4
          go_wp2_with (at_builtin; refine wpList_append_own _ rfl (.tmp 69) (.tmp 73) 22 rfl wp.heap.size 9 i0 (.string ByteArray.empty) 1 16 Tryd.underlying22 hi hz0 hz1 hz2 rfl (by decide) _ _ _ rfl (hown10.alloc _) ⟨w10.heap.size, 0, none⟩ 1 1 [.string (str (sealL 82 id (extraBodyL k (textL (extraL (rowsL size fs) (size / 2) k)))))] rfl rfl (cell_one_new _ _ _) ?g2 ?g3 ?g4 ?g5 ?_)
          case g2 => intro u hu; simp at hu; subst hu; rfl
          case g3 => unfold maxLen; omega
          case g4 => omega
          case g5 => simp; omega
          intro v11 w11 hown11 hg11 _
          have hb11 := below_step L1.out hsz10 hown10 hg11
          have hrx11 := (L2.out.later ((Below.refl _ _).alloc (Nat.le_refl _) (.cells #[.string (str (sealL 82 id (extraBodyL k (textL (extraL (rowsL size fs) (size / 2) k)))))] 9))).kept (hown10.alloc _) (by decide) (by decide) hg11
          have hown11' : w11.ownsRow wp.heap.size 9 1 v11 (1 + fs.length + (k + 1)) (strV (sealL 77 id (mainL size fs) :: ((bodiesL size fs).map (sealL 70 id) ++ (rPacketsL size fs (size / 2) extra).take (k + 1)))) := by
            have e1 : (rPacketsL size fs (size / 2) extra).take (k + 1) = (rPacketsL size fs (size / 2) extra).take k ++ [sealL 82 id (extraBodyL k (textL (extraL (rowsL size fs) (size / 2) k)))] := by
              rw [take_snoc _ k (by simpa [rPacketsL] using hlt)]
              congr 2
              simp only [rPacketsL, List.getElem_map, List.getElem_range]
              unfold rPacketL setL
              rw [← HID.out]
            rw [e1, ← List.append_assoc, ← List.cons_append, strV_append]
            exact hown11
          have L3 := hid_of hb11
          have L4 := hid_of hrx11
          have L5 := hid_of hown11'
          clear hb11 hrx11 hown11' hown11 hg11 hown10 L1 L2
          go_wp2_with fail
          go_roundw
          case rel => exact ⟨k + 1, by omega, by go_num, L5.out, L3.out, L4.out⟩
          case measure => simp [intOf]; omega
        · obtain rfl : k = extra := by omega
          rw [List.take_of_length_le (by simp [rPacketsL])] at hownr
          have hres : wr.ownsRow w.heap.size 9 1 u11 (1 + fs.length + k) (strV (packetsL size fs k)) := by
            have := ownsRow_base (base' := w.heap.size) C2.out.size hownr
            unfold packetsL fPacketsL setL
            rw [← HID.out]
            exact this
          have hfin : Below w.heap.size w wr := Below.next C2.out hbl
          clear hownr
          go_wp2_with fail
          go_ret
          exact ⟨_, rfl, hres, hfin⟩
end Go.Proofs.YtonjphollmdicaaDoor
namespace Go.Proofs.YtonjphollmdicaaDoor
open Go.ChangeShapes Go.WideShapes Go.ChangeAt Go.RowKit

/-- what every call of Create asks of its files -/
structure Handed (w : World) (fs : List FileL) (a : Option Addr) (cap : Nat) : Prop where
  rd : Rd w a (filesV fs)
  cap1 : fs.length ≤ cap
  short : ∀ f ∈ fs, f.1.length < 140737488355328 ∧ f.2.length < 140737488355328

def badArg (b x : Int) : Bool := !sliceSize b || decide (x < 0) || decide (20 < x)

set_option maxRecDepth 100000 in
theorem Create_arg (fs : List FileL) (b x : Int) (a : Option Addr) (cap : Nat) (h : badArg b x = true) (w : World) :
    Calls Tryd.prog 13 #[.slice a fs.length cap, .int .i64 b, .int .i64 x] w fun e w' => e = .returned (.tuple #[.slice none 0 0, .int .i64 1]) ∧ Below w.heap.size w w' := by
  by_cases h1 : sliceSize b = true
  · by_cases h2 : x < 0
    · go_enter Tryd.func13, Tryd.ntmps13
      go_wp2_with (go_at_call 16; refine (IsSliceSize_walk b w).mono ?_; rintro e w' ⟨rfl, rfl⟩)
      go_ret2
      exact ⟨rfl, Below.refl _ _⟩
    · have h3 : 20 < x := by
        unfold badArg at h
        simp [h1] at h
        omega
      go_enter Tryd.func13, Tryd.ntmps13
      go_wp2_with (go_at_call 16; refine (IsSliceSize_walk b w).mono ?_; rintro e w' ⟨rfl, rfl⟩)
      go_ret2
      exact ⟨rfl, Below.refl _ _⟩
  · have h1' : sliceSize b = false := by simpa using h1
    clear h1
    go_enter Tryd.func13, Tryd.ntmps13
    go_wp2_with (go_at_call 16; refine (IsSliceSize_walk b w).mono ?_; rintro e w' ⟨rfl, rfl⟩)
    go_ret2
    exact ⟨rfl, Below.refl _ _⟩

/-- the numbers may be: then the slice size is a number of ours -/
theorem good_arg {b x : Int} (h : badArg b x = false) : ∃ size extra : Nat, b = (size : Int) ∧ x = (extra : Int) ∧ 0 < size ∧ size ≤ 32 ∧ size % 2 = 0 ∧ extra ≤ 20 ∧ sliceSize b = true := by
  unfold badArg at h
  simp only [Bool.or_eq_false_iff, Bool.not_eq_false', decide_eq_false_iff_not] at h
  obtain ⟨⟨h1, h2⟩, h3⟩ := h
  have h4 := of_decide_eq_true h1
  exact ⟨b.toNat, x.toNat, by omega, by omega, by omega, by omega, by omega, by omega, h1⟩

theorem set_facts {fs : List FileL} (h : isSetL fs = true) : 1 ≤ fs.length ∧ fs.length ≤ 6 ∧ ∀ f ∈ fs, f.1.length ≤ 20 ∧ f.2.length ≤ 400 := by
  unfold isSetL at h
  rw [Bool.and_eq_true] at h
  have h1 := of_decide_eq_true h.1
  refine ⟨h1.1, h1.2, ?_⟩
  intro f hf
  obtain ⟨i, hi, rfl⟩ := List.mem_iff_getElem.1 hf
  have h2 := (List.all_eq_true.1 h.2) i (by simpa using hi)
  unfold okAt at h2
  rw [List.getElem?_eq_getElem hi] at h2
  rw [Bool.and_eq_true] at h2
  have h3 := of_decide_eq_true h2.1
  exact ⟨h3.2.1, h3.2.2⟩

def goodSet (fs : List FileL) (size : Nat) : Bool := isSetL fs && decide (1 ≤ countL fs size) && decide (countL fs size ≤ 60)

set_option maxRecDepth 100000 in
theorem Create_file (fs : List FileL) (b x : Int) (size extra : Nat) (a : Option Addr) (cap : Nat) (hb : b = (size : Int)) (hx : x = (extra : Int)) (h0 : 0 < size) (h32 : size ≤ 32) (hex : extra ≤ 20) (hss : sliceSize b = true) (h : goodSet fs size = false) (w : World) (hh : Handed w fs a cap) :
    Calls Tryd.prog 13 #[.slice a fs.length cap, .int .i64 b, .int .i64 x] w fun e w' => e = .returned (.tuple #[.slice none 0 0, .int .i64 2]) ∧ Below w.heap.size w w' := by
  have e1 : ¬ x < 0 := by omega
  have e2 : ¬ 20 < x := by omega
  have HB := hid_of hb
  have HX := hid_of hx
  clear hb hx
  by_cases h1 : isSetL fs = true
  · obtain ⟨hn1, hn2, hf⟩ := set_facts h1
    have hC := fun W (hW : Below w.heap.size w W) => CountSlices_walk fs size a cap h0 h32 hn2 (fun f hm => (hf f hm).2) W (hh.rd.later (Nat.le_refl _) hW)
    rw [← HB.out] at hC
    have HC := hid_of hC
    have HH := hid_of hh
    clear hC hf
    have hcnt : countL fs size < 1 ∨ 60 < countL fs size := by
      unfold goodSet at h
      simp [h1] at h
      omega
    obtain ⟨c, hc⟩ : ∃ c, c = countL fs size := ⟨_, rfl⟩
    rw [← hc] at hcnt HC
    clear hc h
    rcases hcnt with h2 | h2
    · go_enter Tryd.func13, Tryd.ntmps13
      go_wp2_with fail
      refine (IsSliceSize_walk b w).mono ?_
      rintro e w' ⟨rfl, rfl⟩
      go_wp2_with fail
      refine (IsSet_walk fs a cap HH.out.cap1 HH.out.short _ HH.out.rd).mono ?_
      rintro e w1 ⟨rfl, hb1⟩
      go_wp2_with fail
      refine (HC.out w1 hb1).mono ?_
      rintro e w2 ⟨rfl, hb2⟩
      go_wp2_with fail
      go_ret2
      exact ⟨rfl, Below.next hb1 hb2⟩
    · go_enter Tryd.func13, Tryd.ntmps13
      go_wp2_with fail
      refine (IsSliceSize_walk b w).mono ?_
      rintro e w' ⟨rfl, rfl⟩
      go_wp2_with fail
      refine (IsSet_walk fs a cap HH.out.cap1 HH.out.short _ HH.out.rd).mono ?_
      rintro e w1 ⟨rfl, hb1⟩
      go_wp2_with fail
      refine (HC.out w1 hb1).mono ?_
      rintro e w2 ⟨rfl, hb2⟩
      go_wp2_with fail
      go_ret2
      exact ⟨rfl, Below.next hb1 hb2⟩
  · have h1' : isSetL fs = false := by simpa using h1
    have HH := hid_of hh
    clear h1 h hh
    go_enter Tryd.func13, Tryd.ntmps13
    go_wp2_with fail
    refine (IsSliceSize_walk b w).mono ?_
    rintro e w' ⟨rfl, rfl⟩
    go_wp2_with fail
    refine (IsSet_walk fs a cap HH.out.cap1 HH.out.short _ HH.out.rd).mono ?_
    rintro e w1 ⟨rfl, hb1⟩
    go_wp2_with fail
    go_ret2
    exact ⟨rfl, hb1⟩

set_option maxRecDepth 100000 in
theorem Create_ok (fs : List FileL) (b x : Int) (size extra : Nat) (a : Option Addr) (cap : Nat) (hb : b = (size : Int)) (hx : x = (extra : Int)) (h0 : 0 < size) (h32 : size ≤ 32) (heven : size % 2 = 0) (hex : extra ≤ 20) (hss : sliceSize b = true) (h : goodSet fs size = true) (w : World) (hh : Handed w fs a cap) :
    Calls Tryd.prog 13 #[.slice a fs.length cap, .int .i64 b, .int .i64 x] w fun e w' => ∃ v, e = .returned (.tuple #[v, .int .i64 0]) ∧ w'.ownsRow w.heap.size 9 1 v (1 + fs.length + extra) (strV (packetsL size fs extra)) ∧ Below w.heap.size w w' := by
  have e1 : ¬ x < 0 := by omega
  have e2 : ¬ 20 < x := by omega
  unfold goodSet at h
  rw [Bool.and_eq_true, Bool.and_eq_true] at h
  obtain ⟨⟨h1, h2⟩, h3⟩ := h
  have h2 := of_decide_eq_true h2
  have h3 := of_decide_eq_true h3
  obtain ⟨hn1, hn2, hf⟩ := set_facts h1
  have hC := fun W (hW : Below w.heap.size w W) => CountSlices_walk fs size a cap h0 h32 hn2 (fun f hm => (hf f hm).2) W (hh.rd.later (Nat.le_refl _) hW)
  have hP := fun W (hW : Below w.heap.size w W) => makePackets_walk fs size extra a cap hn2 h0 h32 heven hf h2 h3 hex W (hh.rd.later (Nat.le_refl _) hW)
  rw [← hb] at hC hP
  rw [← hx] at hP
  obtain ⟨c, hc⟩ : ∃ c, c = countL fs size := ⟨_, rfl⟩
  rw [← hc] at h2 h3 hC
  have HC := hid_of hC
  have HP := hid_of hP
  have HH := hid_of hh
  have HB := hid_of hb
  have HX := hid_of hx
  clear hC hP hh hf hb hx hc
  go_enter Tryd.func13, Tryd.ntmps13
  go_wp2_with fail
  refine (IsSliceSize_walk b w).mono ?_
  rintro e w' ⟨rfl, rfl⟩
  go_wp2_with fail
  refine (IsSet_walk fs a cap HH.out.cap1 HH.out.short _ HH.out.rd).mono ?_
  rintro e w1 ⟨rfl, hb1⟩
  go_wp2_with fail
  refine (HC.out w1 hb1).mono ?_
  rintro e w2 ⟨rfl, hb2⟩
  have hb12 := Below.next hb1 hb2
  go_wp2_with fail
  refine (HP.out w2 hb12).mono ?_
  rintro e w3 ⟨v, rfl, hown, hb3⟩
  have hfin := Below.next hb12 hb3
  have hown' := ownsRow_base hb12.size hown
  clear hown hb3
  go_wp2_with fail
  go_ret2
  exact ⟨_, rfl, hown', hfin⟩
end Go.Proofs.YtonjphollmdicaaDoor
