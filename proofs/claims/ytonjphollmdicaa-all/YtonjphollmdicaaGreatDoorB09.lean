import Derived.Test.YtonjphollmdicaaGreatDoorB08
import Derived.Outline
import Derived.Deep.RegionWith
set_option maxRecDepth 100000
set_option maxHeartbeats 4000000
set_option linter.unusedSimpArgs false
namespace Go.Proofs.YtonjphollmdicaaGreatDoor
open Go.ChangeShapes Go.WideShapes Go.ChangeAt Go.RowKit
def DK (size : Nat) (fs : List Ak) : List UInt8 := E6 size ((AA size fs).map AC)
def MF (size : Nat) (fs : List Ak) : Nat := AC (DK size fs)
def Ey (size : Nat) (fs : List Ak) : List (List UInt8) := (AA size fs).map (BD 70 (MF size fs))
def Db (size : Nat) (fs : List Ak) (width j : Nat) : List UInt8 := BD 82 (MF size fs) (BI j (Cx (BZ (BB size fs) width j)))
def Bg (size : Nat) (fs : List Ak) (width extra : Nat) : List (List UInt8) := (List.range extra).map (Db size fs width)
def Ck (size : Nat) (fs : List Ak) (extra : Nat) : List (List UInt8) := BD 77 (MF size fs) (DK size fs) :: (Ey size fs ++ Bg size fs (size / 2) extra)
theorem CV (l : List Nat) : (Bi l).length = 8 * l.length := by
 induction l with
 | nil => rfl
 | cons x l ih => simp only [Bi, List.flatMap_cons, List.length_append, Ao, List.length_cons] at ih ⊢; omega
theorem IG (size : Nat) (fs : List Ak) : (DK size fs).length = 3 + 8 * fs.length := by
 unfold DK E6
 simp only [List.length_append, Ao, CV, List.length_map, AA, List.length_range]
theorem KP (size : Nat) (fs : List Ak) (i : Nat) (h0 : 0 < size) : (Kp size fs i).length = 12 + (fs.getD i ([], [])).1.length + 8 * Aj (fs.getD i ([], [])).2.length size := by
 unfold Kp Co DX
 simp only [List.length_append, Ao, CV, List.length_map, (CJ _ size h0).1]
 omega
theorem EC (r : List Nat) : (Cx r).length = 2 * r.length := by
 induction r with
 | nil => rfl
 | cons x l ih => simp only [Cx, List.flatMap_cons, List.length_append, Ao, List.length_cons] at ih ⊢; omega
theorem FA (rows : List (List Nat)) (width j : Nat) : (BZ rows width j).length = width := by simp [BZ, Jr]
theorem LG (rows : List (List Nat)) (width j : Nat) : ∀ x ∈ BZ rows width j, x < 65536 := by
 intro x hx
 simp only [BZ, Jr, List.mem_map] at hx
 obtain ⟨p, _, rfl⟩ := hx
 exact JT (DM _ _ _ (Dx _)) _ _
theorem Nj (size : Nat) (fs : List Ak) (h0 : 0 < size) : ∀ r ∈ BB size fs, r.length = size / 2 ∧ ∀ x ∈ r, x < 65536 := by
 intro r hr
 simp only [BB, Ca, List.mem_map, List.mem_flatMap] at hr
 obtain ⟨t, ⟨f, _, ht⟩, rfl⟩ := hr
 have := (CJ f.2 size h0).2 t ht
 refine ⟨by rw [BK, this], ?_⟩
 intro x hx
 simp only [C7, List.mem_map] at hx
 obtain ⟨i, _, rfl⟩ := hx
 exact Nl _ _
theorem Dn (size : Nat) (fs : List Ak) (h0 : 0 < size) : (BB size fs).length = BM fs size := by
 induction fs with
 | nil => rfl
 | cons f fs ih =>
  simp only [BB, Ca, BM, List.flatMap_cons, List.map_append, List.length_append, List.length_map, List.map_cons, List.sum_cons, (CJ f.2 size h0).1] at ih ⊢
  omega
theorem M9 {fs : List Ak} (i : Nat) (P : Ak → Prop) (h : ∀ f ∈ fs, P f) (h0 : P ([], [])) : P (fs.getD i ([], [])) := by
 rw [List.getD_eq_getElem?_getD]
 rcases Nat.lt_or_ge i fs.length with hi | hi
 ·rw [List.getElem?_eq_getElem hi]; exact h _ (List.getElem_mem hi)
 ·rw [List.getElem?_eq_none hi]; exact h0
theorem Eh (size : Nat) (fs : List Ak) (h0 : 0 < size) (hf : ∀ f ∈ fs, f.1.length ≤ 20 ∧ f.2.length ≤ 400) : ∀ t ∈ AA size fs, t.length ≤ 4000 := by
 intro t ht
 simp only [AA, List.mem_map] at ht
 obtain ⟨i, _, rfl⟩ := ht
 rw [KP size fs i h0]
 have h1 := M9 i (fun f => f.1.length ≤ 20 ∧ f.2.length ≤ 400) hf (by simp)
 have h2 := Bu (fs.getD i ([], [])).2.length size h0
 omega
theorem OwnRows.base {W : World} {B B' : Nat} {v : Value} {rs : List (List Nat)} (hb : B' ≤ B) (h : OwnRows W B v rs) : OwnRows W B' v rs := by
 obtain ⟨vs, h1, h2⟩ := h
 refine ⟨vs, Ad hb h1, fun j r hj => ?_⟩
 obtain ⟨u, m1, m2⟩ := h2 j r hj
 exact ⟨u, m1, Ad hb m2⟩
theorem Sw (set : Nat) (l : List UInt8) (hl : l.length ≤ 100000) (w : World) :
  Calls Tryz.prog 100 #[.int .u8 77, .int .u64 (set : Int), .string (str l)] w fun e w' => e = .returned (.string (str (BD 77 set l))) ∧ Below w.heap.size w w' := PU 77 set l hl w
theorem SA (set : Nat) (l : List UInt8) (hl : l.length ≤ 100000) (w : World) :
  Calls Tryz.prog 100 #[.int .u8 70, .int .u64 (set : Int), .string (str l)] w fun e w' => e = .returned (.string (str (BD 70 set l))) ∧ Below w.heap.size w w' := PU 70 set l hl w
theorem SL (set : Nat) (l : List UInt8) (hl : l.length ≤ 100000) (w : World) :
  Calls Tryz.prog 100 #[.int .u8 82, .int .u64 (set : Int), .string (str l)] w fun e w' => e = .returned (.string (str (BD 82 set l))) ∧ Below w.heap.size w w' := PU 82 set l hl w
theorem Cg (a b : List (List UInt8)) : AM (a ++ b) = AM a ++ AM b := by simp [AM]
theorem Hm (fs : List Ak) (size extra : Nat) (a : Option Addr) (cap : Nat) (hn : fs.length ≤ 6) (h0 : 0 < size) (h1 : size ≤ 32) (heven : size % 2 = 0) (hf : ∀ f ∈ fs, f.1.length ≤ 20 ∧ f.2.length ≤ 400) (hc0 : 0 < BM fs size) (hc1 : BM fs size ≤ 60) (hex : extra ≤ 20) (w : World) (hrd : Rd w a (As fs)) :
  Calls Tryz.prog 64 #[.slice a fs.length cap, .int .i64 (size : Int), .int .i64 (extra : Int)] w fun e w' => ∃ v, e = .returned v ∧ w'.ownsRow w.heap.size 9 1 v (1 + fs.length + extra) (AM (Ck size fs extra)) ∧ Below w.heap.size w w' := by
 obtain ⟨i0, hi, hz0, hz1, hz2⟩ := info_parts Tryz.infoS
 have HD := Aa (Ki fs size a cap hn h0 h1 hf w hrd)
 have hbl : (AA size fs).length = fs.length := by simp [AA]
 have HBL := Aa hbl
 clear hbl
 go_enter Tryz.func64, Tryz.ntmps64
 go_wp2_with fail
 refine HD.out.mono ?_
 rintro e w1 ⟨vb, vr, rfl, hownb, hownr, hb1⟩
 obtain ⟨ab, cb, rfl, _, _, hrb⟩ := Aw hownb
 obtain ⟨ar, cr, rfl, hrr⟩ := hownr.rdRows
 have hA := Ll (AA size fs) ab cb (by rw [HBL.out]; omega) (fun t ht => by have := Eh size fs h0 hf t ht; omega) w1 hrb
 rw [HBL.out] at hA
 have A1 := Aa hA
 have A2 := Aa hrb
 have A3 := Aa hrr
 have A4 := Aa hb1
 have A5 := Aa hf
 clear hA hrb hrr hb1 hownb hownr hf hrd HD
 go_wp2_with fail
 refine A1.out.mono ?_
 rintro e w2 ⟨vh, rfl, hownh, hb2⟩
 obtain ⟨ah, ch, rfl, _, _, hrh⟩ := Aw hownh
 have hM := Kc size ((AA size fs).map AC) ah ch (by omega) (by rw [List.length_map, HBL.out]; omega) w2 hrh
 rw [List.length_map, HBL.out] at hM
 have B1 := Aa hM
 have B2 := Aa (Below.next A4.out hb2)
 have B3 := Aa (A2.out.later (Nat.le_refl _) hb2)
 have B4 := Aa (A3.out.later (Nat.le_refl _) hb2)
 clear hM hrh hownh hb2 A1 A2 A3 A4
 go_wp2_with fail
 refine B1.out.mono ?_
 rintro e w3 ⟨rfl, hb3⟩
 have hml := IG size fs
 have hH := FR (DK size fs) (by omega) w3
 have C1 := Aa hH
 have C2 := Aa (Below.next B2.out hb3)
 have C3 := Aa (B3.out.later (Nat.le_refl _) hb3)
 have C4 := Aa (B4.out.later (Nat.le_refl _) hb3)
 have C5 := Aa hml
 clear hH hb3 B1 B2 B3 B4 hml
 go_wp2_with fail
 refine C1.out.mono ?_
 rintro e w' ⟨rfl, rfl⟩
 obtain ⟨id, hid⟩ : ∃ x, x = AC (DK size fs) := ⟨_, rfl⟩
 rw [← hid]
 have HID := Aa hid
 clear hid C1
 have hrl := Dn size fs h0
 have C6 := Aa hrl
 clear hrl
 obtain ⟨wp, hwp⟩ : ∃ x, x = w' := ⟨_, rfl⟩
 subst hwp
 go_wp2_with (at_make; refine wpList_make_own _ rfl _ _ 23 rfl wp.heap.size 9 i0 (.string ByteArray.empty) 1 Tryz.underlying23 hi hz0 hz1 .i64 .i64 _ (1 + fs.length + extra) rfl rfl ?c0 ?c1 ?c2 (Nat.le_refl _) ?_)
 case c0 => omega
 case c1 => rw [hz2]; omega
 case c2 => unfold maxLen; omega
 intro w4 hown4 hg4
 have hb4 : Below wp.heap.size wp w4 := (Below.refl _ wp).grown hg4 (Nat.le_refl _) (by simp)
 have hS := Sw id (DK size fs) (by rw [C5.out]; omega) w4
 have D1 := Aa hS
 have D2 := Aa hown4
 have D3 := Aa hb4
 clear hS hown4 hb4 hg4
 go_wp2_with fail
 refine D1.out.mono ?_
 rintro e w5 ⟨rfl, hb5⟩
 have hown5 := Ab D2.out (Nat.le_refl _) hb5
 have hb5' := Below.next D3.out hb5
 have hsz5 := hb5'.size
 have E1 := Aa hb5'
 clear hb5 hb5' D1 D2 D3
 go_wp2_with (at_builtin; refine wpList_append_own _ rfl (.tmp 35) (.tmp 39) 23 rfl wp.heap.size 9 i0 (.string ByteArray.empty) 1 16 Tryz.underlying23 hi hz0 hz1 hz2 rfl (by decide) _ _ _ rfl (hown5.alloc _) ⟨w5.heap.size, 0, none⟩ 1 1 [.string (str (BD 77 id (DK size fs)))] rfl rfl (cell_one_new _ _ _) ?d2 ?d3 ?d4 ?d5 ?_)
 case d2 => intro u hu; simp at hu; subst hu; rfl
 case d3 => unfold maxLen; omega
 case d4 => omega
 case d5 => simp; omega
 intro v6 w6 hown6 hg6 _
 have hb6 := Az E1.out hsz5 hown5 hg6
 have F1 := Aa hown6
 have F2 := Aa hb6
 clear hown6 hg6 hb6 hown5 E1
 go_wp2_with fail
 go_loopw [11, 13, 43] (fun t _ i wr => ∃ k : Nat, k ≤ fs.length ∧ i = .int .i64 (k : Int) ∧ wr.ownsRow wp.heap.size 9 1 t (1 + k) (AM (BD 77 id (DK size fs) :: ((AA size fs).map (BD 70 id)).take k)) ∧ Below wp.heap.size wp wr)
  (fun _ _ i _ => fs.length - (intOf i).toNat)
 case atStart => exact ⟨0, by omega, rfl, by simpa [AM] using F1.out, F2.out⟩
 case round =>
  clear F1 F2
  obtain ⟨k, hk, rfl, hownr, hbl⟩ := hrel
  have hsz := hbl.size
  by_cases hlt : k < fs.length
  ·have hlb : k < (AA size fs).length := by rw [HBL.out]; exact hlt
   obtain ⟨b, off, rfl, hc0'⟩ := (C3.out.later (Nat.le_refl _) hbl) k (.string (str (AA size fs)[k])) (by simp [AM, hlb])
   have hS := SA id (AA size fs)[k] (by have := Eh size fs h0 A5.out _ (List.getElem_mem hlb); omega) wr
   have G1 := Aa hS
   have G2 := Aa hownr
   have G3 := Aa hbl
   clear hS hownr hbl
   go_wp2_with fail
   refine G1.out.mono ?_
   rintro e w7 ⟨rfl, hb7⟩
   have hown7 := Ab G2.out (Nat.le_refl _) hb7
   have hbl7 : Below wp.heap.size wp w7 := G3.out.trans (hb7.mono (by omega))
   have hsz7 := hbl7.size
   have G4 := Aa hbl7
   clear hb7 hbl7 G1 G2 G3 hc0'
   go_wp2_with (at_builtin; refine wpList_append_own _ rfl (.tmp 47) (.tmp 51) 23 rfl wp.heap.size 9 i0 (.string ByteArray.empty) 1 16 Tryz.underlying23 hi hz0 hz1 hz2 rfl (by decide) _ _ _ rfl (hown7.alloc _) ⟨w7.heap.size, 0, none⟩ 1 1 [.string (str (BD 70 id (AA size fs)[k]))] rfl rfl (cell_one_new _ _ _) ?e2 ?e3 ?e4 ?e5 ?_)
   case e2 => intro u hu; simp at hu; subst hu; rfl
   case e3 => unfold maxLen; omega
   case e4 => omega
   case e5 => simp; omega
   intro v8 w8 hown8 hg8 _
   have hb8 := Az G4.out hsz7 hown7 hg8
   have hown8' : w8.ownsRow wp.heap.size 9 1 v8 (1 + (k + 1)) (AM (BD 77 id (DK size fs) :: ((AA size fs).map (BD 70 id)).take (k + 1))) := by
    rw [Ap _ k (by simpa using hlb), List.getElem_map, ← List.cons_append, Cg]
    exact hown8
   have G5 := Aa hown8'
   have G6 := Aa hb8
   clear hown8 hown8' hg8 hb8 hown7 G4
   go_wp2_with fail
   go_roundw
   case rel => exact ⟨k + 1, by omega, by go_num, G5.out, G6.out⟩
   case measure => simp [intOf]; omega
  ·obtain rfl : k = fs.length := by omega
   rw [List.take_of_length_le (by rw [List.length_map, HBL.out]; exact Nat.le_refl _)] at hownr
   have hX := Jd (BB size fs) (size / 2) extra ar cr (by rw [C6.out]; omega) (by rw [C6.out]; exact hc0) (by omega) (by omega) (Nj size fs h0) wr (C4.out.later (Nat.le_refl _) hbl)
   have G1 := Aa hX
   have G2 := Aa hownr
   have G3 := Aa hbl
   clear hX hownr hbl
   go_wp2_with fail
   rw [show ((size : Int) / 2) = ((size / 2 : Nat) : Int) from by omega]
   refine G1.out.mono ?_
   rintro e w7 ⟨gx, rfl, hrx, hb7⟩
   have hwrs := G3.out.size
   have hc2s := C2.out.size
   have hrx := OwnRows.base (B' := w.heap.size) (by omega) hrx
   have hown7 := Ab G2.out (Nat.le_refl _) hb7
   have hbl7 : Below wp.heap.size wp w7 := G3.out.trans (hb7.mono (by have := G3.out.size; omega))
   have hsz7 := hbl7.size
   have hown7' := Ad (base' := w.heap.size) C2.out.size hown7
   have G4 := Aa hbl7
   have G5 := Aa hown7
   have G6 := Aa hrx
   clear hown7 hown7' hbl7 hrx hb7 G1 G2 G3
   go_wp2_with fail
   go_loopw [11, 14, 15, 16, 60] (fun t _ _ _ i wr => ∃ k : Nat, k ≤ extra ∧ i = .int .i64 (k : Int) ∧ wr.ownsRow wp.heap.size 9 1 t (1 + fs.length + k) (AM (BD 77 id (DK size fs) :: ((AA size fs).map (BD 70 id) ++ (Bg size fs (size / 2) extra).take k))) ∧ Below wp.heap.size wp wr ∧ OwnRows wr w.heap.size (.slice (some ⟨gx, 0, none⟩) extra extra) (Ku (BB size fs) (size / 2) extra))
    (fun _ _ _ _ i _ => extra - (intOf i).toNat)
   case atStart => exact ⟨0, by omega, rfl, by simpa using G5.out, G4.out, G6.out⟩
   case round =>
    clear G4 G5 G6
    obtain ⟨k, hk, rfl, hownr, hbl, hrx⟩ := hrel
    have hsz := hbl.size
    by_cases hlt : k < extra
    ·have hel := FA (BB size fs) (size / 2) k
     have hge : (Ku (BB size fs) (size / 2) extra)[k]? = some (BZ (BB size fs) (size / 2) k) := by simp [Ku, hlt]
     obtain ⟨ax, cx, hax, hrdx⟩ := hrx.rdRows
     obtain ⟨b, off, a7, c7, hab, hcx, hr7⟩ := hrdx k _ hge
     rw [hab] at hax
     simp only [Value.slice.injEq, Option.some.injEq, Addr.mk.injEq, and_true] at hax
     obtain ⟨⟨rfl, rfl⟩, hx1, hx2⟩ := hax
     clear hx1 hx2
     rw [Nat.zero_add] at hcx
     have hT := KG (BZ (BB size fs) (size / 2) k) a7 c7 (by rw [hel]; omega) (LG _ _ _) wr hr7
     have htl := EC (BZ (BB size fs) (size / 2) k)
     rw [hel] at htl
     have J1 := Aa hT
     have J2 := Aa hownr
     have J3 := Aa hbl
     have J4 := Aa hrx
     have J5 := Aa htl
     have J6 := Aa hel
     clear hT hownr hbl hrx htl hel hr7 hge hrdx hab
     go_wp2_with fail
     refine J1.out.mono ?_
     rintro e w8 ⟨rfl, hb8⟩
     have hE := Me k (Cx (BZ (BB size fs) (size / 2) k)) (by omega) (by rw [J5.out]; omega) w8
     have J7 := Aa hE
     have J8 := Aa hb8
     clear hE hb8 hcx
     go_wp2_with fail
     refine J7.out.mono ?_
     rintro e w9 ⟨rfl, hb9⟩
     have hb89 := Below.next J8.out hb9
     have hbody : (BI k (Cx (BZ (BB size fs) (size / 2) k))).length ≤ 100000 := by
      unfold BI
      rw [List.length_append, Ao, J5.out]; omega
     have hS := SL id (BI k (Cx (BZ (BB size fs) (size / 2) k))) hbody w9
     have J9 := Aa hS
     have J10 := Aa hb89
     clear hS hb89 hb9 hbody J7 J8 J1
     go_wp2_with fail
     refine J9.out.mono ?_
     rintro e w10 ⟨rfl, hb10⟩
     have hch := Below.next J10.out hb10
     have hown10 := Ab J2.out (Nat.le_refl _) hch
     have hbl10 : Below wp.heap.size wp w10 := J3.out.trans (hch.mono (by omega))
     have hrx10 := J4.out.later hch
     have hsz10 := hbl10.size
     have L1 := Aa hbl10
     have L2 := Aa hrx10
     clear hch hbl10 hrx10 hb10 J9 J10 J2 J3 J4
     go_wp2_with (at_builtin; refine wpList_append_own _ rfl (.tmp 69) (.tmp 73) 23 rfl wp.heap.size 9 i0 (.string ByteArray.empty) 1 16 Tryz.underlying23 hi hz0 hz1 hz2 rfl (by decide) _ _ _ rfl (hown10.alloc _) ⟨w10.heap.size, 0, none⟩ 1 1 [.string (str (BD 82 id (BI k (Cx (BZ (BB size fs) (size / 2) k)))))] rfl rfl (cell_one_new _ _ _) ?g2 ?g3 ?g4 ?g5 ?_)
     case g2 => intro u hu; simp at hu; subst hu; rfl
     case g3 => unfold maxLen; omega
     case g4 => omega
     case g5 => simp; omega
     intro v11 w11 hown11 hg11 _
     have hb11 := Az L1.out hsz10 hown10 hg11
     have hrx11 := (L2.out.later ((Below.refl _ _).alloc (Nat.le_refl _) (.cells #[.string (str (BD 82 id (BI k (Cx (BZ (BB size fs) (size / 2) k)))))] 9))).kept (hown10.alloc _) (by decide) (by decide) hg11
     have hown11' : w11.ownsRow wp.heap.size 9 1 v11 (1 + fs.length + (k + 1)) (AM (BD 77 id (DK size fs) :: ((AA size fs).map (BD 70 id) ++ (Bg size fs (size / 2) extra).take (k + 1)))) := by
      have e1 : (Bg size fs (size / 2) extra).take (k + 1) = (Bg size fs (size / 2) extra).take k ++ [BD 82 id (BI k (Cx (BZ (BB size fs) (size / 2) k)))] := by
       rw [Ap _ k (by simpa [Bg] using hlt)]
       congr 2
       simp only [Bg, List.getElem_map, List.getElem_range]
       unfold Db MF
       rw [← HID.out]
      rw [e1, ← List.append_assoc, ← List.cons_append, Cg]
      exact hown11
     have L3 := Aa hb11
     have L4 := Aa hrx11
     have L5 := Aa hown11'
     clear hb11 hrx11 hown11' hown11 hg11 hown10 L1 L2
     go_wp2_with fail
     go_roundw
     case rel => exact ⟨k + 1, by omega, by go_num, L5.out, L3.out, L4.out⟩
     case measure => simp [intOf]; omega
    ·obtain rfl : k = extra := by omega
     rw [List.take_of_length_le (by simp [Bg])] at hownr
     have hres : wr.ownsRow w.heap.size 9 1 u11 (1 + fs.length + k) (AM (Ck size fs k)) := by
      have := Ad (base' := w.heap.size) C2.out.size hownr
      unfold Ck Ey MF
      rw [← HID.out]
      exact this
     have hfin : Below w.heap.size w wr := Below.next C2.out hbl
     clear hownr
     go_wp2_with fail
     go_ret
     exact ⟨_, rfl, hres, hfin⟩
structure Handed (w : World) (fs : List Ak) (a : Option Addr) (cap : Nat) : Prop where
 rd : Rd w a (As fs)
 cap1 : fs.length ≤ cap
 short : ∀ f ∈ fs, f.1.length < 140737488355328 ∧ f.2.length < 140737488355328
def Fg (b x : Int) : Bool := !Ay b || decide (x < 0) || decide (20 < x)
theorem OJ (fs : List Ak) (b x : Int) (a : Option Addr) (cap : Nat) (h : Fg b x = true) (w : World) :
  Calls Tryz.prog 37 #[.slice a fs.length cap, .int .i64 b, .int .i64 x] w fun e w' => e = .returned (.tuple #[.slice none 0 0, .int .i64 1]) ∧ Below w.heap.size w w' := by
 by_cases h1 : Ay b = true
 ·by_cases h2 : x < 0
  ·go_enter Tryz.func37, Tryz.ntmps37
   go_wp2_with (go_at_call 61; refine (Bm b w).mono ?_; rintro e w' ⟨rfl, rfl⟩)
   go_ret2
   exact ⟨rfl, Below.refl _ _⟩
  ·have h3 : 20 < x := by
    unfold Fg at h
    simp [h1] at h
    omega
   go_enter Tryz.func37, Tryz.ntmps37
   go_wp2_with (go_at_call 61; refine (Bm b w).mono ?_; rintro e w' ⟨rfl, rfl⟩)
   go_ret2
   exact ⟨rfl, Below.refl _ _⟩
 ·have h1' : Ay b = false := by simpa using h1
  clear h1
  go_enter Tryz.func37, Tryz.ntmps37
  go_wp2_with (go_at_call 61; refine (Bm b w).mono ?_; rintro e w' ⟨rfl, rfl⟩)
  go_ret2
  exact ⟨rfl, Below.refl _ _⟩
theorem Hr {b x : Int} (h : Fg b x = false) : ∃ size extra : Nat, b = (size : Int) ∧ x = (extra : Int) ∧ 0 < size ∧ size ≤ 32 ∧ size % 2 = 0 ∧ extra ≤ 20 ∧ Ay b = true := by
 unfold Fg at h
 simp only [Bool.or_eq_false_iff, Bool.not_eq_false', decide_eq_false_iff_not] at h
 obtain ⟨⟨h1, h2⟩, h3⟩ := h
 have h4 := of_decide_eq_true h1
 exact ⟨b.toNat, x.toNat, by omega, by omega, by omega, by omega, by omega, by omega, h1⟩
theorem Eu {fs : List Ak} (h : Cm fs = true) : 1 ≤ fs.length ∧ fs.length ≤ 6 ∧ ∀ f ∈ fs, f.1.length ≤ 20 ∧ f.2.length ≤ 400 := by
 unfold Cm at h
 rw [Bool.and_eq_true] at h
 have h1 := of_decide_eq_true h.1
 refine ⟨h1.1, h1.2, ?_⟩
 intro f hf
 obtain ⟨i, hi, rfl⟩ := List.mem_iff_getElem.1 hf
 have h2 := (List.all_eq_true.1 h.2) i (by simpa using hi)
 unfold OV at h2
 rw [List.getElem?_eq_getElem hi] at h2
 rw [Bool.and_eq_true] at h2
 have h3 := of_decide_eq_true h2.1
 exact ⟨h3.2.1, h3.2.2⟩
def CO (fs : List Ak) (size : Nat) : Bool := Cm fs && decide (1 ≤ BM fs size) && decide (BM fs size ≤ 60)
theorem Mj (fs : List Ak) (b x : Int) (size extra : Nat) (a : Option Addr) (cap : Nat) (hb : b = (size : Int)) (hx : x = (extra : Int)) (h0 : 0 < size) (h32 : size ≤ 32) (hex : extra ≤ 20) (hss : Ay b = true) (h : CO fs size = false) (w : World) (hh : Handed w fs a cap) :
  Calls Tryz.prog 37 #[.slice a fs.length cap, .int .i64 b, .int .i64 x] w fun e w' => e = .returned (.tuple #[.slice none 0 0, .int .i64 2]) ∧ Below w.heap.size w w' := by
 have e1 : ¬ x < 0 := by omega
 have e2 : ¬ 20 < x := by omega
 have HB := Aa hb
 have HX := Aa hx
 clear hb hx
 by_cases h1 : Cm fs = true
 ·obtain ⟨hn1, hn2, hf⟩ := Eu h1
  have hC := fun W (hW : Below w.heap.size w W) => ET fs size a cap h0 h32 hn2 (fun f hm => (hf f hm).2) W (hh.rd.later (Nat.le_refl _) hW)
  rw [← HB.out] at hC
  have HC := Aa hC
  have HH := Aa hh
  clear hC hf
  have hcnt : BM fs size < 1 ∨ 60 < BM fs size := by
   unfold CO at h
   simp [h1] at h
   omega
  obtain ⟨c, hc⟩ : ∃ c, c = BM fs size := ⟨_, rfl⟩
  rw [← hc] at hcnt HC
  clear hc h
  rcases hcnt with h2 | h2
  ·go_enter Tryz.func37, Tryz.ntmps37
   go_wp2_with fail
   refine (Bm b w).mono ?_
   rintro e w' ⟨rfl, rfl⟩
   go_wp2_with fail
   refine (FC fs a cap HH.out.cap1 HH.out.short _ HH.out.rd).mono ?_
   rintro e w1 ⟨rfl, hb1⟩
   go_wp2_with fail
   refine (HC.out w1 hb1).mono ?_
   rintro e w2 ⟨rfl, hb2⟩
   go_wp2_with fail
   go_ret2
   exact ⟨rfl, Below.next hb1 hb2⟩
  ·go_enter Tryz.func37, Tryz.ntmps37
   go_wp2_with fail
   refine (Bm b w).mono ?_
   rintro e w' ⟨rfl, rfl⟩
   go_wp2_with fail
   refine (FC fs a cap HH.out.cap1 HH.out.short _ HH.out.rd).mono ?_
   rintro e w1 ⟨rfl, hb1⟩
   go_wp2_with fail
   refine (HC.out w1 hb1).mono ?_
   rintro e w2 ⟨rfl, hb2⟩
   go_wp2_with fail
   go_ret2
   exact ⟨rfl, Below.next hb1 hb2⟩
 ·have h1' : Cm fs = false := by simpa using h1
  have HH := Aa hh
  clear h1 h hh
  go_enter Tryz.func37, Tryz.ntmps37
  go_wp2_with fail
  refine (Bm b w).mono ?_
  rintro e w' ⟨rfl, rfl⟩
  go_wp2_with fail
  refine (FC fs a cap HH.out.cap1 HH.out.short _ HH.out.rd).mono ?_
  rintro e w1 ⟨rfl, hb1⟩
  go_wp2_with fail
  go_ret2
  exact ⟨rfl, hb1⟩
theorem Lw (fs : List Ak) (b x : Int) (size extra : Nat) (a : Option Addr) (cap : Nat) (hb : b = (size : Int)) (hx : x = (extra : Int)) (h0 : 0 < size) (h32 : size ≤ 32) (heven : size % 2 = 0) (hex : extra ≤ 20) (hss : Ay b = true) (h : CO fs size = true) (w : World) (hh : Handed w fs a cap) :
  Calls Tryz.prog 37 #[.slice a fs.length cap, .int .i64 b, .int .i64 x] w fun e w' => ∃ v, e = .returned (.tuple #[v, .int .i64 0]) ∧ w'.ownsRow w.heap.size 9 1 v (1 + fs.length + extra) (AM (Ck size fs extra)) ∧ Below w.heap.size w w' := by
 have e1 : ¬ x < 0 := by omega
 have e2 : ¬ 20 < x := by omega
 unfold CO at h
 rw [Bool.and_eq_true, Bool.and_eq_true] at h
 obtain ⟨⟨h1, h2⟩, h3⟩ := h
 have h2 := of_decide_eq_true h2
 have h3 := of_decide_eq_true h3
 obtain ⟨hn1, hn2, hf⟩ := Eu h1
 have hC := fun W (hW : Below w.heap.size w W) => ET fs size a cap h0 h32 hn2 (fun f hm => (hf f hm).2) W (hh.rd.later (Nat.le_refl _) hW)
 have hP := fun W (hW : Below w.heap.size w W) => Hm fs size extra a cap hn2 h0 h32 heven hf h2 h3 hex W (hh.rd.later (Nat.le_refl _) hW)
 rw [← hb] at hC hP
 rw [← hx] at hP
 obtain ⟨c, hc⟩ : ∃ c, c = BM fs size := ⟨_, rfl⟩
 rw [← hc] at h2 h3 hC
 have HC := Aa hC
 have HP := Aa hP
 have HH := Aa hh
 have HB := Aa hb
 have HX := Aa hx
 clear hC hP hh hf hb hx hc
 go_enter Tryz.func37, Tryz.ntmps37
 go_wp2_with fail
 refine (Bm b w).mono ?_
 rintro e w' ⟨rfl, rfl⟩
 go_wp2_with fail
 refine (FC fs a cap HH.out.cap1 HH.out.short _ HH.out.rd).mono ?_
 rintro e w1 ⟨rfl, hb1⟩
 go_wp2_with fail
 refine (HC.out w1 hb1).mono ?_
 rintro e w2 ⟨rfl, hb2⟩
 have hb12 := Below.next hb1 hb2
 go_wp2_with fail
 refine (HP.out w2 hb12).mono ?_
 rintro e w3 ⟨v, rfl, hown, hb3⟩
 have hfin := Below.next hb12 hb3
 have hown' := Ad hb12.size hown
 clear hown hb3
 go_wp2_with fail
 go_ret2
 exact ⟨_, rfl, hown', hfin⟩
theorem Od (n k : Nat) : DD (n / 256) k = DD n (k + 1) := by
  unfold DD
  rw [Nat.div_div_eq_div_mul]
  congr 2
  rw [show 8 * (k + 1) = 8 + 8 * k from by omega, Nat.pow_add]
theorem KA (n : Nat) : ∀ k, Af n (k + 1) = Af (n / 256) k ++ [DD n 0] := by
  intro k
  induction k with
  | zero => rfl
  | succ k ih =>
    have e : Af n (k + 1 + 1) = DD n (k + 1) :: Af n (k + 1) := rfl
    rw [e, ih]
    simp only [Af, Od, List.cons_append]
theorem DS (l : List UInt8) (hl : l.length ≤ 1000000) (w : World) :
    Calls Tryz.prog 49 #[.string (str l)] w fun e w' => e = .returned (.int .u64 ((AC l : Nat) : Int)) ∧ w' = w := by
  have hs : (str l).size = l.length := Ae l
  go_enter Tryz.func49, Tryz.ntmps49
  go_wp2
  go_loop [3, 4] (fun x i => ∃ k h' : Nat, k ≤ l.length ∧ h' < P64 ∧ Hid ((l.drop k).foldl DG h' = AC l) ∧ x = .int .u64 (h' : Int) ∧ i = .int .i64 (k : Int))
                    (fun _ i => l.length - (intOf i).toNat)
  case atStart => exact ⟨0, 14695981039346656037, by omega, by decide, Aa rfl, rfl, rfl⟩
  case round =>
    obtain ⟨k, h', hk, hh', hm, rfl, rfl⟩ := hrel
    by_cases hlt : k < l.length
    · have hix := CA l k (k : Int) rfl hlt
      go_wp2
      refine ⟨⟨k + 1, DG h' l[k], by omega, FZ _ _, Aa ?_, by rw [FO h' hh'], by go_num⟩, ?_⟩
      · have := hm.out
        rw [List.drop_eq_getElem_cons hlt, List.foldl_cons] at this
        exact this
      · simp [intOf]; omega
    · have hk2 : k = l.length := by omega
      subst hk2
      go_wp2
      go_ret
      have := hm.out
      rw [List.drop_eq_nil_of_le (Nat.le_refl _)] at this
      simp only [List.foldl_nil] at this
      rw [← this]
      exact ⟨rfl, rfl⟩
theorem Ia (W : World) (g : Nat) (b : UInt8) (x : Int) (hx : x = (b.toNat : Int)) (hc : W.cell? ⟨g, 0, none⟩ = some (.int .u8 x)) :
    (convert 67 9 (.slice (some ⟨g, 0, none⟩) 1 1)).run Tryz.prog W = .ok (.string (str [b])) W := by
  subst hx
  exact run_convert_bytes_back (P := Tryz.prog) W 67 9 5 ⟨g, 0, none⟩ 1 [b] Tryz.underlying67 Tryz.underlying5 Tryz.underlying9 (by
    intro j hj
    have : j = 0 := by simpa using hj
    subst this
    simpa [Addr.add] using hc)
theorem Ry {W w1 : World} (hb : Below W.heap.size W w1) (g : Nat) (b : UInt8) (x : Int) (hx : x = (b.toNat : Int)) : W.cell? ⟨g, 0, none⟩ = some (.int .u8 x) → (convert 67 9 (.slice (some ⟨g, 0, none⟩) 1 1)).run Tryz.prog w1 = .ok (.string (str [b])) w1 := by
  intro h
  refine Ia w1 g b x hx ?_
  rw [hb.cell (World.block_lt_of_cell? W _ h)]
  exact h
theorem Br : ∀ (k n : Nat) (w : World), k ≤ 8 → n < P64 →
    Calls Tryz.prog 68 #[.int .u64 (n : Int), .int .i64 (k : Int)] w fun e w' => e = .returned (.string (str (Af n k))) ∧ Below w.heap.size w w' := by
  intro k
  induction k with
  | zero =>
    intro n w _ _
    go_enter Tryz.func68, Tryz.ntmps68
    go_wp2
    go_ret
    exact ⟨rfl, Below.refl _ _⟩
  | succ k ih =>
    intro n w hk hn
    have IH := fun W => ih (n / 256) W (by omega) (Nat.lt_of_le_of_lt (Nat.div_le_self _ _) hn)
    have HIH := Aa IH
    have hx : IntKind.u8.wrap ((n : Int).tmod 256) = ((DD n 0).toNat : Int) := by
      rw [← Ef, Int.tmod_eq_emod_of_nonneg (by omega), IntKind.wrap_u8']
      simp
    have HX := Aa hx
    have hconv : ∀ W : World, (convert 67 9 (.slice (some ⟨W.heap.size, 0, none⟩) 1 1)).run Tryz.prog (W.alloc (.cells #[.int .u8 (IntKind.u8.wrap ((n : Int).tmod 256))] 5)) = .ok (.string (str [DD n 0])) (W.alloc (.cells #[.int .u8 (IntKind.u8.wrap ((n : Int).tmod 256))] 5)) :=
      fun W => Ia _ W.heap.size _ _ hx (by simp)
    have hconv' : ∀ W : World, (convert 67 9 (.slice (some ⟨W.heap.size, 0, none⟩) 1 1)).run Tryz.prog (W.alloc (.cells #[.int .u8 (IntKind.u8.wrap ((n : Int).tmod 256))] 5)).drew = .ok (.string (str [DD n 0])) (W.alloc (.cells #[.int .u8 (IntKind.u8.wrap ((n : Int).tmod 256))] 5)).drew :=
      fun W => Ia _ W.heap.size _ _ hx (by simp)
    obtain ⟨cb, hcb⟩ : ∃ c, c = DD n 0 := ⟨_, rfl⟩
    have hfin : Af n (k + 1) = Af (n / 256) k ++ [cb] := by rw [hcb]; exact KA n k
    rw [← hcb] at hconv hconv' HX
    have HF := Aa hfin
    have hsz : (str (Af (n / 256) k)).size + (str [cb]).size ≤ 9223372036854775807 := by rw [Ae, Ae, Ao]; simp; omega
    have hcat : str (Af (n / 256) k) ++ str [cb] = str (Af n (k + 1)) := by rw [Iq, De, hfin]
    have HCAT := Aa hcat
    obtain ⟨q, hq⟩ : ∃ q, q = n / 256 := ⟨_, rfl⟩
    rw [← hq] at HIH hsz HCAT
    have eq1 : ((n : Int) / 256) = (q : Int) := by rw [hq]; omega
    have hn' : n < 18446744073709551616 := hn
    have wq : IntKind.u64.wrap (q : Int) = (q : Int) := by rw [IntKind.wrap_u64]; omega
    have wk : IntKind.i64.wrap (k : Int) = (k : Int) := by rw [IntKind.wrap_i64]; omega
    have HN := Aa hn'
    clear hn'
    clear IH ih hx hcb hfin hcat hq
    go_enter Tryz.func68, Tryz.ntmps68
    go_wp2_with fail
    go_region_with (go_at_call 68; refine (HIH.out _).mono ?_; rintro e w1 ⟨rfl, hb1⟩; have hcq := Ry hb1 w.heap.size cb (IntKind.u8.wrap ((n : Int).tmod 256)) HX.out; (try simp at hcq))
    all_goals go_wp2_with fail
    all_goals go_ret
    all_goals refine ⟨congrArg (fun s => Ending.returned (Value.string s)) HCAT.out, ?_⟩
    · exact Below.alloc (Below.next (w1 := w.drew) (Below.refl _ _).drew hb1) hb1.size _
    · exact Below.next (w1 := (w.alloc (Obj.cells #[Value.int IntKind.u8 (IntKind.u8.wrap ((n : Int).tmod 256))] 5)).drew) ((Below.refl _ _).alloc (Nat.le_refl _) _).drew hb1
    · exact Below.next (w1 := (w.alloc (Obj.cells #[Value.int IntKind.u8 (IntKind.u8.wrap ((n : Int).tmod 256))] 5)).drew) ((Below.refl _ _).alloc (Nat.le_refl _) _).drew hb1
end Go.Proofs.YtonjphollmdicaaGreatDoor
