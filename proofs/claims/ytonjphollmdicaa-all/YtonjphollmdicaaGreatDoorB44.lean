import Derived.Test.YtonjphollmdicaaGreatDoorB12
import Derived.Test.YtonjphollmdicaaGreatDoorB14
import Derived.Test.YtonjphollmdicaaGreatDoorB15
import Derived.Test.YtonjphollmdicaaGreatDoorB32
import Derived.Test.YtonjphollmdicaaGreatDoorB37
import Derived.Test.YtonjphollmdicaaGreatDoorB43
import Derived.Deep.CutRange
set_option maxRecDepth 100000
set_option maxHeartbeats 4000000
set_option linter.unusedSimpArgs false
namespace Go.Proofs.YtonjphollmdicaaGreatDoor
open Go.ChangeShapes Go.WideShapes Go.ChangeAt Go.RowKit
theorem Lx (l : List Nat) (k : Nat) : NB (l ++ [k]) = NB l ++ [.int .i64 (k : Int)] := by simp [NB]
theorem Jq {w : World} {a : Option Addr} {l : List Bool} (h : Rd w a (FL l)) (k : Nat) (hk : k < l.length) : ∃ b off, a = some ⟨b, off, none⟩ ∧ w.cell? ⟨b, off + k, none⟩ = some (.bool l[k]) := h k _ (by simp [FL, hk])
theorem Iv {es : List (List UInt8)} {e : Nat × List UInt8} (h : e ∈ Be es) : e.1 < 20 ∧ e.2 = es.getD e.1 [] ∧ e.2 ≠ [] := by
 unfold Be at h
 obtain ⟨j, hj, rfl⟩ := List.mem_map.1 h
 rw [List.mem_filter, List.mem_range, decide_eq_true_eq] at hj
 exact ⟨hj.1, rfl, hj.2⟩
theorem JX (es : List (List UInt8)) : ((Be es).map (·.1)).Nodup := by
 unfold Be
 rw [List.map_map]
 have : ((fun x : Nat × List UInt8 => x.1) ∘ fun j => (j, es.getD j [])) = id := rfl
 rw [this, List.map_id]
 exact List.nodup_range.filter _
theorem OK (P : Nat → Option (List UInt8)) (es : List (List UInt8)) (K size LB : Nat) (fv stv : Value) (xa sa pa : Option Addr) (xc sc pc : Nat) (lo ex : Value) (hK0 : 0 < K) (hK : K ≤ 60) (h2 : 2 ≤ size) (h32 : size ≤ 32) (hev : size % 2 = 0)
  (hP : ∀ i p, P i = some p → p.length = size) (hes : es.length = 20) (hel : ∀ e ∈ es, e = [] ∨ e.length = size) (hen : K - (AT K P).length ≤ (Be es).length) (w : World)
  (hb : Blk w LB [.int .i64 (size : Int), fv, .slice xa 20 xc, .slice sa K sc, stv, .slice pa K pc, lo, ex]) (hx : Rd w xa (AM es)) (hs : Rd w sa (AM ((List.range K).map fun i => (P i).getD []))) (hp : Rd w pa (FL ((List.range K).map fun i => (P i).isSome))) :
  Calls Tryz.prog 48 #[.pointer (some ⟨LB, 0, none⟩)] w fun e w' => ∃ v, e = .returned v ∧ w'.ownsRow w.heap.size 9 1 v K (AM (GV size K P (Be es))) ∧ Below w.heap.size w w' := by
 obtain ⟨i0, hi, hz0, hz1, hz2⟩ := info_parts Tryz.infoS
 obtain ⟨j0, hj, hy0, hy1, hy2⟩ := info_parts Tryz.infoU16s
 obtain ⟨l0, hl, hx0, hx1, hx2⟩ := info_parts Tryz.infoI
 obtain ⟨wd, hwd⟩ : ∃ x, x = size / 2 := ⟨_, rfl⟩
 have hwd0 : 0 < wd := by omega
 have hwd1 : wd ≤ 16 := by omega
 have HWD := Aa hwd
 have hblk : ∀ W, Below w.heap.size w W → W.cell? ⟨LB, 2, none⟩ = some (.slice xa 20 xc) ∧ W.cell? ⟨LB, 3, none⟩ = some (.slice sa K sc) ∧ W.cell? ⟨LB, 5, none⟩ = some (.slice pa K pc) := fun W hW => by
  have hk := hb.touch (Touch.of_below hW []) (by simp)
  exact ⟨(hk 2 _ rfl).1, (hk 3 _ rfl).1, (hk 5 _ rfl).1⟩
 have HBK := Aa hblk
 have HX := Aa hx
 have HS := Aa hs
 have HPR := Aa hp
 have HPL := Aa hP
 have HEL := Aa hel
 have HEN := Aa hen
 obtain ⟨c2, c3, c5⟩ := hblk w (Below.refl _ _)
 clear hblk hb hx hs hp hP hel hen hwd
 go_enter Tryz.func48, Tryz.ntmps48
 go_wp2_with fail
 go_loopw [4, 5, 6] (fun va vr i W => ∃ k : Nat, k ≤ K ∧ i = .int .i64 (k : Int) ∧ W.ownsRow w.heap.size 3 1 va (Cw P k).length (NB (Cw P k)) ∧ OwnRowsU W w.heap.size vr ((Cw P k).map fun i => C7 ((P i).getD [])) ∧ Below w.heap.size w W)
  (fun _ _ i _ => K - (intOf i).toNat)
 case atStart => exact ⟨0, by omega, rfl, World.ownsRow_nil _ _ _ _, OwnRowsU.nil _ _, Below.refl _ _⟩
 case round =>
  obtain ⟨k, hk, rfl, hownr, hrows, hbl⟩ := hrel
  have hsz := hbl.size
  obtain ⟨c2, c3, c5⟩ := HBK.out wr hbl
  by_cases hlt : k < K
  ·obtain ⟨pb, po, rfl, hpc⟩ := Jq (HPR.out.later (Nat.le_refl _) hbl) k (by simp; exact hlt)
   rw [List.getElem_map, List.getElem_range] at hpc
   cases hpk : P k with
   | none =>
    rw [hpk] at hpc
    have e1 := Rf (P := P) (n := k) (by rw [hpk]; rfl)
    have F1 := Aa hownr
    have F2 := Aa hrows
    have F3 := Aa hbl
    have E1 := Aa e1
    simp only [Option.isSome_none] at hpc
    clear hownr hrows hbl hpk e1
    go_wp2_with fail
    exact ⟨⟨k + 1, by omega, by go_num, by rw [E1.out]; exact F1.out, by rw [E1.out]; exact F2.out, F3.out⟩, by simp [intOf]; omega⟩
   | some tx =>
    rw [hpk] at hpc
    simp only [Option.isSome_some] at hpc
    have e1 := Pt (P := P) (n := k) (by rw [hpk]; rfl)
    have htl := HPL.out k tx hpk
    obtain ⟨bb, offb, rfl, hcb0⟩ := HS.out k (.string (str tx)) (by simp [AM, hlt, hpk])
    obtain ⟨m, hm⟩ : ∃ m, m = (Cw P k).length := ⟨_, rfl⟩
    have hmk : m ≤ k := by rw [hm]; exact Oz P k
    rw [← hm] at hownr
    have hL := hm.symm
    have hRl : ((Cw P k).map fun i => C7 ((P i).getD [])).length = m := by rw [List.length_map]; exact hL
    have F1 := Aa hownr
    have F2 := Aa hrows
    have F3 := Aa hbl
    have E1 := Aa e1
    have HCB := Aa hcb0
    have HPK := Aa hpk
    clear hownr hrows hbl hpk e1 hcb0 hm
    go_wp2_with (at_builtin; refine wpList_append_own _ rfl (.tmp 30) (.tmp 32) 31 rfl w.heap.size 3 l0 (.int .i64 0) 1 8 Tryz.underlying31 hl hx0 hx1 hx2 rfl (by decide) _ _ _ rfl (F1.out.alloc _) ⟨wr.heap.size, 0, none⟩ 1 1 [.int .i64 (k : Int)] rfl rfl (cell_one_new _ _ _) ?d2 ?d3 ?d4 ?d5 ?_)
    case d2 => intro u hu; simp at hu; subst hu; rfl
    case d3 => unfold maxLen; omega
    case d4 => omega
    case d5 => simp; omega
    intro v11 w11 hown11 hg11 _
    have hb11 := Az F3.out hsz F1.out hg11
    have hrows11 := (F2.out.later ((Below.refl _ _).alloc (Nat.le_refl _) _)).kept (F1.out.alloc _) (by decide) (by decide) hg11
    obtain ⟨c2, c3, c5⟩ := HBK.out w11 hb11
    have hcb : w11.cell? ⟨bb, offb + k, none⟩ = some (.string (str tx)) := by rw [hb11.cell (World.block_lt_of_cell? w _ HCB.out)]; exact HCB.out
    have G1 := Aa hown11
    have G2 := Aa hrows11
    have G3 := Aa hb11
    have hsz11 : w.heap.size ≤ w11.heap.size := hb11.size
    have hRow := It tx (by omega) w11
    rw [htl, ← HWD.out] at hRow
    have HRW := Aa hRow
    clear hown11 hrows11 hb11 hg11 F1 F2 F3 hRow
    go_wp2_with fail
    refine HRW.out.mono ?_
    rintro e w12 ⟨vq, rfl, hownv, hb12⟩
    have hlr : (C7 tx).length = wd := by rw [BK, htl, HWD.out]
    have J1 := Aa (Ab G1.out (Nat.le_refl _) hb12)
    obtain ⟨vs, q1, q2⟩ := G2.out.later hb12
    have J2 := Aa q1
    have J3 := Aa q2
    have J4 := Aa (Ad hsz11 hownv)
    have J5 := Aa (G3.out.trans (hb12.mono hsz11))
    have hsz12 : w.heap.size ≤ w12.heap.size := J5.out.size
    have HLR := Aa hlr
    rw [hRl] at J2
    have hone : ∀ u ∈ [vq], u.oneCell' = true := by
     intro u hu
     simp at hu
     subst hu
     rcases J4.out.2 with ⟨rfl, _⟩ | ⟨_, _, _, rfl, _⟩ <;> rfl
    have HONE := Aa hone
    clear q1 q2 hownv hb12 G1 G2 G3 HRW hcb hlr hone c2 c3 c5
    obtain ⟨ar, cr, rfl, -, -, -⟩ := Aw J4.out
    go_wp2_with (at_builtin; refine wpList_append_own _ rfl (.tmp 34) (.tmp 43) 120 rfl w.heap.size 121 j0 (.slice none 0 0) 1 24 Tryz.underlying120 hj hy0 hy1 hy2 rfl (by decide) _ _ _ rfl (J2.out.alloc _) ⟨w12.heap.size, 0, none⟩ 1 1 [.slice ar wd cr] rfl rfl (cell_one_new _ _ _) ?d2 ?d3 ?d4 ?d5 ?_)
    case d2 => exact HONE.out
    case d3 => unfold maxLen; omega
    case d4 => omega
    case d5 => simp; omega
    intro v13 w13 hown13 hg13 _
    have hb13 := Az J5.out hsz12 J2.out hg13
    have hat13 := (J1.out.alloc (.cells #[.slice ar wd cr] 121)).kept hg13 (Bn J1.out J2.out (by decide))
    have hrows13 := OwnRowsU.append (W := w12.alloc (.cells #[.slice ar wd cr] 121)) (rs := ((Cw P k).map fun i => C7 ((P i).getD []))) (r := C7 tx) (by rw [hRl]; exact J2.out.alloc _) (fun j r hj => by obtain ⟨u, m1, m2⟩ := J3.out j r hj; exact ⟨u, m1, m2.alloc _⟩) (by rw [HLR.out]; exact J4.out.alloc _) (by rw [hRl]; exact hown13) hg13
    have hlen : ((Cw P k) ++ [k]).length = m + 1 := by rw [List.length_append, hL]; rfl
    have L1 : Hid (w13.ownsRow w.heap.size 3 1 v11 ((Cw P k) ++ [k]).length (NB ((Cw P k) ++ [k]))) := Aa (by rw [hlen, Lx]; exact hat13)
    have L2 := Aa hrows13
    have L3 := Aa hb13
    clear hown13 hg13 hb13 hat13 hrows13 J1 J2 J3 J4 J5 hlen
    go_wp2_with fail
    exact ⟨⟨k + 1, by omega, by go_num, by rw [E1.out]; exact L1.out, by rw [E1.out, List.map_append, List.map_cons, List.map_nil, HPK.out]; exact L2.out, L3.out⟩, by simp [intOf]; omega⟩
  ·obtain rfl : K = k := by omega
   rw [Qt] at hownr hrows
   have F1 := Aa hownr
   have F2 := Aa hrows
   have F3 := Aa hbl
   clear hownr hrows hbl
   go_wp2_with fail
   go_loopw [4, 5, 7] (fun va vr i W => ∃ j : Nat, j ≤ 20 ∧ i = .int .i64 (j : Int) ∧ (AT K P ++ (CY es j).map fun e => K + e.1).length ≤ K ∧ W.ownsRow w.heap.size 3 1 va (AT K P ++ (CY es j).map fun e => K + e.1).length (NB (AT K P ++ (CY es j).map fun e => K + e.1)) ∧ OwnRowsU W w.heap.size vr (((AT K P).map fun i => C7 ((P i).getD [])) ++ (CY es j).map fun e => C7 e.2) ∧ Below w.heap.size w W)
    (fun _ _ i _ => 20 - (intOf i).toNat)
   case atStart => exact ⟨0, by omega, rfl, by simpa [GF] using Gn K P, by simpa [GF] using F1.out, by simpa [GF] using F2.out, F3.out⟩
   case round =>
    clear F1 F2 F3
    obtain ⟨j, hj20, rfl, hjl, hownr, hrows, hbl⟩ := hrel
    have hsz := hbl.size
    obtain ⟨c2, c3, c5⟩ := HBK.out wr hbl
    obtain ⟨m, hm⟩ : ∃ m, m = (AT K P ++ (CY es j).map fun e => K + e.1).length := ⟨_, rfl⟩
    rw [← hm] at hownr hjl
    have HM := Aa hm
    clear hm
    obtain ⟨va, vc, hva, hvr⟩ := AE hownr
    subst hva
    by_cases hgo : j < 20 ∧ m < K
    ·obtain ⟨hg1, hg2⟩ := hgo
     have hje : j < es.length := by omega
     obtain ⟨bb, offb, rfl, hcb0⟩ := HX.out j (.string (str es[j])) (by simp [AM, hje])
     have hcw : wr.cell? ⟨bb, offb + j, none⟩ = some (.string (str es[j])) := by rw [hbl.cell (World.block_lt_of_cell? w _ hcb0)]; exact hcb0
     have hgD : es.getD j [] = es[j] := by simp [hje]
     have htl0 := HEL.out _ (List.getElem_mem hje)
     obtain ⟨tx, htx⟩ : ∃ x, x = es[j] := ⟨_, rfl⟩
     rw [← htx] at hcb0 hcw hgD htl0
     have F1 := Aa hownr
     have F2 := Aa hrows
     have F3 := Aa hbl
     have HCB := Aa hcb0
     have HGD := Aa hgD
     clear hownr hrows hbl hcb0 htx hgD hje hvr
     by_cases he : tx = []
     ·have e1 := QL (es := es) (j := j) (by rw [HGD.out]; exact he)
      have E1 := Aa e1
      have qe : (str tx).toList.isEmpty = true := by rw [he, Au]; rfl
      clear e1 he
      go_wp2_with fail
      exact ⟨⟨j + 1, by omega, by go_num, by rw [E1.out, ← HM.out]; omega, by rw [E1.out, ← HM.out]; exact F1.out, by rw [E1.out]; exact F2.out, F3.out⟩, by simp [intOf]; omega⟩
     ·have htl : tx.length = size := by rcases htl0 with h | h; exact absurd h he; exact h
      have e1 := PX (es := es) (j := j) (by rw [HGD.out]; exact he)
      rw [HGD.out] at e1
      have E1 := Aa e1
      have qe : (str tx).toList.isEmpty = false := by
       rw [Au]
       cases tx with
       | nil => exact absurd rfl he
       | cons _ _ => rfl
      have hL : (AT K P ++ (CY es j).map fun e => K + e.1).length = m := HM.out.symm
      have hRl : (((AT K P).map fun i => C7 ((P i).getD [])) ++ (CY es j).map fun e => C7 e.2).length = m := by rw [← hL, List.length_append, List.length_append, List.length_map, List.length_map, List.length_map]
      clear e1 he htl0
      go_wp2_with (at_builtin; refine wpList_append_own _ rfl (.tmp 70) (.tmp 74) 31 rfl w.heap.size 3 l0 (.int .i64 0) 1 8 Tryz.underlying31 hl hx0 hx1 hx2 rfl (by decide) _ _ _ rfl (F1.out.alloc _) ⟨wr.heap.size, 0, none⟩ 1 1 [.int .i64 ((K : Int) + (j : Int))] rfl rfl (cell_one_new _ _ _) ?d2 ?d3 ?d4 ?d5 ?_)
      case d2 => intro u hu; simp at hu; subst hu; rfl
      case d3 => unfold maxLen; omega
      case d4 => omega
      case d5 => simp; omega
      intro v11 w11 hown11 hg11 _
      have hb11 := Az F3.out hsz F1.out hg11
      have hrows11 := (F2.out.later ((Below.refl _ _).alloc (Nat.le_refl _) _)).kept (F1.out.alloc _) (by decide) (by decide) hg11
      obtain ⟨c2, c3, c5⟩ := HBK.out w11 hb11
      have hcb : w11.cell? ⟨bb, offb + j, none⟩ = some (.string (str tx)) := by rw [hb11.cell (World.block_lt_of_cell? w _ HCB.out)]; exact HCB.out
      have G1 := Aa hown11
      have G2 := Aa hrows11
      have G3 := Aa hb11
      have hsz11 : w.heap.size ≤ w11.heap.size := hb11.size
      have hRow := It tx (by omega) w11
      rw [htl, ← HWD.out] at hRow
      have HRW := Aa hRow
      clear hown11 hrows11 hb11 hg11 F1 F2 F3 hRow
      go_wp2_with fail
      refine HRW.out.mono ?_
      rintro e w12 ⟨vq, rfl, hownv, hb12⟩
      have hlr : (C7 tx).length = wd := by rw [BK, htl, HWD.out]
      have J1 := Aa (Ab G1.out (Nat.le_refl _) hb12)
      obtain ⟨vs, q1, q2⟩ := G2.out.later hb12
      have J2 := Aa q1
      have J3 := Aa q2
      have J4 := Aa (Ad hsz11 hownv)
      have J5 := Aa (G3.out.trans (hb12.mono hsz11))
      have hsz12 : w.heap.size ≤ w12.heap.size := J5.out.size
      have HLR := Aa hlr
      rw [hRl] at J2
      have hone : ∀ u ∈ [vq], u.oneCell' = true := by
       intro u hu
       simp at hu
       subst hu
       rcases J4.out.2 with ⟨rfl, _⟩ | ⟨_, _, _, rfl, _⟩ <;> rfl
      have HONE := Aa hone
      clear q1 q2 hownv hb12 G1 G2 G3 HRW hcb hlr hone c2 c3 c5
      obtain ⟨ar, cr, rfl, -, -, -⟩ := Aw J4.out
      go_wp2_with (at_builtin; refine wpList_append_own _ rfl (.tmp 76) (.tmp 86) 120 rfl w.heap.size 121 j0 (.slice none 0 0) 1 24 Tryz.underlying120 hj hy0 hy1 hy2 rfl (by decide) _ _ _ rfl (J2.out.alloc _) ⟨w12.heap.size, 0, none⟩ 1 1 [.slice ar wd cr] rfl rfl (cell_one_new _ _ _) ?d2 ?d3 ?d4 ?d5 ?_)
      case d2 => exact HONE.out
      case d3 => unfold maxLen; omega
      case d4 => omega
      case d5 => simp; omega
      intro v13 w13 hown13 hg13 _
      have hb13 := Az J5.out hsz12 J2.out hg13
      have hat13 := (J1.out.alloc (.cells #[.slice ar wd cr] 121)).kept hg13 (Bn J1.out J2.out (by decide))
      have hrows13 := OwnRowsU.append (W := w12.alloc (.cells #[.slice ar wd cr] 121)) (rs := (((AT K P).map fun i => C7 ((P i).getD [])) ++ (CY es j).map fun e => C7 e.2)) (r := C7 tx) (by rw [hRl]; exact J2.out.alloc _) (fun j r hj => by obtain ⟨u, m1, m2⟩ := J3.out j r hj; exact ⟨u, m1, m2.alloc _⟩) (by rw [HLR.out]; exact J4.out.alloc _) (by rw [hRl]; exact hown13) hg13
      have hlen : ((AT K P ++ (CY es j).map fun e => K + e.1) ++ [(K + j)]).length = m + 1 := by rw [List.length_append, hL]; rfl
      have L1 : Hid (w13.ownsRow w.heap.size 3 1 v11 ((AT K P ++ (CY es j).map fun e => K + e.1) ++ [(K + j)]).length (NB ((AT K P ++ (CY es j).map fun e => K + e.1) ++ [(K + j)]))) := Aa (by rw [hlen, Lx]; exact hat13)
      have L2 := Aa hrows13
      have L3 := Aa hb13
      clear hown13 hg13 hb13 hat13 hrows13 J1 J2 J3 J4 J5 hlen
      go_wp2_with fail
      exact ⟨⟨j + 1, by omega, by go_num, by rw [E1.out, List.map_append, List.map_cons, List.map_nil, ← List.append_assoc, List.length_append, hL]; simp; omega, by rw [E1.out, List.map_append, List.map_cons, List.map_nil, ← List.append_assoc]; exact L1.out, by rw [E1.out, List.map_append, List.map_cons, List.map_nil, ← List.append_assoc]; exact L2.out, L3.out⟩, by simp [intOf]; omega⟩
    ·have hend : CY es j = GH K P (Be es) := Pd hj20 (by have := HM.out; rw [List.length_append, List.length_map] at this; omega) (by
      have := HM.out
      rw [List.length_append, List.length_map] at this
      by_cases c : j < 20
      ·exact .inr (by omega)
      ·exact .inl (by omega))
     rw [hend] at hrows
     have hpts : (AT K P ++ (CY es j).map fun e => K + e.1) = Ko K P (Be es) := by rw [hend]; rfl
     rw [hpts] at hvr HM
     obtain ⟨kl1, kl2⟩ := Ks K P (Be es) HEN.out
     have hmK : m = K := HM.out.trans kl1
     subst hmK
     have hrows' : OwnRowsU wr w.heap.size u5 (GC m P (Be es)) := hrows
     obtain ⟨a2, cc2, hv2, hrr⟩ := hrows'.rdRows
     rw [kl2] at hv2
     subst hv2
     have rok := Nq m size P (Be es) HPL.out (fun e he => by
      obtain ⟨h1, h2, h3⟩ := Iv he
      have hin : e.1 < es.length := by omega
      have hg : es.getD e.1 [] = es[e.1] := by simp [hin]
      rcases HEL.out es[e.1] (List.getElem_mem hin) with h | h
      ·rw [h2, hg] at h3
       exact absurd h h3
      ·rw [h2, hg]
       exact h)
     rw [← HWD.out] at rok
     have hlt1 := Ps m P (Be es) (by omega) (fun e he => by have := (Iv he).1; omega)
     have hnd := OQ m P (Be es) (JX es)
     have hth := Hi (Ko m P (Be es)) (GC m P (Be es)) m wd va a2 vc cc2 kl1 kl2 hK0 (by omega) rok hwd0 (by omega) hlt1 hnd wr hvr hrr
     have HTH := Aa hth
     have HBL := Aa hbl
     have KL1 := Aa kl1
     have KL2 := Aa kl2
     have ROK := Aa rok
     have HLT1 := Aa hlt1
     have HND := Aa hnd
     clear hth hbl kl1 kl2 rok hlt1 hnd hownr hrows hrows' hrr hvr hpts hend HM hjl
     go_upto_region 11 with fail
     go_cut [58] from 45 to 57 (fun t wx => wr = wx ∧ t = Value.bool false)
     case first =>
      by_cases c : j < 20
      case' pos => have c' : ¬ m < m := by omega
      all_goals
       go_wp2_with fail
       go_meet
       exact ⟨rfl, rfl⟩
     case rest =>
     obtain ⟨rfl, rfl⟩ := hcut
     go_wp2_with fail
     refine HTH.out.mono ?_
     rintro e w14 ⟨v14, ys, rfl, hys, hyl, hyok, hb14, hsol⟩
     obtain ⟨ay, cy, rfl, -⟩ := hys.rdRows
     have hval : ∀ t, t < 65536 → JL ys t wd = Jr (GC m P (Be es)) (Bc (Ko m P (Be es)) (AX (Ko m P (Be es))) t) wd := fun t ht => ID _ _ ys wd t HND.out HLT1.out ht (by rw [KL1.out, KL2.out]) (by rw [hyl, KL1.out]) ROK.out hyok (fun i hi p hp => hsol i (by rw [KL1.out] at hi; exact hi) p hp)
     have S2 := Aa (HBL.out.trans (hb14.mono hsz))
     have S3 := Aa (hys.base hsz)
     have S4 := Aa hval
     have S5 := Aa hyok
     have S6 := Aa hyl
     rw [hyl]
     obtain ⟨A, hA⟩ : ∃ x, x = GV size m P (Be es) := ⟨_, rfl⟩
     have hAl : A.length = m := by rw [hA]; simp [GV]
     have hAk : ∀ k (h : k < A.length), A[k] = Ho size m P (Be es) k := fun k h => by subst hA; simp [GV]
     have HAK := Aa hAk
     have HAE := Aa hA
     clear hys hyl hyok hb14 hsol hval HTH HBL hA hAk
     go_wp2_with fail
     obtain ⟨Wo, rfl⟩ : ∃ x, x = wr := ⟨wr, rfl⟩
     go_loopw [9, 10, 11] (fun v i _ W => ∃ k : Nat, k ≤ m ∧ i = .int .i64 (k : Int) ∧ W.ownsRow w.heap.size 9 1 v k (AM (A.take k)) ∧ OwnRowsU W w.heap.size (.slice ay m cy) ys ∧ Below w.heap.size w W)
      (fun _ i _ _ => m - (intOf i).toNat)
     case atStart => exact ⟨0, by omega, rfl, World.ownsRow_nil _ _ _ _, by have := S3.out; rw [S6.out] at this; exact this, S2.out⟩
     case round =>
      clear S2 S3
      obtain ⟨k, hk, rfl, hownr, hyr, hbl⟩ := hrel
      have hszk := hbl.size
      obtain ⟨c2, c3, c5⟩ := HBK.out wr hbl
      by_cases hlt : k < m
      ·obtain ⟨pb, po, rfl, hpc⟩ := Jq (HPR.out.later (Nat.le_refl _) hbl) k (by simp; exact hlt)
       rw [List.getElem_map, List.getElem_range] at hpc
       obtain ⟨bb, offb, rfl, hcb⟩ := (HS.out.later (Nat.le_refl _) hbl) k (.string (str ((P k).getD []))) (by simp [AM, hlt])
       have hkA : k < A.length := by omega
       have htk := Ap A k hkA
       rw [HAK.out k hkA] at htk
       have F1 := Aa hownr
       have F2 := Aa hyr
       have F3 := Aa hbl
       cases hpk : P k with
       | some tx =>
        rw [hpk] at hpc hcb
        simp only [Option.isSome_some] at hpc
        simp only [Option.getD_some] at hcb
        have em : Ho size m P (Be es) k = tx := by unfold Ho; rw [hpk]
        rw [em] at htk
        have HTK := Aa htk
        clear hownr hyr hbl hpk em htk
        go_wp2_with (at_builtin; refine wpList_append_own _ rfl (.tmp 116) (.tmp 118) 23 rfl w.heap.size 9 i0 (.string ByteArray.empty) 1 16 Tryz.underlying23 hi hz0 hz1 hz2 rfl (by decide) _ _ _ rfl (F1.out.alloc _) ⟨wr.heap.size, 0, none⟩ 1 1 [.string (str tx)] rfl rfl (cell_one_new _ _ _) ?d2 ?d3 ?d4 ?d5 ?_)
        case d2 => intro u hu; simp at hu; subst hu; rfl
        case d3 => unfold maxLen; omega
        case d4 => omega
        case d5 => simp; omega
        intro v15 w15 hown15 hg15 _
        have hb15 := Az F3.out hszk F1.out hg15
        have hy15 := (F2.out.later ((Below.refl _ _).alloc (Nat.le_refl _) _)).kept (F1.out.alloc _) (by decide) (by decide) hg15
        have G1 := Aa hown15
        have G2 := Aa hy15
        have G3 := Aa hb15
        clear hown15 hg15 hb15 hy15 F1 F2 F3
        go_wp2_with fail
        exact ⟨⟨k + 1, by omega, by go_num, by rw [HTK.out, Cg]; exact G1.out, G2.out, G3.out⟩, by simp [intOf]; omega⟩
       | none =>
        rw [hpk] at hpc hcb
        simp only [Option.isSome_none] at hpc
        simp only [Option.getD_none] at hcb
        obtain ⟨a', c', ee, hrd⟩ := hyr.rdRows
        rw [S6.out] at ee
        cases ee
        have hva := IT ys k wd ay cy (by rw [S6.out]; omega) (by rw [S6.out]; omega) S5.out hwd0 (by omega) (by omega) wr hrd
        rw [S6.out] at hva
        have hR1 := Et (c := ys) (fun r hr => (S5.out r hr).2) k wd ys.length
        have hR2 := BY ys k wd ys.length
        obtain ⟨xr, hxr⟩ : ∃ x, x = JL ys k wd := ⟨_, rfl⟩
        have hR1' : ∀ x ∈ xr, x < 65536 := by rw [hxr]; exact hR1
        have hR2' : xr.length = wd := by rw [hxr]; exact hR2
        have em : Ho size m P (Be es) k = Cx xr := by
         unfold Ho
         rw [hpk, hxr, S4.out k (by omega), HWD.out]
        rw [em] at htk
        rw [← hxr] at hva
        have T1 := Aa hva
        have T2 := Aa hR1'
        have HR2 := Aa hR2'
        have HTK := Aa htk
        clear hva hR1 hR2 hR1' hxr hpk em htk hownr hyr hbl hrd hR2'
        go_wp2_with fail
        refine T1.out.mono ?_
        rintro e w15 ⟨v15, rfl, hown15, hb15⟩
        obtain ⟨ax, cx, rfl, -, -, hrx⟩ := Aw hown15
        have hsl := Iy xr ax cx (by rw [HR2.out]; omega) T2.out w15 hrx
        rw [HR2.out] at hsl
        have U1 := Aa hsl
        have U4 := Aa (Ab F1.out (Nat.le_refl _) hb15)
        have U5 := Aa (F2.out.later hb15)
        have U6 := Aa (F3.out.trans (hb15.mono hszk))
        have hsz15 : w.heap.size ≤ w15.heap.size := U6.out.size
        clear hsl hown15 hb15 hrx T1 F1 F2 F3
        go_wp2_with fail
        refine U1.out.mono ?_
        rintro e w16 ⟨rfl, hb16⟩
        have V4 := Aa (Ab U4.out (Nat.le_refl _) hb16)
        have V5 := Aa (U5.out.later hb16)
        have V6 := Aa (U6.out.trans (hb16.mono hsz15))
        have hsz16 : w.heap.size ≤ w16.heap.size := V6.out.size
        obtain ⟨tx, htx⟩ : ∃ x, x = Cx xr := ⟨_, rfl⟩
        rw [← htx] at HTK ⊢
        clear hb16 U1 U4 U5 U6 htx
        go_wp2_with (at_builtin; refine wpList_append_own _ rfl (.tmp 116) (.tmp 118) 23 rfl w.heap.size 9 i0 (.string ByteArray.empty) 1 16 Tryz.underlying23 hi hz0 hz1 hz2 rfl (by decide) _ _ _ rfl (V4.out.alloc _) ⟨w16.heap.size, 0, none⟩ 1 1 [.string (str tx)] rfl rfl (cell_one_new _ _ _) ?d2 ?d3 ?d4 ?d5 ?_)
        case d2 => intro u hu; simp at hu; subst hu; rfl
        case d3 => unfold maxLen; omega
        case d4 => omega
        case d5 => simp; omega
        intro v17 w17 hown17 hg17 _
        have hb17 := Az V6.out hsz16 V4.out hg17
        have hy17 := (V5.out.later ((Below.refl _ _).alloc (Nat.le_refl _) _)).kept (V4.out.alloc _) (by decide) (by decide) hg17
        have G1 := Aa hown17
        have G2 := Aa hy17
        have G3 := Aa hb17
        clear hown17 hg17 hb17 hy17 V4 V5 V6
        go_wp2_with fail
        exact ⟨⟨k + 1, by omega, by go_num, by rw [HTK.out, Cg]; exact G1.out, G2.out, G3.out⟩, by simp [intOf]; omega⟩
      ·obtain rfl : m = k := by omega
       rw [List.take_of_length_le (by omega)] at hownr
       have Q1 := Aa hownr
       have Q2 := Aa hbl
       clear hownr hyr hbl
       go_wp2_with fail
       go_ret
       exact ⟨_, rfl, by rw [← HAE.out]; exact Q1.out, Q2.out⟩
theorem Pc {l : List FoundL} {s : SetL} (h : EH l = .inl s) : s.size % 2 = 0 ∧ 1 ≤ (AF s.files).length ∧ (∀ e ∈ s.extra, e = [] ∨ e.length = s.size) ∧ ∀ d ∈ s.files, d.long ≤ d.slices.length * s.size ∧ d.long ≤ 400 ∧ d.name.length ≤ 20 := by
 unfold EH at h
 split at h
 ·cases h
 ·rename_i f hc
  split at h
  ·rename_i hl
   cases h
   have hci : BW f = true := List.find?_some hc
   have hb := FV hc
   unfold GZ at hl
   simp only [Bool.and_eq_true, decide_eq_true_eq] at hl
   refine ⟨?_, hl.1.2, fun e he => ?_, fun d hd => ?_⟩
   ·unfold BW at hci
    simp only [Bool.and_eq_true] at hci
    have h1 := hci.2.1.1.1.1
    unfold Ay at h1
    rw [decide_eq_true_eq] at h1
    show Aq f % 2 = 0
    unfold Aq
    omega
   ·unfold FD at he
    obtain ⟨j, _, rfl⟩ := List.mem_map.1 he
    unfold KS
    cases hx : exL l f.set (Aq f) j with
    | none => exact .inl rfl
    | some t => exact .inr (JV hx)
   ·unfold Bv at hd
    obtain ⟨i, hi, rfl⟩ := List.mem_map.1 hd
    cases hx : Ec l f i with
    | none => exact ⟨by simp [Li], by simp [Li], by simp [Li]⟩
    | some d =>
     simp only [Option.getD_some]
     unfold Ec Bl at hx
     obtain ⟨g, _, hg⟩ := List.exists_of_findSome?_eq_some hx
     split at hg
     ·unfold Hn at hg
      split at hg
      ·rename_i hform
       cases hg
       unfold Dj at hform
       simp only [Bool.and_eq_true, decide_eq_true_eq] at hform
       have hge := Ff (BA g.body) (Aq f) (by omega)
       unfold Hh
       refine ⟨by simpa using hge, hform.1.2, ?_⟩
       rw [List.length_take, List.length_drop]
       omega
      ·cases hg
     ·cases hg
  ·cases h
theorem KZ (q : Nat → Option (List UInt8)) : ∀ n, ((List.range n).filter fun i => (q i).isNone).length + ((List.range n).filter fun i => (q i).isSome).length = n
 | 0 => rfl
 | n + 1 => by
  have ih := KZ q n
  rw [List.range_succ, List.filter_append, List.filter_append, List.length_append, List.length_append]
  cases hf : q n <;> simp [hf] <;> omega
theorem Pr {fs : List Ak} {b h : Nat} {p : List UInt8} (hb : 0 < b) (hp : AL fs b h = some p) : p.length = b := by
 rw [Dd] at hp
 unfold BV at hp
 exact LR hb (List.mem_of_find?_eq_some hp)
def Nk (ds : List DescL) (k : Nat) : Nat := ((ds.take k).map fun d => d.slices.length).sum
theorem Nd : ∀ (ds : List DescL) (SS : List (List UInt8)) (k : Nat) (h : k < ds.length), (F9 ds SS)[k]? = some (ds[k].name, ((SS.drop (Nk ds k)).take ds[k].slices.length).flatten.take ds[k].long)
 | [], _, k, h => by simp at h
 | d :: r, SS, 0, h => by
  have e : Nk (d :: r) 0 = 0 := rfl
  rw [e, List.drop_zero]
  rfl
 | d :: r, SS, k + 1, h => by
  have ih := Nd r (SS.drop d.slices.length) k (by simpa using h)
  have e : Nk (d :: r) (k + 1) = d.slices.length + Nk r k := by simp [Nk]
  rw [e, ← List.drop_drop]
  exact ih
theorem Lk (ds : List DescL) (k : Nat) (h : k < ds.length) : Nk ds (k + 1) = Nk ds k + ds[k].slices.length := by
 unfold Nk
 rw [Ap ds k h, List.map_append, List.sum_append]
 simp
theorem RX (ds : List DescL) (k : Nat) (h : k < ds.length) : Nk ds k + ds[k].slices.length ≤ (AF ds).length := by
 rw [← Lk ds k h]
 have e : ∀ l : List DescL, (AF l).length = (l.map fun d => d.slices.length).sum := fun l => by unfold AF; rw [List.length_flatMap]
 unfold Nk
 rw [e]
 have := List.take_append_drop (k + 1) ds
 conv => rhs; rw [← this, List.map_append, List.sum_append]
 omega
theorem Ga (fs : List Ak) (s : SetL) : (Ct fs s).slices = (List.range (AF s.files).length).map (fun i => (Eq fs s i).getD []) ∧ (Ct fs s).flags = (List.range (AF s.files).length).map (fun i => (Eq fs s i).isSome) ∧ (Ct fs s).lost = (AF s.files).length - (AT (AF s.files).length (Eq fs s)).length ∧ (Ct fs s).extra = exN s.extra := by
 have key : ∀ (hs : List Nat), hs = (List.range hs.length).map fun i => hs.getD i 0 := fun hs => by
  refine List.ext_getElem (by simp) (fun i h1 h2 => ?_)
  simp [List.getElem_map, h1]
 refine ⟨?_, ?_, ?_, rfl⟩
 ·unfold Ct CI Eq
  conv => lhs; simp only; rw [key (AF s.files), List.map_map]
  rfl
 ·unfold Ct CW Eq
  conv => lhs; simp only; rw [key (AF s.files), List.map_map]
  rfl
 ·show EY fs s.size (AF s.files) = _
  unfold EY AT Eq
  generalize AF s.files = hs
  have e : hs.filter (fun h => (AL fs s.size h).isNone) = ((List.range hs.length).filter fun i => (AL fs s.size (hs.getD i 0)).isNone).map fun i => hs.getD i 0 := by
   conv => lhs; rw [key hs, List.filter_map]
   rfl
  rw [e, List.length_map]
  have := KZ (fun i => AL fs s.size (hs.getD i 0)) hs.length
  omega
theorem Qh {es : List (List UInt8)} (h : es.length = 20) : exN es = (Be es).length := by
 unfold Be exN
 rw [List.length_map]
 have e : es = (List.range 20).map (fun j => es.getD j []) := by
  refine List.ext_getElem (by simp [h]) (fun i h1 h2 => ?_)
  simp [List.getD_eq_getElem?_getD, List.getElem?_eq_getElem h1]
 conv => lhs; rw [e, List.filter_map, List.length_map]
 rfl
end Go.Proofs.YtonjphollmdicaaGreatDoor
