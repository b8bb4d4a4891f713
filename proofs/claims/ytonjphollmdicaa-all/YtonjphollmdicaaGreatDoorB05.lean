import Derived.Test.YtonjphollmdicaaGreatDoorB00
import Derived.Test.YtonjphollmdicaaGreatDoorB03
import Derived.Test.YtonjphollmdicaaGreatDoorB04
set_option maxRecDepth 100000
set_option maxHeartbeats 4000000
set_option linter.unusedSimpArgs false
namespace Go.Proofs.YtonjphollmdicaaGreatDoor
open Go.ChangeShapes Go.WideShapes Go.ChangeAt Go.RowKit
theorem BookI.look {w : World} {base B : Nat} {F : Nat → Prop} {rs : Nat → Value} {T : Nat → List Value} {M : Nat → List Int} (h : BookI w base B F rs T M) {j q : Nat} (hj : j < 4) (hq : q = 4 + j) : ∃ ta tc ma mc, ∀ N, N = (M j).length →
  (∀ W, Below w.heap.size w W → W.cell? ⟨B, j, none⟩ = some (.slice ta N tc) ∧ W.cell? ⟨B, q, none⟩ = some (.slice ma N mc)) ∧
  ∀ i, i < N → ∃ tb mb g n c m, ta = some ⟨tb, 0, none⟩ ∧ ma = some ⟨mb, 0, none⟩ ∧ n ≤ 1003 ∧ (j ≠ 2 → 0 ≤ m) ∧ ∀ W, Below w.heap.size w W → W.cell? ⟨tb, i, none⟩ = some (.slice g n c) ∧ W.cell? ⟨mb, i, none⟩ = some (.int .i64 m) ∧ Rd W g (rep n (MJ j m)) := by
 subst hq
 obtain ⟨ta, tc, ht, hrt, -⟩ := A6 (h.rowT j hj)
 obtain ⟨ma, mc, hm, hrm, -⟩ := A6 (h.rowM j hj)
 have eo : ∀ {X : Value} {a : Option Addr} {n c k b off : Nat} {xs : List Value} {t : TypeId}, X = .slice a n c → a = some ⟨b, off, none⟩ → w.ownsRow base t 1 X n xs → off = 0 := by
  intro X a n c k b off xs t e1 e2 ho
  subst e1 e2
  rcases ho.2 with ⟨h0, _⟩ | ⟨g, cap, cur, h0, _⟩
  ·cases h0
  ·cases h0; rfl
 refine ⟨ta, tc, ma, mc, fun N hN => ?_⟩
 subst hN
 have hT := h.rowT j hj
 have hMr := h.rowM j hj
 have hlen := h.len j hj
 refine ⟨fun W hW => ?_, fun i hi => ?_⟩
 ·have cj : (cellsB rs)[j]? = some (rs j) ∧ (cellsB rs)[4 + j]? = some (rs (4 + j)) := by
   match j, hj with
   | 0, _ | 1, _ | 2, _ | 3, _ => exact ⟨rfl, rfl⟩
  have b1 := (h.blk j _ cj.1).1
  have b2 := (h.blk (4 + j) _ cj.2).1
  rw [ht, hlen] at b1
  rw [hm] at b2
  exact ⟨by rw [hW.cell h.lt]; exact b1, by rw [hW.cell h.lt]; exact b2⟩
 ·have hiT : i < (T j).length := by omega
  obtain ⟨tb, tp, e1, x1⟩ := hrt i (T j)[i] (List.getElem?_eq_getElem hiT)
  obtain ⟨mb, mo, e2, x2⟩ := hrm i (.int .i64 (M j)[i]) (by simp [hi])
  obtain rfl := eo (k := 0) ht e1 hT
  obtain rfl := eo (k := 0) hm e2 hMr
  obtain ⟨g, n, c, e, hn, hr, hg⟩ := h.good j i _ _ hj (List.getElem?_eq_getElem hiT) (List.getElem?_eq_getElem hi)
  rw [Nat.zero_add] at x1 x2
  refine ⟨tb, mb, g, n, c, (M j)[i], e1, e2, hn, (h.rng j _ hj (List.getElem_mem hi)).2.2, fun W hW => ⟨?_, ?_, hr.later (Nat.le_refl _) hW⟩⟩
  ·rw [hW.cell (World.block_lt_of_cell? w _ x1), x1, e]
  ·rw [hW.cell (World.block_lt_of_cell? w _ x2)]; exact x2
theorem Gt {W : World} {g : Option Addr} {n : Nat} {p : List Value} (h : Rd W g (rep n p)) (k q : Nat) (hk : k < n) (u : Value) (hu : p[q]? = some u) : ∃ b off, g = some ⟨b, off, none⟩ ∧ W.cell? ⟨b, off + (k * p.length + q), none⟩ = some u :=
 h (k * p.length + q) u (by rw [PO n p k q hk (List.getElem?_eq_some_iff.1 hu).1]; exact hu)
theorem Du {w : World} {base B : Nat} {F : Nat → Prop} {rs : Nat → Value} {T : Nat → List Value} {M : Nat → List Int} (h : BookI w base B F rs T M) (hM : ∀ j, j < 4 → (M j).length ≤ 4398046511104) :
  Calls Tryz.prog 35 #[.pointer (some ⟨B, 0, none⟩)] w fun e w' => e = .returned (.bool true) ∧ Below w.heap.size w w' := by
 obtain ⟨ta0, tc0, ma0, mc0, hl0⟩ := h.look (j := 0) (q := 4) (by omega) rfl
 obtain ⟨N0, hN0⟩ : ∃ x, x = (M 0).length := ⟨_, rfl⟩
 have L0 := Aa (hl0 N0 hN0)
 have hn0 := hM 0 (by omega)
 rw [← hN0] at hn0
 clear hl0 hN0
 obtain ⟨ta1, tc1, ma1, mc1, hl1⟩ := h.look (j := 1) (q := 5) (by omega) rfl
 obtain ⟨N1, hN1⟩ : ∃ x, x = (M 1).length := ⟨_, rfl⟩
 have L1 := Aa (hl1 N1 hN1)
 have hn1 := hM 1 (by omega)
 rw [← hN1] at hn1
 clear hl1 hN1
 obtain ⟨ta2, tc2, ma2, mc2, hl2⟩ := h.look (j := 2) (q := 6) (by omega) rfl
 obtain ⟨N2, hN2⟩ : ∃ x, x = (M 2).length := ⟨_, rfl⟩
 have L2 := Aa (hl2 N2 hN2)
 have hn2 := hM 2 (by omega)
 rw [← hN2] at hn2
 clear hl2 hN2
 obtain ⟨ta3, tc3, ma3, mc3, hl3⟩ := h.look (j := 3) (q := 7) (by omega) rfl
 obtain ⟨N3, hN3⟩ : ∃ x, x = (M 3).length := ⟨_, rfl⟩
 have L3 := Aa (hl3 N3 hN3)
 have hn3 := hM 3 (by omega)
 rw [← hN3] at hn3
 clear hl3 hN3
 clear h hM
 go_enter Tryz.func35, Tryz.ntmps35
 go_wp2_with fail
 go_loopw [3, 4, 5] (fun ii _ _ W => ∃ i : Nat, i ≤ N0 ∧ ii = .int .i64 (i : Int) ∧ Hid (Below w.heap.size w W))
  (fun ii _ _ _ => N0 - (intOf ii).toNat)
 case atStart => exact ⟨0, by omega, rfl, Aa (Below.refl _ _)⟩
 case round =>
  obtain ⟨i, hi, rfl, HB⟩ := hrel
  obtain ⟨p1, p2⟩ := L0.out.1 wr HB.out
  by_cases hlt : i < N0
  ·obtain ⟨tb, mb, g, n, c, m, e1, e2, hn, hm0, hW⟩ := L0.out.2 i hlt
   subst e1 e2
   obtain ⟨x1, x2, -⟩ := hW wr HB.out
   have HW := Aa hW
   have HC := Aa (L0.out.1)
   clear hW
   obtain ⟨Wo, rfl⟩ : ∃ x, x = wr := ⟨wr, rfl⟩
   obtain ⟨mn, rfl⟩ : ∃ mn : Nat, m = (mn : Int) := ⟨m.toNat, by have := hm0 (by omega); omega⟩
   go_wp2_with fail
   refine (Fc mn Wo).mono ?_
   rintro e w1 ⟨rfl, hb1⟩
   have HB1 := Aa (Below.next HB.out hb1)
   clear hb1 HB p1 p2 x1 x2 hm0
   go_wp2_with fail
   go_loopw [5] (fun kk W => ∃ k : Nat, k ≤ n ∧ kk = .int .i64 (k : Int) ∧ Hid (Below w.heap.size w W))
    (fun kk _ => n - (intOf kk).toNat)
   case atStart => exact ⟨0, by omega, rfl, HB1⟩
   case round =>
    clear HB1
    obtain ⟨k, hk, rfl, HB⟩ := hrel
    obtain ⟨p1, p2⟩ := HC.out wr HB.out
    obtain ⟨x1, x2, hr⟩ := HW.out wr HB.out
    by_cases hkl : k < n
    ·obtain ⟨gb, go, rfl, y1⟩ := Gt hr k 0 hkl _ rfl
     rw [show (MJ 0 (mn : Int)).length = 1 from rfl, Nat.mul_one, Nat.add_zero] at y1
     clear hr
     go_wp2_with fail
     exact ⟨⟨k + 1, by omega, by go_num, HB⟩, by simp [intOf]; omega⟩
    ·obtain rfl : k = n := by omega
     clear hr
     go_wp2_with fail
     exact ⟨⟨i + 1, by omega, by go_num, HB⟩, by simp [intOf]; omega⟩
  ·obtain rfl : i = N0 := by omega
   go_wp2_with fail
   go_loopw [6, 7, 8] (fun ii _ _ W => ∃ i : Nat, i ≤ N1 ∧ ii = .int .i64 (i : Int) ∧ Hid (Below w.heap.size w W))
    (fun ii _ _ _ => N1 - (intOf ii).toNat)
   case atStart => exact ⟨0, by omega, rfl, HB⟩
   case round =>
    clear HB
    obtain ⟨i, hi, rfl, HB⟩ := hrel
    obtain ⟨p1, p2⟩ := L1.out.1 wr HB.out
    by_cases hlt : i < N1
    ·obtain ⟨tb, mb, g, n, c, m, e1, e2, hn, hm0, hW⟩ := L1.out.2 i hlt
     subst e1 e2
     obtain ⟨x1, x2, -⟩ := hW wr HB.out
     have HW := Aa hW
     have HC := Aa (L1.out.1)
     clear hW
     obtain ⟨Wo, rfl⟩ : ∃ x, x = wr := ⟨wr, rfl⟩
     obtain ⟨mn, rfl⟩ : ∃ mn : Nat, m = (mn : Int) := ⟨m.toNat, by have := hm0 (by omega); omega⟩
     go_wp2_with fail
     refine (Fc mn Wo).mono ?_
     rintro e w1 ⟨rfl, hb1⟩
     have HB1 := Aa (Below.next HB.out hb1)
     clear hb1 HB p1 p2 x1 x2 hm0
     go_wp2_with fail
     go_loopw [8] (fun kk W => ∃ k : Nat, k ≤ n ∧ kk = .int .i64 (k : Int) ∧ Hid (Below w.heap.size w W))
      (fun kk _ => n - (intOf kk).toNat)
     case atStart => exact ⟨0, by omega, rfl, HB1⟩
     case round =>
      clear HB1
      obtain ⟨k, hk, rfl, HB⟩ := hrel
      obtain ⟨p1, p2⟩ := HC.out wr HB.out
      obtain ⟨x1, x2, hr⟩ := HW.out wr HB.out
      by_cases hkl : k < n
      ·obtain ⟨gb, go, rfl, y1⟩ := Gt hr k 0 hkl _ rfl
       obtain ⟨gb', go', e', y2⟩ := Gt hr k 1 hkl _ rfl
       cases e'
       rw [show (MJ 1 (mn : Int)).length = 2 from rfl, Nat.add_zero] at y1
       rw [show (MJ 1 (mn : Int)).length = 2 from rfl, ← Nat.add_assoc] at y2
       clear hr
       go_wp2_with fail
       exact ⟨⟨k + 1, by omega, by go_num, HB⟩, by simp [intOf]; omega⟩
      ·obtain rfl : k = n := by omega
       clear hr
       go_wp2_with fail
       exact ⟨⟨i + 1, by omega, by go_num, HB⟩, by simp [intOf]; omega⟩
    ·obtain rfl : i = N1 := by omega
     go_wp2_with fail
     go_loopw [9, 10] (fun ii _ W => ∃ i : Nat, i ≤ N2 ∧ ii = .int .i64 (i : Int) ∧ Hid (Below w.heap.size w W))
      (fun ii _ _ => N2 - (intOf ii).toNat)
     case atStart => exact ⟨0, by omega, rfl, HB⟩
     case round =>
      clear HB
      obtain ⟨i, hi, rfl, HB⟩ := hrel
      obtain ⟨p1, p2⟩ := L2.out.1 wr HB.out
      by_cases hlt : i < N2
      ·obtain ⟨tb, mb, g, n, c, m, e1, e2, hn, hm0, hW⟩ := L2.out.2 i hlt
       subst e1 e2
       obtain ⟨x1, x2, -⟩ := hW wr HB.out
       have HW := Aa hW
       have HC := Aa (L2.out.1)
       clear hW
       obtain ⟨Wo, rfl⟩ : ∃ x, x = wr := ⟨wr, rfl⟩
       have HB1 := HB
       go_wp2_with fail
       clear HB p1 p2 x1 x2 hm0
       go_loopw [10] (fun kk W => ∃ k : Nat, k ≤ n ∧ kk = .int .i64 (k : Int) ∧ Hid (Below w.heap.size w W))
        (fun kk _ => n - (intOf kk).toNat)
       case atStart => exact ⟨0, by omega, rfl, HB1⟩
       case round =>
        clear HB1
        obtain ⟨k, hk, rfl, HB⟩ := hrel
        obtain ⟨p1, p2⟩ := HC.out wr HB.out
        obtain ⟨x1, x2, hr⟩ := HW.out wr HB.out
        by_cases hkl : k < n
        ·obtain ⟨gb, go, rfl, y1⟩ := Gt hr k 0 hkl _ rfl
         rw [show (MJ 2 m).length = 1 from rfl, Nat.mul_one, Nat.add_zero] at y1
         clear hr
         have hS : ∀ W, Below wr.heap.size wr W → W.cell? ⟨B, 2, none⟩ = some (.slice (some ⟨tb, 0, none⟩) N2 tc2) ∧ W.cell? ⟨B, 6, none⟩ = some (.slice (some ⟨mb, 0, none⟩) N2 mc2) ∧ W.cell? ⟨tb, i, none⟩ = some (.slice (some ⟨gb, go, none⟩) n c) ∧ W.cell? ⟨mb, i, none⟩ = some (.int .i64 m) ∧ W.cell? ⟨gb, go + k, none⟩ = some (.int .i64 m) := fun W hb =>
          ⟨(hb.cell (World.block_lt_of_cell? wr _ p1)).trans p1, (hb.cell (World.block_lt_of_cell? wr _ p2)).trans p2, (hb.cell (World.block_lt_of_cell? wr _ x1)).trans x1, (hb.cell (World.block_lt_of_cell? wr _ x2)).trans x2, (hb.cell (World.block_lt_of_cell? wr _ y1)).trans y1⟩
         have HS := Aa hS
         have HB9 := Aa (HB.out.drew)
         clear hS
         go_wp2_with fail
         clear y1
         refine wp_region_held_drew (S := fun W => W.cell? ⟨B, 2, none⟩ = some (.slice (some ⟨tb, 0, none⟩) N2 tc2) ∧ W.cell? ⟨B, 6, none⟩ = some (.slice (some ⟨mb, 0, none⟩) N2 mc2) ∧ W.cell? ⟨tb, i, none⟩ = some (.slice (some ⟨gb, go, none⟩) n c) ∧ W.cell? ⟨mb, i, none⟩ = some (.int .i64 m) ∧ W.cell? ⟨gb, go + k, none⟩ = some (.int .i64 m)) (by kernel_rfl) (HS.out _ (Below.refl _ _).drew) (fun hHeld => ?_)
         refine tY 0 134 ?_
         refine tY 1 135 ?_
         refine tY 2 136 ?_
         refine tY 3 137 ?_
         refine tY 4 138 ?_
         refine tY 5 139 ?_
         refine tY 6 140 ?_
         refine tY 7 141 ?_
         refine tY 8 142 ?_
         refine tY 9 143 ?_
         refine tY 10 144 ?_
         refine tY 11 145 ?_
         refine tY 12 146 ?_
         refine tY 13 147 ?_
         refine tY 14 148 ?_
         refine tY 15 149 ?_
         refine tY 16 150 ?_
         refine tY 17 151 ?_
         refine tY 18 152 ?_
         refine wpAnyH_done (by kernel_rfl) ?_ _
         go_wp2_with fail
         exact ⟨⟨k + 1, by omega, by go_num, HB9⟩, by simp [intOf]; omega⟩
        ·obtain rfl : k = n := by omega
         clear hr
         go_wp2_with fail
         exact ⟨⟨i + 1, by omega, by go_num, HB⟩, by simp [intOf]; omega⟩
      ·obtain rfl : i = N2 := by omega
       go_wp2_with fail
       go_loopw [11, 12] (fun ii _ W => ∃ i : Nat, i ≤ N3 ∧ ii = .int .i64 (i : Int) ∧ Hid (Below w.heap.size w W))
        (fun ii _ _ => N3 - (intOf ii).toNat)
       case atStart => exact ⟨0, by omega, rfl, HB⟩
       case round =>
        clear HB
        obtain ⟨i, hi, rfl, HB⟩ := hrel
        obtain ⟨p1, p2⟩ := L3.out.1 wr HB.out
        by_cases hlt : i < N3
        ·obtain ⟨tb, mb, g, n, c, m, e1, e2, hn, hm0, hW⟩ := L3.out.2 i hlt
         subst e1 e2
         obtain ⟨x1, x2, -⟩ := hW wr HB.out
         have HW := Aa hW
         have HC := Aa (L3.out.1)
         clear hW
         obtain ⟨Wo, rfl⟩ : ∃ x, x = wr := ⟨wr, rfl⟩
         have HB1 := HB
         go_wp2_with fail
         clear HB p1 p2 x1 x2 hm0
         go_loopw [12] (fun kk W => ∃ k : Nat, k ≤ n ∧ kk = .int .i64 (k : Int) ∧ Hid (Below w.heap.size w W))
          (fun kk _ => n - (intOf kk).toNat)
         case atStart => exact ⟨0, by omega, rfl, HB1⟩
         case round =>
          clear HB1
          obtain ⟨k, hk, rfl, HB⟩ := hrel
          obtain ⟨p1, p2⟩ := HC.out wr HB.out
          obtain ⟨x1, x2, hr⟩ := HW.out wr HB.out
          by_cases hkl : k < n
          ·obtain ⟨gb, go, rfl, y1⟩ := Gt hr k 0 hkl _ rfl
           rw [show (MJ 3 m).length = 1 from rfl, Nat.mul_one, Nat.add_zero] at y1
           clear hr
           have hS : ∀ W, Below wr.heap.size wr W → W.cell? ⟨B, 3, none⟩ = some (.slice (some ⟨tb, 0, none⟩) N3 tc3) ∧ W.cell? ⟨B, 7, none⟩ = some (.slice (some ⟨mb, 0, none⟩) N3 mc3) ∧ W.cell? ⟨tb, i, none⟩ = some (.slice (some ⟨gb, go, none⟩) n c) ∧ W.cell? ⟨mb, i, none⟩ = some (.int .i64 m) ∧ W.cell? ⟨gb, go + k, none⟩ = some (.bool (m == 1)) := fun W hb =>
            ⟨(hb.cell (World.block_lt_of_cell? wr _ p1)).trans p1, (hb.cell (World.block_lt_of_cell? wr _ p2)).trans p2, (hb.cell (World.block_lt_of_cell? wr _ x1)).trans x1, (hb.cell (World.block_lt_of_cell? wr _ x2)).trans x2, (hb.cell (World.block_lt_of_cell? wr _ y1)).trans y1⟩
           have HS := Aa hS
           have HB9 := Aa (HB.out.drew)
           clear hS
           go_wp2_with fail
           clear y1
           refine wp_region_held_drew (S := fun W => W.cell? ⟨B, 3, none⟩ = some (.slice (some ⟨tb, 0, none⟩) N3 tc3) ∧ W.cell? ⟨B, 7, none⟩ = some (.slice (some ⟨mb, 0, none⟩) N3 mc3) ∧ W.cell? ⟨tb, i, none⟩ = some (.slice (some ⟨gb, go, none⟩) n c) ∧ W.cell? ⟨mb, i, none⟩ = some (.int .i64 m) ∧ W.cell? ⟨gb, go + k, none⟩ = some (.bool (m == 1))) (by kernel_rfl) (HS.out _ (Below.refl _ _).drew) (fun hHeld => ?_)
           refine tY 0 174 ?_
           refine tY 1 175 ?_
           refine tY 2 176 ?_
           refine tY 3 177 ?_
           refine tY 4 178 ?_
           refine tY 5 179 ?_
           refine tY 6 180 ?_
           refine tY 7 181 ?_
           refine tY 8 182 ?_
           refine tY 9 183 ?_
           refine tY 10 184 ?_
           refine tY 11 185 ?_
           refine tY 12 186 ?_
           refine tY 13 187 ?_
           refine tY 14 188 ?_
           refine tY 15 189 ?_
           refine tY 16 190 ?_
           refine tY 17 191 ?_
           refine tY 18 192 ?_
           refine tY 19 193 ?_
           refine wpAnyH_done (by kernel_rfl) ?_ _
           go_wp2_with fail
           exact ⟨⟨k + 1, by omega, by go_num, HB9⟩, by simp [intOf]; omega⟩
          ·obtain rfl : k = n := by omega
           clear hr
           go_wp2_with fail
           exact ⟨⟨i + 1, by omega, by go_num, HB⟩, by simp [intOf]; omega⟩
        ·obtain rfl : i = N3 := by omega
         have HE := HB
         go_wp2_with fail
         go_ret
         exact ⟨rfl, HE.out⟩
theorem QO {a b k a' p' : Nat} (hk : k < 16) (hm : p' ^^^ Math.lin (Math.pows (16 - k) a') (b / 2 ^ k) = Math.mul a b) :
    (p' ^^^ (if (b / 2 ^ k) % 2 = 1 then a' else 0)) ^^^ Math.lin (Math.pows (16 - (k + 1)) (Math.X a')) (b / 2 ^ (k + 1)) = Math.mul a b := by
  have e : 16 - k = (16 - (k + 1)) + 1 := by omega
  rw [e, Ni, Nat.div_div_eq_div_mul, ← Nat.pow_succ] at hm
  exact hm
theorem RI (a : Nat) (ha : a < 65536) (h : 65535 < 2 * (a : Int)) : bits BinOp.xor IntKind.u32 (2 * (a : Int)) 69643 = ((Math.X a : Nat) : Int) := by
  have h1 : a / 32768 = 1 := by omega
  have e := u32_xor_nat (2 * a) 69643 (by omega) (by omega)
  rw [show (2 * (a : Int)) = ((2 * a : Nat) : Int) from by omega, show ((69643 : Int)) = ((69643 : Nat) : Int) from rfl, e]
  congr 1
  have hr : (2 * a) % 65536 < 2 ^ 16 := Nat.mod_lt _ (by omega)
  have e1 : 2 * a = 65536 ^^^ (2 * a) % 65536 := by
    have h2 : (2 ^ 16 * 1 ||| (2 * a) % 65536) = 65536 ^^^ (2 * a) % 65536 := by
      apply Nat.eq_of_testBit_eq
      intro i
      have hp : (65536 : Nat) = 2 ^ 16 := rfl
      rw [hp]
      simp only [Nat.testBit_or, Nat.testBit_xor, Nat.mul_one, Nat.testBit_two_pow]
      by_cases hi : 16 = i
      · subst hi
        rw [Nat.testBit_lt_two_pow hr]
        rfl
      · simp [hi]
    have h3 := Nat.two_pow_add_eq_or_of_lt hr 1
    omega
  have e2 : (69643 : Nat) = 65536 ^^^ 4107 := by decide
  unfold Math.X
  simp only [h1]
  rw [e2]
  conv => lhs; rw [e1]
  rw [Math.xor4]
  simp
theorem RG (a : Nat) (h : 2 * (a : Int) ≤ 65535) : 2 * (a : Int) = ((Math.X a : Nat) : Int) := by
  have h1 : a / 32768 = 0 := by omega
  unfold Math.X
  simp only [h1]
  simp
  omega
theorem Ly (b k : Nat) : (((b : Int) / 2 ^ k).tmod 2 == 1) = decide ((b / 2 ^ k) % 2 = 1) := by
  have e : ((b : Int) / 2 ^ k) = ((b / 2 ^ k : Nat) : Int) := by simp
  rw [e, Int.tmod_eq_emod_of_nonneg (Int.natCast_nonneg _)]
  by_cases h : (b / 2 ^ k) % 2 = 1
  · simp only [h, decide_true]; simp only [beq_iff_eq]; omega
  · simp only [h, decide_false]; simp only [beq_eq_false_iff_ne]; omega
theorem CL (a b : Nat) (ha : a < 65536) (_hb : b < 65536) (w : World) :
    Calls Tryz.prog 53 #[.int .u16 (a : Int), .int .u16 (b : Int)] w fun e w' => e = .returned (.int .u16 ((Math.mul a b : Nat) : Int)) ∧ w' = w := by
  go_enter Tryz.func53, Tryz.ntmps53
  go_wp2
  go_loop [5, 6, 7] (fun x p i => ∃ k a' p' : Nat, k ≤ 16 ∧ a' < 65536 ∧ p' < 65536 ∧ Hid (p' ^^^ Math.lin (Math.pows (16 - k) a') (b / 2 ^ k) = Math.mul a b) ∧ x = .int .u32 (a' : Int) ∧ p = .int .u32 (p' : Int) ∧ i = .int .i64 (k : Int))
                    (fun _ _ i => 16 - (intOf i).toNat)
  case atStart => exact ⟨0, a, 0, by omega, ha, by omega, Aa (by simp [Math.mul]), by go_num, rfl, rfl⟩
  case round =>
    obtain ⟨k, a', p', hk, ha', hp', hm, rfl, rfl, rfl⟩ := hrel
    have hxor := u32_xor_nat p' a' (by omega) (by omega)
    have HX := Aa hxor
    clear hxor
    have hpx : p' ^^^ a' < 65536 := Nat.xor_lt_two_pow (n := 16) hp' ha'
    have fin : k < 16 → ∀ x q : Int, x = ((Math.X a' : Nat) : Int) → (((((b : Int) / 2 ^ k).tmod 2 == 1) = true ∧ q = bits BinOp.xor IntKind.u32 (p' : Int) (a' : Int)) ∨ ((((b : Int) / 2 ^ k).tmod 2 == 1) = false ∧ q = (p' : Int))) →
        ((∃ k1 a1 p1 : Nat, k1 ≤ 16 ∧ a1 < 65536 ∧ p1 < 65536 ∧ Hid (p1 ^^^ Math.lin (Math.pows (16 - k1) a1) (b / 2 ^ k1) = Math.mul a b) ∧ Value.int IntKind.u32 x = .int .u32 (a1 : Int) ∧ Value.int IntKind.u32 q = .int .u32 (p1 : Int) ∧ Value.int IntKind.i64 ((k : Int) + 1) = .int .i64 (k1 : Int)) ∧
        16 - (intOf (Value.int IntKind.i64 ((k : Int) + 1))).toNat < 16 - (intOf (Value.int IntKind.i64 (k : Int))).toNat) := by
      intro hk16 x q hx hq
      have hn := QO hk16 hm.out
      refine ⟨⟨k + 1, Math.X a', p' ^^^ (if (b / 2 ^ k) % 2 = 1 then a' else 0), by omega, Math.X_lt a', ?_, Aa hn, by rw [hx], ?_, by go_num⟩, ?_⟩
      · split
        · exact hpx
        · simpa using hp'
      · rcases hq with ⟨h, rfl⟩ | ⟨h, rfl⟩
        · rw [Ly] at h
          rw [if_pos (of_decide_eq_true h), HX.out]
        · rw [Ly] at h
          rw [if_neg (of_decide_eq_false h), Nat.xor_zero]
      · simp [intOf]; omega
    have FIN := Aa fin
    clear fin
    go_wp2
    · exact FIN.out (by omega) _ _ (RI a' ha' (by assumption)) (Or.inl ⟨by assumption, rfl⟩)
    · exact FIN.out (by omega) _ _ (RG a' (by assumption)) (Or.inl ⟨by assumption, rfl⟩)
    · exact FIN.out (by omega) _ _ (RI a' ha' (by assumption)) (Or.inr ⟨by assumption, rfl⟩)
    · exact FIN.out (by omega) _ _ (RG a' (by assumption)) (Or.inr ⟨by assumption, rfl⟩)
    · have hk16 : k = 16 := by omega
      subst hk16
      have h := hm.out
      simp [Math.pows, Math.lin] at h
      subst h
      go_ret
      exact ⟨rfl, rfl⟩
theorem Gc (a b : Nat) (ha : a < 65536) (hb : b < 65536) (w : World) :
    Calls Tryz.prog 36 #[.int .u16 (a : Int), .int .u16 (b : Int)] w fun e w' => e = .returned (.int .u16 ((Math.mul a b : Nat) : Int)) ∧ w' = w := by
  go_enter Tryz.func36, Tryz.ntmps36
  go_wp2_with (go_at_call 60; refine (CF a b ha hb w).mono ?_; rintro e w' ⟨rfl, rfl⟩)
  go_ret
  exact ⟨rfl, rfl⟩
def Es (w : World) (base B : Nat) (M : Nat → List Int) (e : Ending) (w' : World) : Prop :=
 e = .returned (.bool true) ∧ Below base w w' ∧ ∃ rs' T' M', BookI w' base B (· < w'.heap.size) rs' T' M' ∧ ∀ j, (M' j).length ≤ (M j).length + 4
section
variable {w w' W : World} {base B : Nat} {rs : Nat → Value} {T : Nat → List Value} {M : Nat → List Int}
theorem BookI.step_same (h : BookI w base B (· < w.heap.size) rs T M) (hb : Below w.heap.size w w') : Es w base B M (.returned (.bool true)) w' :=
 ⟨rfl, hb.mono h.bas, rs, T, M, (h.later (fun _ hk => hk) hb).mono (fun _ hk => Nat.lt_of_lt_of_le hk hb.size) (fun _ hk => hk), fun _ => Nat.le_add_right _ _⟩
theorem Blk.same {K : Nat} {vs : List Value} (h : Blk w K vs) (e : w'.heap[K]? = w.heap[K]?) : Blk w' K vs := fun k u hk => by
 have h1 := h k u hk
 exact ⟨by rw [World.cell?_of_block (w := w) (a := ⟨K, k, none⟩) e]; exact h1.1, by rw [World.frozen?_of_block (w := w) (a := ⟨K, k, none⟩) e]; exact h1.2⟩
theorem NU (h : BookI w base B (· < w.heap.size) rs T M) (a b : Nat) (ha : a < 65536) (hb : b < 65536) (u3 u4 u5 u6 u7 u8 : Value) :
  Calls Tryz.prog 34 #[.pointer (some ⟨B, 0, none⟩), .agg #[.int .i64 1, .int .u16 (a : Int), .int .u16 (b : Int), u3, u4, u5, u6, u7, u8]] w (Es w base B M) := by
 have H := Aa h
 clear h
 go_enter Tryz.func34, Tryz.ntmps34
 go_wp2_with fail
 have HB := Aa (show Below w.heap.size w (w.alloc (.cells #[.int .i64 1, .int .u16 (a : Int), .int .u16 (b : Int), u3, u4, u5, u6, u7, u8] 82)) from (Below.refl _ _).alloc (Nat.le_refl _) _)
 refine (Gc a b ha hb _).mono ?_
 rintro e w' ⟨rfl, rfl⟩
 go_wp2_with fail
 refine (CL a b ha hb _).mono ?_
 rintro e w' ⟨rfl, rfl⟩
 go_wp2_with fail
 go_ret
 exact H.out.step_same HB.out
theorem P9 (h : BookI w base B (· < w.heap.size) rs T M) (kd : Int) (k1 : kd ≠ 1) (k2 : kd ≠ 2) (k3 : kd ≠ 3) (k4 : kd ≠ 4) (u1 u2 u3 u4 u5 u6 u7 u8 : Value) :
  Calls Tryz.prog 34 #[.pointer (some ⟨B, 0, none⟩), .agg #[.int .i64 kd, u1, u2, u3, u4, u5, u6, u7, u8]] w (Es w base B M) := by
 have H := Aa h
 clear h
 have e1 : (kd == 1) = false := by simp [k1]
 have e2 : (kd == 2) = false := by simp [k2]
 have e3 : (kd == 3) = false := by simp [k3]
 have e4 : (kd == 4) = false := by simp [k4]
 have HB := Aa (show Below w.heap.size w (w.alloc (.cells #[.int .i64 kd, u1, u2, u3, u4, u5, u6, u7, u8] 82)) from (Below.refl _ _).alloc (Nat.le_refl _) _)
 go_enter Tryz.func34, Tryz.ntmps34
 go_wp2_with fail
 go_ret
 exact H.out.step_same HB.out
end
def Cr (pts : List Nat) (i : Nat) (p k : Nat) : Nat := if k = i then p else Math.mul p (pts.getD i 0 ^^^ pts.getD k 0)
def Mi (pts : List Nat) (i : Nat) : Nat := (List.range pts.length).foldl (Cr pts i) 1
theorem DI {a b : Nat} (ha : a < 65536) (hb : b < 65536) : a ^^^ b < 65536 := Nat.xor_lt_two_pow (n := 16) ha hb
theorem AP {l : List Nat} (h : ∀ x ∈ l, x < 65536) (i : Nat) : l.getD i 0 < 65536 := by
 rw [List.getD_eq_getElem?_getD]
 rcases Nat.lt_or_ge i l.length with hi | hi
 ·rw [List.getElem?_eq_getElem hi]; exact h _ (List.getElem_mem hi)
 ·rw [List.getElem?_eq_none hi]; decide
theorem L7 {pts : List Nat} {i p k : Nat} (hp : p < 65536) : Cr pts i p k < 65536 := by
 unfold Cr
 split
 ·exact hp
 ·exact Math.mul_lt hp _
theorem KD {α : Type} (f : Nat → α → Nat) (hf : ∀ p k, p < 65536 → f p k < 65536) (l : List α) : ∀ p, p < 65536 → l.foldl f p < 65536 := by
 induction l with
 | nil => intro p hp; exact hp
 | cons x l ih => intro p hp; exact ih _ (hf _ _ hp)
theorem Nm (pts : List Nat) (i : Nat) : Mi pts i < 65536 := KD _ (fun _ _ h => L7 h) _ _ (by decide)
theorem Ds {r : List Nat} {w : World} {a : Option Addr} (h : Rd w a (A9 r)) (k : Nat) (hk : k < r.length) : ∃ b off, a = some ⟨b, off, none⟩ ∧ w.cell? ⟨b, off + k, none⟩ = some (.int .u16 ((r.getD k 0 : Nat) : Int)) := by
 refine h k _ ?_
 simp [A9, hk]
theorem Hq (pts : List Nat) (i : Nat) (a : Option Addr) (cap : Nat) (hn : pts.length ≤ 1000) (hi : i < pts.length) (hp : ∀ x ∈ pts, x < 65536) (w : World) (hrd : Rd w a (A9 pts)) :
  Calls Tryz.prog 138 #[.slice a pts.length cap, .int .i64 (i : Int)] w fun e w' => e = .returned (.int .u16 ((Mi pts i : Nat) : Int)) ∧ w' = w := by
 obtain ⟨b, off, rfl, hci⟩ := Ds hrd i hi
 have hpi := AP hp i
 obtain ⟨pi, hpie⟩ : ∃ x, x = pts.getD i 0 := ⟨_, rfl⟩
 rw [← hpie] at hci hpi
 have HPI := Aa hpie
 clear hpie
 go_enter Tryz.func138, Tryz.ntmps138
 go_wp2
 go_loop [5, 6, 7, 10] (fun p _ _ j => ∃ k p' : Nat, k ≤ pts.length ∧ p' < 65536 ∧ p = .int .u16 (p' : Int) ∧ j = .int .i64 (k : Int) ∧ Hid (p' = (List.range k).foldl (Cr pts i) 1))
  (fun _ _ _ j => pts.length - (intOf j).toNat)
 case atStart => exact ⟨0, 1, by omega, by omega, rfl, rfl, Aa rfl⟩
 case round =>
  obtain ⟨k, p', hk, hp', rfl, rfl, hd⟩ := hrel
  by_cases hlt : k < pts.length
  ·obtain ⟨b', off', e, hck⟩ := Ds hrd k hlt
   cases e
   have hpk := AP hp k
   obtain ⟨pk, hpke⟩ : ∃ x, x = pts.getD k 0 := ⟨_, rfl⟩
   rw [← hpke] at hck hpk
   have HPK := Aa hpke
   clear hpke
   have hx := Oi pi pk hpi hpk
   have hnext : Cr pts i p' k = (List.range (k + 1)).foldl (Cr pts i) 1 := by
    rw [List.range_succ, List.foldl_append, ← hd.out]; rfl
   have HN := Aa hnext
   clear hnext
   by_cases hki : k = i
   ·have e1 : ((k : Int) == (i : Int)) = true := by simp; omega
    have e2 : ((k : Int) != (i : Int)) = false := by simp; omega
    have h3 : Cr pts i p' k = p' := by unfold Cr; rw [if_pos hki]
    have H3 := Aa h3
    have HK := Aa hki
    clear h3 hki
    go_wp2_with fail
    refine ⟨⟨k + 1, p', by omega, hp', rfl, by go_num, Aa ?_⟩, by simp [intOf]; omega⟩
    rw [← HN.out, H3.out]
   ·have e2 : ((k : Int) != (i : Int)) = true := by simp; omega
    have h3 : Cr pts i p' k = Math.mul p' (pi ^^^ pk) := by unfold Cr; rw [if_neg hki, ← HPI.out, ← HPK.out]
    have H3 := Aa h3
    have HK := Aa hki
    clear h3 hki
    go_wp2_with fail
    refine (CF p' (pi ^^^ pk) hp' (DI hpi hpk) _).mono ?_
    rintro e w' ⟨rfl, rfl⟩
    go_wp2_with fail
    refine ⟨⟨k + 1, Math.mul p' (pi ^^^ pk), by omega, Math.mul_lt hp' _, rfl, by go_num, Aa ?_⟩, by simp [intOf]; omega⟩
    rw [← HN.out, H3.out]
  ·obtain rfl : k = pts.length := by omega
   go_wp2
   go_ret
   refine ⟨?_, rfl⟩
   have := hd.out
   rw [this]
   rfl
end Go.Proofs.YtonjphollmdicaaGreatDoor
