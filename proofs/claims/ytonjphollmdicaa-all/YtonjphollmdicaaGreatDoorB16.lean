import Derived.Test.YtonjphollmdicaaGreatDoorB04
import Derived.Test.YtonjphollmdicaaGreatDoorB09
import Derived.Test.YtonjphollmdicaaGreatDoorB10
import Derived.Test.YtonjphollmdicaaGreatDoorB15
import Derived.Maps.AppendAt
set_option maxRecDepth 100000
set_option maxHeartbeats 4000000
set_option linter.unusedSimpArgs false
namespace Go.Proofs.YtonjphollmdicaaGreatDoor
open Go.ChangeShapes Go.WideShapes Go.ChangeAt Go.RowKit
theorem Sn (fs : List Ak) (i : Nat) (h : i < fs.length + 8) : ∃ f : Ak, (As (EJ fs 8))[i * 2]? = some (.string (str f.1)) ∧ (As (EJ fs 8))[i * 2 + 1]? = some (.string (str f.2)) ∧ (i < fs.length → fs[i]? = some f) ∧ (¬ i < fs.length → f = JI) := by
 have hl : (EJ fs 8).length = fs.length + 8 := by simp [EJ]
 obtain ⟨h1, h2⟩ := Ez (EJ fs 8) i (by omega)
 rw [Nat.mul_comm] at h1 h2
 refine ⟨(EJ fs 8)[i]'(by omega), h1, h2, fun h' => ?_, fun h' => ?_⟩
 ·simp [EJ, h']
 ·unfold EJ
  rw [List.getElem_append_right (show fs.length ≤ i from by omega)]
  exact List.getElem_replicate _
theorem EL {W W' : World} {r : Option Nat} (h : Below W.heap.size W W') : W.grownBy W' r := ⟨h.os, h.tape, h.output, h.size, fun k hk _ => h.block k hk⟩
theorem SI {w3 W w' : World} {a1 a2 a3 a4 : Addr} {v1 v2 v3 v4 : Value} (h : W.cell? a1 = some v1 ∧ W.cell? a2 = some v2 ∧ W.cell? a3 = some v3 ∧ W.cell? a4 = some v4 ∧ Below w3.heap.size w3 W) (hb : Below W.heap.size W w') :
  w'.cell? a1 = some v1 ∧ w'.cell? a2 = some v2 ∧ w'.cell? a3 = some v3 ∧ w'.cell? a4 = some v4 ∧ Below w3.heap.size w3 w' := by
 obtain ⟨h1, h2, h3, h4, h5⟩ := h
 refine ⟨?_, ?_, ?_, ?_, Below.next h5 hb⟩
 ·rw [hb.cell (World.block_lt_of_cell? W _ h1)]; exact h1
 ·rw [hb.cell (World.block_lt_of_cell? W _ h2)]; exact h2
 ·rw [hb.cell (World.block_lt_of_cell? W _ h3)]; exact h3
 ·rw [hb.cell (World.block_lt_of_cell? W _ h4)]; exact h4
theorem Ip {W : World} {B g m c : Nat} {xs ys : List Value} {k : Nat} {u v : Value} (h : W.ownsRow B 62 2 (.slice (some ⟨g, 0, none⟩) m c) m xs) (hx : ∀ j, k * 2 ≤ j → xs[j]? = ys[j]?) :
  ((W.setCell ⟨g, k * 2, none⟩ u).setCell ⟨g, k * 2 + 1, none⟩ v).ownsRow B 62 2 (.slice (some ⟨g, 0, none⟩) m c) m ((xs.set (k * 2) u).set (k * 2 + 1) v) ∧ ∀ j, (k + 1) * 2 ≤ j → ((xs.set (k * 2) u).set (k * 2 + 1) v)[j]? = ys[j]? := by
 refine ⟨((h.stored _ u).1.stored _ v).1, fun j hj => ?_⟩
 rw [List.getElem?_set_ne (by omega), List.getElem?_set_ne (by omega)]
 exact hx j (by omega)
theorem D7 (fs : List Ak) (a : Option Addr) (cap : Nat) (v : Value) (w0 w : World) (hn : fs.length + 8 ≤ 4398046511104) (hs : ∀ f ∈ fs, f.1.length < 140737488355328 ∧ f.2.length < 140737488355328) (hrd : Rd w0 a (As fs)) (hb : Below w0.heap.size w0 w) (hl : Lent w w0.heap.size v fs) :
  Calls Tryz.prog 15 #[v, .slice a fs.length cap] w fun e w' => e = .returned (.bool true) ∧ w.grownBy w' v.ownBlock := by
 obtain ⟨g, c, rfl, hc, hown⟩ := hl
 have hsz := hb.size
 have HRD := Aa hrd
 have HS := Aa hs
 have HO := Aa hown
 have hgb0 : w0.heap.size ≤ g := (hown.lt g (by simp [Value.ownBlock])).1
 have HB := Aa hb
 have HAT := Aa (fun i h => Sn fs i h)
 clear hrd hs hown hb
 obtain ⟨n, hN⟩ : ∃ n, n = fs.length := ⟨_, rfl⟩
 have HN := Aa hN
 rw [← hN] at hn hc HO ⊢
 rw [← hN] at HAT
 clear hN
 go_enter Tryz.func15, Tryz.ntmps15
 go_wp2_with fail
 go_loopw [5, 7, 8, 9] (fun ok i _ _ W => ∃ (k : Nat) (xs : List Value), k ≤ n + 8 ∧ ok = .bool true ∧ i = .int .i64 (k : Int) ∧ W.ownsRow w0.heap.size 62 2 (.slice (some ⟨g, 0, none⟩) (n + 8) c) (n + 8) xs ∧ Hid (∀ j, k * 2 ≤ j → xs[j]? = (As (EJ fs 8))[j]?) ∧ w.grownBy W (some g))
  (fun _ i _ _ _ => n + 8 - (intOf i).toNat)
 case atStart => exact ⟨0, _, by omega, rfl, rfl, HO.out, Aa (fun _ _ => rfl), ⟨rfl, rfl, rfl, Nat.le_refl _, fun _ _ _ => rfl⟩⟩
 case round =>
  clear HO
  obtain ⟨k, xs, hk, rfl, rfl, hownr, HX, hgr⟩ := hrel
  have hbl : Below w0.heap.size w0 wr := HB.out.grown hgr hsz (by intro kk hkk; cases hkk; exact hgb0)
  have HGR := Aa hgr
  clear hgr
  have hszr := hbl.size
  by_cases hlt : k < n + 8
  ·obtain ⟨f, hf1, hf2, hf3, hf4⟩ := HAT.out k hlt
   rw [← HX.out _ (by omega)] at hf1 hf2
   have hc1 : wr.cell? ⟨g, k * 2, none⟩ = some (.string (str f.1)) := by rw [hownr.cellAt _ (by omega)]; exact hf1
   have hc2 : wr.cell? ⟨g, k * 2 + 1, none⟩ = some (.string (str f.2)) := by rw [hownr.cellAt _ (by omega)]; exact hf2
   have H1 := Aa hf3
   have H2 := Aa hf4
   have H3 := Aa hownr
   have H4 := Aa hbl
   clear hf1 hf2 hf3 hf4 hownr hbl
   go_wp2_with fail
   refine (FT _).mono ?_
   rintro e w2 ⟨rfl, hb2⟩
   have hb3 : Below w0.heap.size w0 w2 := H4.out.trans (hb2.mono hszr)
   have hsz2 : w0.heap.size ≤ w2.heap.size := hb3.size
   have hg2 : g < wr.heap.size := World.block_lt_of_cell? wr _ hc1
   have hg3 : g < w2.heap.size := by have := hb2.size; omega
   have hd1 : w2.cell? ⟨g, k * 2, none⟩ = some (.string (str f.1)) := by rw [hb2.cell hg2]; exact hc1
   have hd2 : w2.cell? ⟨g, k * 2 + 1, none⟩ = some (.string (str f.2)) := by rw [hb2.cell hg2]; exact hc2
   have H5 := Aa (Ab H3.out (Nat.le_refl _) hb2)
   have H6 := Aa hb3
   have HGR2 := Aa (HGR.out.trans (EL (r := some g) hb2))
   clear hb2 hb3 H3 H4 hc1 hc2
   by_cases hkn : k < n
   ·have hfk := H1.out hkn
    have hkl : k < fs.length := by rw [← HN.out]; exact hkn
    obtain ⟨b0, off0, rfl, hl1, hl2⟩ := Bk HRD.out (Nat.le_refl _) H6.out k hkl
    have hfe : fs[k] = f := by
     rw [List.getElem?_eq_getElem hkl] at hfk
     exact Option.some.inj hfk
    rw [hfe] at hl1 hl2
    have hll : b0 < w2.heap.size := World.block_lt_of_cell? w2 _ hl1
    have hl1' : ∀ o, (w2.alloc o).cell? ⟨b0, off0 + k * 2, none⟩ = some (.string (str f.1)) := fun o => by rw [An hll]; exact hl1
    have hl2' : ∀ o, (w2.alloc o).cell? ⟨b0, off0 + k * 2 + 1, none⟩ = some (.string (str f.2)) := fun o => by rw [An hll]; exact hl2
    clear hfe hfk H1 H2
    go_wp2_with fail
    clear hl1 hl2 hl1' hl2' hll
    obtain ⟨w3, hw3⟩ : ∃ x, x = w2.alloc (.cells #[.string (str f.1), .string (str f.2)] 62) := ⟨_, rfl⟩
    have he1 : w3.cell? ⟨g, k * 2, none⟩ = some (.string (str f.1)) := by rw [hw3, An hg3]; exact hd1
    have he2 : w3.cell? ⟨g, k * 2 + 1, none⟩ = some (.string (str f.2)) := by rw [hw3, An hg3]; exact hd2
    have he3 : w3.cell? ⟨w2.heap.size, 0, none⟩ = some (.string (str f.1)) := by rw [hw3]; simp
    have he4 : w3.cell? ⟨w2.heap.size, 1, none⟩ = some (.string (str f.2)) := by rw [hw3]; simp
    have hb23 : Below w2.heap.size w2 w3 := by rw [hw3]; exact (Below.refl _ _).alloc (Nat.le_refl _) _
    have H7 := Aa hb23
    rw [← hw3]
    clear hw3 hb23 hd1 hd2
    have hSF := Aa (fun W => Eo f f W)
    rw [show (f == f) = true from by simp] at hSF
    go_region_held (fun W => W.cell? ⟨g, k * 2, none⟩ = some (.string (str f.1)) ∧ W.cell? ⟨g, k * 2 + 1, none⟩ = some (.string (str f.2)) ∧ W.cell? ⟨w2.heap.size, 0, none⟩ = some (.string (str f.1)) ∧ W.cell? ⟨w2.heap.size, 1, none⟩ = some (.string (str f.2)) ∧ Below w3.heap.size w3 W)
     (first | assumption | exact ⟨he1, he2, he3, he4, (Below.refl _ _).drew⟩ | (refine SI ?_ hb9; assumption))
     (first | (go_at_call 46; refine (hSF.out _).mono ?_; rintro e w9 ⟨rfl, hb9⟩))
    obtain ⟨q1, q2, _, _, q5⟩ : w9.cell? ⟨g, k * 2, none⟩ = some (.string (str f.1)) ∧ w9.cell? ⟨g, k * 2 + 1, none⟩ = some (.string (str f.2)) ∧ w9.cell? ⟨w2.heap.size, 0, none⟩ = some (.string (str f.1)) ∧ w9.cell? ⟨w2.heap.size, 1, none⟩ = some (.string (str f.2)) ∧ Below w3.heap.size w3 w9 := by assumption
    have hb29 := Below.next H7.out q5
    have hown9 := Ab H5.out (Nat.le_refl _) hb29
    have hfz1 := hown9.frozenAt (k * 2)
    have hfz2 := hown9.frozenAt (k * 2 + 1)
    have hfin := Ip (u := .string ⟨#[111, 118, 101, 114]⟩) (v := .string ⟨#[]⟩) hown9 HX.out
    have hBf : w.grownBy ((w9.setCell ⟨g, k * 2, none⟩ (.string ⟨#[111, 118, 101, 114]⟩)).setCell ⟨g, k * 2 + 1, none⟩ (.string ⟨#[]⟩)) (some g) := ((HGR2.out.trans (EL hb29)).trans (CQ w9 ⟨g, k * 2, none⟩ _)).trans (CQ _ ⟨g, k * 2 + 1, none⟩ _)
    have K1 := Aa hfin.1
    have K2 := Aa hfin.2
    have K3 := Aa hBf
    clear hb29 hown9 hfin hBf H5 H6 H7 HX HGR HGR2 he1 he2 he3 he4
    go_wp2_with fail
    refine ⟨⟨k + 1, _, by omega, rfl, by go_num, K1.out, K2, K3.out⟩, by simp [intOf]; omega⟩
   ·have hfe := H2.out hkn
    subst hfe
    clear H1 H2
    go_wp2_with fail
    obtain ⟨w3, hw3⟩ : ∃ x, x = w2.alloc (.cells #[.string (str Bd), .string (str Bd)] 62) := ⟨_, rfl⟩
    have he1 : w3.cell? ⟨g, k * 2, none⟩ = some (.string (str Bd)) := by rw [hw3, An hg3]; exact hd1
    have he2 : w3.cell? ⟨g, k * 2 + 1, none⟩ = some (.string (str Bd)) := by rw [hw3, An hg3]; exact hd2
    have he3 : w3.cell? ⟨w2.heap.size, 0, none⟩ = some (.string (str Bd)) := by rw [hw3]; simp
    have he4 : w3.cell? ⟨w2.heap.size, 1, none⟩ = some (.string (str Bd)) := by rw [hw3]; simp
    have hb23 : Below w2.heap.size w2 w3 := by rw [hw3]; exact (Below.refl _ _).alloc (Nat.le_refl _) _
    have H7 := Aa hb23
    rw [← hw3]
    clear hw3 hb23 hd1 hd2
    have hSF := Aa (fun W => Eo JI JI W)
    rw [show (JI == JI) = true from by simp] at hSF
    go_region_held (fun W => W.cell? ⟨g, k * 2, none⟩ = some (.string (str Bd)) ∧ W.cell? ⟨g, k * 2 + 1, none⟩ = some (.string (str Bd)) ∧ W.cell? ⟨w2.heap.size, 0, none⟩ = some (.string (str Bd)) ∧ W.cell? ⟨w2.heap.size, 1, none⟩ = some (.string (str Bd)) ∧ Below w3.heap.size w3 W)
     (first | assumption | exact ⟨he1, he2, he3, he4, (Below.refl _ _).drew⟩ | (refine SI ?_ hb9; assumption))
     (first | (go_at_call 46; refine (hSF.out _).mono ?_; rintro e w9 ⟨rfl, hb9⟩))
    obtain ⟨q1, q2, _, _, q5⟩ : w9.cell? ⟨g, k * 2, none⟩ = some (.string (str Bd)) ∧ w9.cell? ⟨g, k * 2 + 1, none⟩ = some (.string (str Bd)) ∧ w9.cell? ⟨w2.heap.size, 0, none⟩ = some (.string (str Bd)) ∧ w9.cell? ⟨w2.heap.size, 1, none⟩ = some (.string (str Bd)) ∧ Below w3.heap.size w3 w9 := by assumption
    have hb29 := Below.next H7.out q5
    have hown9 := Ab H5.out (Nat.le_refl _) hb29
    have hfz1 := hown9.frozenAt (k * 2)
    have hfz2 := hown9.frozenAt (k * 2 + 1)
    have hfin := Ip (u := .string ⟨#[111, 118, 101, 114]⟩) (v := .string ⟨#[]⟩) hown9 HX.out
    have hBf : w.grownBy ((w9.setCell ⟨g, k * 2, none⟩ (.string ⟨#[111, 118, 101, 114]⟩)).setCell ⟨g, k * 2 + 1, none⟩ (.string ⟨#[]⟩)) (some g) := ((HGR2.out.trans (EL hb29)).trans (CQ w9 ⟨g, k * 2, none⟩ _)).trans (CQ _ ⟨g, k * 2 + 1, none⟩ _)
    have K1 := Aa hfin.1
    have K2 := Aa hfin.2
    have K3 := Aa hBf
    clear hb29 hown9 hfin hBf H5 H6 H7 HX HGR HGR2 he1 he2 he3 he4
    go_wp2_with fail
    refine ⟨⟨k + 1, _, by omega, rfl, by go_num, K1.out, K2, K3.out⟩, by simp [intOf]; omega⟩
  ·obtain rfl : k = n + 8 := by omega
   clear hownr hbl
   go_wp2_with fail
   go_ret
   exact ⟨rfl, HGR.out⟩
theorem EA (k : UInt8) (set : Nat) (b : List UInt8) : (BD k set b).length = 22 + b.length := by
 unfold BD Ew
 simp only [List.length_append, Ao, List.length_cons, List.length_nil]
 omega
def FU : List Ak := [([97], [0, 1, 0, 2])]
theorem JS {size : Nat} {fs : List Ak} {extra : Nat} (h0 : 0 < size) (h32 : size ≤ 32) (hg : CO fs size = true) : ∀ t ∈ Ck size fs extra, t.length ≤ 4000 := by
 unfold CO at hg
 rw [Bool.and_eq_true, Bool.and_eq_true] at hg
 obtain ⟨_, h6, hf⟩ := Eu hg.1.1
 intro t ht
 unfold Ck at ht
 rw [List.mem_cons, List.mem_append] at ht
 rcases ht with rfl | ht | ht
 ·rw [EA]
  unfold DK E6
  simp only [List.length_append, Ao, CV, List.length_map]
  unfold AA
  simp only [List.length_map, List.length_range]
  omega
 ·unfold Ey at ht
  rw [List.mem_map] at ht
  obtain ⟨b, hb, rfl⟩ := ht
  unfold AA at hb
  rw [List.mem_map] at hb
  obtain ⟨i, hi, rfl⟩ := hb
  have hi := List.mem_range.1 hi
  rw [EA]
  have hmem : fs.getD i ([], []) ∈ fs := by
   rw [List.getD_eq_getElem?_getD, List.getElem?_eq_getElem hi]
   exact List.getElem_mem hi
  have hfi := hf _ hmem
  unfold Kp Co DX
  simp only [List.length_append, Ao, CV, List.length_map, (CJ _ size h0).1]
  have : Aj (fs.getD i ([], [])).2.length size ≤ 400 := by
   unfold Aj
   rw [Nat.div_le_iff_le_mul_add_pred h0]
   have h1 : 400 * 1 ≤ 400 * size := Nat.mul_le_mul_left _ h0
   have h2 : size * 400 = 400 * size := Nat.mul_comm _ _
   omega
  omega
 ·unfold Bg at ht
  rw [List.mem_map] at ht
  obtain ⟨j, _, rfl⟩ := ht
  unfold Db
  rw [EA]
  unfold BI
  simp only [List.length_append, Ao, EC, FA]
  omega
theorem R0 (k : UInt8) (set : Nat) (b : List UInt8) : ((BD k set b).drop 14).take b.length = b := by
 unfold BD Ew
 have e : ([83, 65, 76, k] ++ Af set 8 ++ Af b.length 2).length = 14 := by simp [Ao]
 rw [List.append_assoc ([83, 65, 76, k] ++ Af set 8 ++ Af b.length 2), List.drop_append_of_le_length (by rw [e]; exact Nat.le_refl _), List.drop_of_length_le (by rw [e]; exact Nat.le_refl _), List.nil_append, List.take_append_of_le_length (Nat.le_refl _), List.take_length]
theorem Pe : BI 0 (Cx (BZ (BB 2 FU) 1 0)) = [0, 0, 0, 7] := by decide +kernel
theorem OO (w : World) :
  Calls Tryz.prog 9 #[] w fun e w' => e = .returned (.bool true) ∧ Below w.heap.size w w' := by
 have hrd : Rd (w.alloc (.cells #[.string ⟨#[97]⟩, .string ⟨#[0, 1, 0, 2]⟩] 62)) (some ⟨w.heap.size, 0, none⟩) (As FU) := by
  intro k u hk
  refine ⟨w.heap.size, 0, rfl, ?_⟩
  rcases k with _ | _ | k
  ·simp [As, FU] at hk; subst hk; simp [str]
  ·simp [As, FU] at hk; subst hk; simp [str]
  ·simp [As, FU] at hk
 have hC := Lw FU 2 1 2 1 (some ⟨w.heap.size, 0, none⟩) 1 rfl rfl (by omega) (by omega) (by omega) (by omega) (by decide) (by decide +kernel) _ ⟨hrd, by simp [FU], by simp [FU]⟩
 have hb0 : Below w.heap.size w (w.alloc (.cells #[.string ⟨#[97]⟩, .string ⟨#[0, 1, 0, 2]⟩] 62)) := (Below.refl _ _).alloc (Nat.le_refl _) _
 have HC := Aa hC
 have HB := Aa hb0
 clear hC hb0 hrd
 have hpk : Ck 2 FU 1 = [BD 77 (MF 2 FU) (DK 2 FU), BD 70 (MF 2 FU) (Kp 2 FU 0), Db 2 FU 1 0] := rfl
 have l0 : (BD 77 (MF 2 FU) (DK 2 FU)).length = 33 := by rw [EA, IG]; rfl
 have l1 : (BD 70 (MF 2 FU) (Kp 2 FU 0)).length = 51 := by rw [EA, KP 2 FU 0 (by omega)]; rfl
 have l2 : (Db 2 FU 1 0).length = 26 := by unfold Db BI; rw [EA, List.length_append, Ao, EC, FA]
 have x0 : (str (BD 77 (MF 2 FU) (DK 2 FU))).extract 0 4 = ⟨#[83, 65, 76, 77]⟩ := by rw [AB]; rfl
 have x2 : (str (Db 2 FU 1 0)).extract 14 18 = ⟨#[0, 0, 0, 7]⟩ := by
  rw [AB]
  have := R0 82 (MF 2 FU) (BI 0 (Cx (BZ (BB 2 FU) 1 0)))
  rw [Pe] at this
  unfold Db
  rw [Pe]
  rw [show (18 - 14) = ([0, 0, 0, 7] : List UInt8).length from rfl, this]
  rfl
 have HP := Aa hpk
 obtain ⟨p0, hp0⟩ : ∃ x, x = BD 77 (MF 2 FU) (DK 2 FU) := ⟨_, rfl⟩
 obtain ⟨p1, hp1⟩ : ∃ x, x = BD 70 (MF 2 FU) (Kp 2 FU 0) := ⟨_, rfl⟩
 obtain ⟨p2, hp2⟩ : ∃ x, x = Db 2 FU 1 0 := ⟨_, rfl⟩
 rw [← hp0, ← hp1, ← hp2] at HP
 rw [← hp0] at l0 x0
 rw [← hp1] at l1
 rw [← hp2] at l2 x2
 have s0 := Ae p0
 have s1 := Ae p1
 have s2 := Ae p2
 rw [l0] at s0
 rw [l1] at s1
 rw [l2] at s2
 clear hpk hp0 hp1 hp2 l0 l1 l2
 have t1 : Math.mul 2 3 = 6 := by decide +kernel
 have t2 : Math.mul 32768 2 = 4107 := by decide +kernel
 have T1 := Aa (Gc 2 3 (by omega) (by omega) w)
 have T2 := Aa (Gc 32768 2 (by omega) (by omega) w)
 rw [t1] at T1
 rw [t2] at T2
 go_enter Tryz.func9, Tryz.ntmps9
 go_wp2_with fail
 refine T1.out.mono ?_
 rintro e w' ⟨rfl, hw'⟩
 have hw' := hw'.symm
 subst hw'
 go_wp2_with fail
 refine T2.out.mono ?_
 rintro e w' ⟨rfl, hw'⟩
 have hw' := hw'.symm
 subst hw'
 go_wp2_with fail
 refine HC.out.mono ?_
 rintro e w1 ⟨v, rfl, hown, hb1⟩
 rw [HP.out] at hown
 obtain ⟨g, c, hv⟩ : ∃ g c, v = .slice (some ⟨g, 0, none⟩) 3 c := by
  rcases hown.2 with ⟨_, h1⟩ | ⟨g, c, cur, h1, _⟩
  ·simp [FU] at h1
  ·exact ⟨_, _, h1⟩
 have hown' : w1.ownsRow (w.alloc (.cells #[.string ⟨#[97]⟩, .string ⟨#[0, 1, 0, 2]⟩] 62)).heap.size 9 1 (.slice (some ⟨g, 0, none⟩) 3 c) 3 (AM [p0, p1, p2]) := by rw [← hv]; exact hown
 have c0 : w1.cell? ⟨g, 0, none⟩ = some (.string (str p0)) := by rw [hown'.cellAt 0 (by omega)]; rfl
 have c1 : w1.cell? ⟨g, 1, none⟩ = some (.string (str p1)) := by rw [hown'.cellAt 1 (by omega)]; rfl
 have c2 : w1.cell? ⟨g, 2, none⟩ = some (.string (str p2)) := by rw [hown'.cellAt 2 (by omega)]; rfl
 rw [hv]
 have hfin := Aa (Below.next HB.out hb1)
 clear hown hown' hv hb1 HC HB HP T1 T2
 go_wp2_with fail
 go_ret
 exact ⟨rfl, hfin.out⟩
def IY (fs : List Ak) (b x : Int) : List (List UInt8) × Int :=
 if Fg b x then ([], 1) else if CO fs b.toNat then (Ck b.toNat fs x.toNat, 0) else ([], 2)
theorem Da (size : Nat) (fs : List Ak) (extra : Nat) : (Ck size fs extra).length = 1 + fs.length + extra := by
 simp [Ck, Ey, Bg, AA]; omega
theorem Nv (fs : List Ak) (b x : Int) : (IY fs b x).1.length ≤ 1000 := by
 unfold IY
 by_cases h1 : Fg b x = true
 ·rw [if_pos h1]; simp
 ·rw [if_neg h1]
  by_cases h2 : CO fs b.toNat = true
  ·rw [if_pos h2, Da]
   obtain ⟨size, extra, _, hx, _, _, _, hex, _⟩ := Hr (by simpa using h1)
   unfold CO at h2
   rw [Bool.and_eq_true, Bool.and_eq_true] at h2
   have := Eu h2.1.1
   omega
  ·rw [if_neg h2]; simp
theorem Ih (fs : List Ak) (b x : Int) (a : Option Addr) (cap : Nat) (w : World) (hh : Handed w fs a cap) :
  Calls Tryz.prog 38 #[.slice a fs.length cap, .int .i64 b, .int .i64 x] w fun e w' => ∃ al cl, e = .returned (.tuple #[.slice al (IY fs b x).1.length cl, .int .i64 (IY fs b x).2]) ∧ w'.ownsRow w.heap.size 9 1 (.slice al (IY fs b x).1.length cl) (IY fs b x).1.length (AM (IY fs b x).1) ∧ Below w.heap.size w w' := by
 unfold IY
 by_cases h1 : Fg b x = true
 ·rw [if_pos h1]
  refine (MY fs b x a cap h1 w).mono ?_
  rintro e w' ⟨rfl, hb⟩
  exact ⟨none, 0, rfl, World.ownsRow_nil _ _ _ _, hb⟩
 ·rw [if_neg h1]
  obtain ⟨size, extra, hb, hx, h0, h32, hev, hex, hss⟩ := Hr (by simpa using h1)
  have e1 : b.toNat = size := by omega
  have e2 : x.toNat = extra := by omega
  rw [e1, e2]
  by_cases h2 : CO fs size = true
  ·rw [if_pos h2]
   refine (Ov fs b x size extra a cap hb hx h0 h32 hev hex hss h2 w hh).mono ?_
   rintro e w' ⟨v, rfl, hown, hbl⟩
   obtain ⟨al, cl, rfl, _, _, _⟩ := Aw hown
   exact ⟨al, cl, by rw [Da], by rw [Da]; exact hown, hbl⟩
  ·rw [if_neg h2]
   refine (Lh fs b x size extra a cap hb hx h0 h32 hex hss (by simpa using h2) w hh).mono ?_
   rintro e w' ⟨rfl, hbl⟩
   exact ⟨none, 0, rfl, World.ownsRow_nil _ _ _ _, hbl⟩
theorem Lent.later {w w' : World} {base : Nat} {v : Value} {fs : List Ak} (h : Lent w base v fs) (hb : Below w.heap.size w w') : Lent w' base v fs := by
 obtain ⟨g, c, hv, hc, ho⟩ := h
 exact ⟨g, c, hv, hc, Ab ho (Nat.le_refl _) hb⟩
theorem Lent.base {w : World} {base base' : Nat} {v : Value} {fs : List Ak} (h : Lent w base v fs) (hb : base' ≤ base) : Lent w base' v fs := by
 obtain ⟨g, c, hv, hc, ho⟩ := h
 exact ⟨g, c, hv, hc, Ad hb ho⟩
theorem Lent.handed {w : World} {base : Nat} {v : Value} {fs : List Ak} (h : Lent w base v fs) (hs : ∀ f ∈ fs, f.1.length < 140737488355328 ∧ f.2.length < 140737488355328) : ∃ a c, v = .slice a fs.length c ∧ Handed w fs a c := by
 obtain ⟨g, c, hv, hc, ho⟩ := h
 refine ⟨some ⟨g, 0, none⟩, c, hv, ⟨?_, by omega, hs⟩⟩
 intro k u hk
 have hkl : k < (As fs).length := (List.getElem?_eq_some_iff.1 hk).1
 have := ho.cells (g := g) rfl k u (by
  unfold EJ
  rw [DH, List.getElem?_append_left hkl]
  exact hk)
 have hadd : (⟨g, 0, none⟩ : Addr).add k = ⟨g, 0 + k, none⟩ := by unfold Addr.add; split <;> simp_all
 rw [hadd] at this
 exact ⟨g, 0, rfl, this⟩
theorem Handed.later {w w' : World} {fs : List Ak} {a : Option Addr} {cap : Nat} (h : Handed w fs a cap) (hb : Below w.heap.size w w') : Handed w' fs a cap := ⟨h.rd.later (Nat.le_refl _) hb, h.cap1, h.short⟩
theorem Iw (l m : List (List UInt8)) (a b : Option Addr) (c d : Nat) (hl : l.length ≤ 1000000) (hm : m.length ≤ 1000000) (w : World) (ha : Rd w a (AM l)) (hb : Rd w b (AM m)) :
  Calls Tryz.prog 54 #[.slice a l.length c, .slice b m.length d] w fun e w' => e = .returned (.bool (l == m)) ∧ Below w.heap.size w w' := by
 by_cases hne : l.length = m.length
 ·have hne' : ((l.length : Int) != (m.length : Int)) = false := by simp [hne]
  have HA := Aa ha
  have HB := Aa hb
  clear ha hb
  go_enter Tryz.func54, Tryz.ntmps54
  go_wp2_with fail
  go_loopw [5] (fun i wr => ∃ k : Nat, k ≤ l.length ∧ i = .int .i64 (k : Int) ∧ Below w.heap.size w wr ∧ Hid (l.take k = m.take k))
   (fun i _ => l.length - (intOf i).toNat)
  case atStart => exact ⟨0, by omega, rfl, Below.refl _ _, Aa (by simp)⟩
  case round =>
   obtain ⟨k, hk, rfl, hbl, hd⟩ := hrel
   by_cases hlt : k < l.length
   ·have hlt2 : k < m.length := by omega
    obtain ⟨b1, o1, rfl, hc1⟩ := (HA.out.later (Nat.le_refl _) hbl) k (.string (str l[k])) (by simp [AM, hlt])
    obtain ⟨b2, o2, rfl, hc2⟩ := (HB.out.later (Nat.le_refl _) hbl) k (.string (str m[k])) (by simp [AM, hlt2])
    have hyes : l[k] = m[k] → l.take (k + 1) = m.take (k + 1) := by
     intro e
     rw [Ap l k hlt, Ap m k hlt2, hd.out, e]
    have hno : l[k] ≠ m[k] → (l == m) = false := by
     intro e
     rw [beq_eq_false_iff_ne]
     intro e2
     subst e2
     exact e rfl
    have HY := Aa hyes
    have HN := Aa hno
    have HBL := Aa hbl
    have g1 : (k : Int) < (l.length : Int) := by omega
    have g2 : (k : Int) < (m.length : Int) := by omega
    obtain ⟨x, hx⟩ : ∃ x, x = l[k] := ⟨_, rfl⟩
    obtain ⟨y, hy⟩ : ∃ x, x = m[k] := ⟨_, rfl⟩
    rw [← hx] at hc1 HY HN
    rw [← hy] at hc2 HY HN
    clear hyes hno hbl hd hx hy
    go_wp2_with fail
    go_quiet (fail)
    go_wp2_with fail
    ·have he : (!(str x).toList == (str y).toList) = true := by assumption
     rw [Au, Au] at he
     go_ret
     rw [HN.out (by simpa using he)]
     exact ⟨rfl, BJ HBL.out _⟩
    ·have he : (!(str x).toList == (str y).toList) = false := by assumption
     rw [Au, Au] at he
     exact ⟨⟨k + 1, by omega, by go_num, BJ HBL.out _, Aa (HY.out (by simpa using he))⟩, by simp [intOf]; omega⟩
   ·obtain rfl : k = l.length := by omega
    have e : (l == m) = true := by
     rw [beq_iff_eq]
     have := hd.out
     rw [List.take_length, hne, List.take_length] at this
     exact this
    have HBL := Aa hbl
    clear hbl
    go_wp2_with fail
    go_ret
    rw [e]
    exact ⟨rfl, HBL.out⟩
 ·have hne' : ((l.length : Int) != (m.length : Int)) = true := by simp; omega
  have e : (l == m) = false := by
   rw [beq_eq_false_iff_ne]
   intro e
   exact hne (by rw [e])
  go_enter Tryz.func54, Tryz.ntmps54
  go_wp2_with fail
  go_ret
  rw [e]
  exact ⟨rfl, Below.refl _ _⟩
theorem Tryz.infoKT : (Tryz.prog.info? 9).map (fun i => (i.zero, i.size, i.bytes)) = some (some (.string ByteArray.empty), 1, 16) := by kernel_rfl
theorem Tryz.infoKT2 : (Tryz.prog.info? 23).map (fun i => (i.zero, i.size, i.bytes)) = some (some (.slice none 0 0), 1, 24) := by kernel_rfl
theorem Tryz.infoKT3 : (Tryz.prog.info? 3).map (fun i => (i.zero, i.size, i.bytes)) = some (some (.int .i64 0), 1, 8) := by kernel_rfl
theorem Jg {w : World} {base B : Nat} {F : Nat → Prop} {rs : Nat → Value} {T : Nat → List Value} {M : Nat → List Int} (h : BookI w base B F rs T M) (la : Option Addr) (n c : Nat) (xs : List Value) (hn : n ≤ 1000) (hM : (M 0).length + 4 ≤ 4398046511104)
  (hl : w.ownsRow base 9 1 (.slice la n c) n xs) (hF : ∀ k, (Value.slice la n c).ownBlock = some k → ¬ F k) :
  Calls Tryz.prog 55 #[.pointer (some ⟨B, 0, none⟩), .slice la n c] w (GA w base B F M 0 (.slice la n c)) := by
 obtain ⟨i0, hi, hz0, hz1, hz2⟩ := info_parts Tryz.infoKT
 obtain ⟨j0, ji, jz0, jz1, jz2⟩ := info_parts Tryz.infoKT2
 obtain ⟨k0, ki, kz0, kz1, kz2⟩ := info_parts Tryz.infoKT3
 have H := Aa h
 have HF := Aa (fun k hk => hF k (blkL_mem.1 hk) : ∀ k ∈ Ed (.slice la n c), ¬ F k)
 obtain ⟨ma, mc, hmv, -⟩ := A6 (h.rowM 0 (by omega))
 have hmv : rs 4 = .slice ma (M 0).length mc := hmv
 obtain ⟨na, nc, hnv, -⟩ := A6 (h.rowT 0 (by omega))
 have HLEN := Aa (h.len 0 (by omega))
 obtain ⟨mk, hmk⟩ : ∃ x, x = (M 0).length := ⟨_, rfl⟩
 rw [h.len 0 (by omega), ← hmk] at hnv
 rw [← hmk] at hmv hM HLEN
 have cq := (h.blk 4 _ rfl).1
 rw [hmv] at cq
 have hbase := h.bas
 have HL := Aa hl
 have HLL := Aa (fun k hk => (hl.lt k (blkL_mem.1 hk)).2 : ∀ k ∈ Ed (.slice la n c), k < w.heap.size)
 have HMK := Aa hmk
 have HMV := Aa hmv
 have HNV := Aa hnv
 clear h hl hF hmk hmv hnv
 go_enter Tryz.func55, Tryz.ntmps55
 go_wp2_with fail
 refine (Fc mk w).mono ?_
 rintro e w0 ⟨rfl, hb0⟩
 have HB0 := Aa hb0
 clear hb0
 go_wp2_with fail
 obtain ⟨m, hm⟩ : ∃ m : Int, m = (mk : Int) := ⟨_, rfl⟩
 rw [← hm]
 have HM := Aa (⟨by omega, by omega, fun _ => by omega⟩ : -4398046511104 ≤ m ∧ m ≤ 4398046511104 ∧ ((0 : Nat) ≠ 2 → 0 ≤ m))
 have HT0 := Aa (Touch.of_below HB0.out (Ed (.slice la n c)))
 have HL := Aa (Ab HL.out (Nat.le_refl _) HB0.out)
 clear hm cq HB0
 go_loopw [6] (fun i W => ∃ (k : Nat) (ys : List Value), k ≤ n ∧ i = .int .i64 (k : Int) ∧ W.ownsRow base 9 1 (.slice la n c) n ys ∧ Hid (∀ j, j < k * 1 → ys[j]? = some (.string (str (Bj m)))) ∧ Touch (Ed (.slice la n c)) w W)
  (fun i _ => n - (intOf i).toNat)
 case atStart => exact ⟨0, xs, by omega, rfl, HL.out, Aa (fun j hj => by omega), HT0.out⟩
 case round =>
  clear HL
  obtain ⟨k, ys, hk, rfl, hown, HY, ht⟩ := hrel
  by_cases hlt : k < n
  ·obtain ⟨ga, gc, ge, -, hga, -⟩ := A6 hown
   cases ge
   cases la with
   | none =>
    rcases hown.2 with ⟨_, h0⟩ | ⟨_, _, _, h0, _⟩
    ·omega
    ·cases h0
   | some ad =>
    obtain ⟨g, rfl, hgo⟩ := hga ad rfl
    have hfz := hown.frozenAt k
    have hyl : ys.length = n := by have := hown.1; simpa using this
    have hc1 : wr.cell? ⟨g, k, none⟩ = some ys[k] := by rw [hown.cellAt _ (by omega), List.getElem?_eq_getElem]
    have K1 := Aa (hown.stored k (.string (str (Bj m)))).1
    have K2 : Hid (∀ j, j < (k + 1) * 1 → (ys.set k (.string (str (Bj m))))[j]? = some (.string (str (Bj m)))) := Aa (fun j hj => by
     by_cases e : j = k
     ·subst e
      rw [List.getElem?_set_self (by omega)]
     ·rw [List.getElem?_set_ne (by omega)]
      exact HY.out j (by omega))
    have K3 := Aa (ht.setCell (x := ⟨g, k, none⟩) (.inl (blkL_mem.2 hgo)) (.string (str (Bj m))))
    clear hown HY ht hga hgo
    go_wp2_with fail
    exact ⟨⟨k + 1, _, by omega, by go_num, K1.out, K2, K3.out⟩, by simp [intOf]; omega⟩
  ·obtain rfl : k = n := by omega
   have hyl : ys.length = k := by have := hown.1; simpa using this
   have e := Gp (n := k) (p := [.string (str (Bj m))]) (ys := ys) (by simpa using hyl) (by simp) (fun i q hi hq => by
    obtain rfl : q = 0 := by simpa using hq
    simpa using HY.out i (by omega))
   subst e
   have HO := Aa hown
   have HT := Aa ht
   have hsz : base ≤ wr.heap.size := Nat.le_trans hbase ht.size
   have HS0 := Aa ht.size
   clear hown ht HY
   go_wp2_with (at_builtin; refine AJ rfl (.tmp 28) (.tmp 30) 23 rfl base 9 i0 (.string ByteArray.empty) 16 [.string (str (Bj m))] Tryz.underlying23 hi hz0 hz1 hz2 rfl (by simp) (.slice la k c) k rfl (HO.out.alloc _) ⟨wr.heap.size, 0, none⟩ 1 1 rfl (by omega) (CU (ES wr #[.string (str (Bj m))] 9) rfl) (by simp [Value.oneCell']) (by unfold maxLen; omega) (by omega) (by simp; omega) ?_)
   intro v1 w1 hg1
   have C1 := Aa (hg1.copy (N := w.heap.size) (by omega) (by simp; have := HS0.out; omega))
   have O1 := Aa hg1.2.1
   have T1 := Aa ((HT.out.alloc _).trans hg1.2.2.1)
   have hz1' : base ≤ w1.heap.size := by have := hg1.2.2.1.size; simp at this; omega
   have hs1 : w.heap.size ≤ w1.heap.size := T1.out.size
   clear hg1 HO HT HS0
   go_wp2_with (at_builtin; refine AJ rfl (.tmp 32) (.tmp 35) 23 rfl base 9 i0 (.string ByteArray.empty) 16 [.string (str (Bj m))] Tryz.underlying23 hi hz0 hz1 hz2 rfl (by simp) (.slice la k c) k rfl (O1.out.alloc _) ⟨w1.heap.size, 0, none⟩ 2 2 rfl (by omega) (CU (ES w1 #[.string (str (Bj m)), .string (str (Bj m))] 9) rfl) (by simp [Value.oneCell']) (by unfold maxLen; omega) (by omega) (by simp; omega) ?_)
   intro v2 w2 hg2
   have C12 := Aa ((C1.out.alloc _).next hg2 (by omega))
   have C2 := Aa (hg2.copy (N := w.heap.size) (by omega) (by simp; omega))
   have O2 := Aa hg2.2.1
   have T2 := Aa ((T1.out.alloc _).trans hg2.2.2.1)
   have hz2' : base ≤ w2.heap.size := by have := hg2.2.2.1.size; simp at this; omega
   have hs2 : w.heap.size ≤ w2.heap.size := T2.out.size
   clear hg2 C1 O1 T1 hz1' hs1
   go_wp2_with (at_builtin; refine AJ rfl (.tmp 37) (.tmp 41) 23 rfl base 9 i0 (.string ByteArray.empty) 16 [.string (str (Bj m))] Tryz.underlying23 hi hz0 hz1 hz2 rfl (by simp) (.slice la k c) k rfl (O2.out.alloc _) ⟨w2.heap.size, 0, none⟩ 3 3 rfl (by omega) (CU (ES w2 #[.string (str (Bj m)), .string (str (Bj m)), .string (str (Bj m))] 9) rfl) (by simp [Value.oneCell']) (by unfold maxLen; omega) (by omega) (by simp; omega) ?_)
   intro v3 w3 hg3
   have C13 := Aa ((C12.out.alloc _).next hg3 (by omega))
   have C23 := Aa ((C2.out.alloc _).next hg3 (by omega))
   have C3 := Aa (hg3.copy (N := w.heap.size) (by omega) (by simp; omega))
   have O3 := Aa hg3.2.1
   have T3 := Aa ((T2.out.alloc _).trans hg3.2.2.1)
   have hs3 : w.heap.size ≤ w3.heap.size := T3.out.size
   clear hg3 C12 C2 O2 T2 hz2' hs2
   obtain ⟨g1, c1, rfl, -⟩ := C13.out
   obtain ⟨g2, c2, rfl, -⟩ := C23.out
   obtain ⟨g3, c3, rfl, -⟩ := C3.out
   have HB3 := Aa (H.out.touch T3.out HF.out)
   have c20 := (HB3.out.blk 0 _ rfl).1
   rw [HNV.out] at c20
   have hb3 := HB3.out.bas
   have hlt3 : B < w3.heap.size := HB3.out.lt
   have HR := Aa (HB3.out.rowT 0 (by omega))
   rw [HLEN.out, HNV.out] at HR
   go_wp2_with (at_builtin; refine wpList_append_own_at _ rfl (.tmp 47) (.tmp 52) 73 rfl base 23 j0 (.slice none 0 0) 1 24 Tryz.underlying73 ji jz0 jz1 jz2 rfl (by decide) (.slice na mk nc) mk (T 0) rfl (HR.out.alloc _) ⟨w3.heap.size, 0, none⟩ 4 4 [.slice la k c, .slice (some ⟨g1, 0, none⟩) (k + 1) c1, .slice (some ⟨g2, 0, none⟩) (k + 2) c2, .slice (some ⟨g3, 0, none⟩) (k + 3) c3] rfl rfl ?c1 ?c2 (by unfold maxLen; omega) (by omega) (by simp; omega) ?_)
   case c1 => exact CT _ _ _
   case c2 =>
    intro u hu
    simp at hu
    rcases hu with rfl | rfl | rfl | rfl <;> rfl
   intro tv w4 hT4 hg4 hnil hat4
   obtain ⟨ta, tc, rfl, -⟩ := A6 hT4
   obtain ⟨⟨s2, s2f⟩, hE⟩ := Gx (j := 0) (q := 4) (m := m) H.out (by omega) rfl HNV.out HMV.out HMK.out HF.out hn HM.out T3.out O3.out C13.out C23.out C3.out hT4 hg4 hat4
   have HE := Aa hE
   clear hT4 hg4 hat4 hnil hE HR c20 hb3 HB3 HF HLL C13 C23 C3 O3 T3 HM
   go_wp2_with fail
   obtain ⟨W5, hW5⟩ : ∃ X, X = w4.setCell ⟨B, 0, none⟩ (.slice ta (mk + 4) tc) := ⟨_, rfl⟩
   rw [← hW5]
   obtain ⟨cq, hmo, hlt5, hb5, he⟩ := HE.out W5 hW5
   have M2 := Aa hmo
   have HQ := Aa he
   clear hW5 s2 s2f HE hmo he
   refine wp_region_held_drew (S := fun _ => True) (by kernel_rfl) trivial (fun hHeld => ?_)
   refine tY 0 56 ?_
   refine tY 1 57 ?_
   refine tY 2 58 ?_
   refine tY 3 59 ?_
   refine tY 4 60 ?_
   refine tY 6 62 ?_
   refine tY 7 63 ?_
   refine tY 8 64 ?_
   refine tY 9 65 ?_
   refine tY 12 68 ?_
   refine tY 13 69 ?_
   refine EK (i := 5) (j := 10) (by kernel_rfl) (fun K o ho hK => ?_) (fun K o ho hK => ?_)
   focus
    simp only [gA, gB, gC, gE] at ho
    subst ho
    go_simp
    refine hK.out _ _ ?_ (fun hHeld => ?_)
    focus trivial
    clear hK K
    try simp only [Act.put, sA, sB, sC]
    refine Ah (i := 10) (by kernel_rfl) (fun K o ho hK => ?_)
    simp only [gA, gB, gC, gE] at ho
    subst ho
    go_simp
    refine hK.out _ _ ?_ (fun hHeld => ?_)
    focus trivial
    clear hK K
    try simp only [Act.put, sA, sB, sC]
    refine Ah (i := 11) (by kernel_rfl) (fun K o ho hK => ?_)
    simp only [gA, gB, gC, gE] at ho
    subst ho
    rw [if_pos (by rfl)]
    refine BG _ (.tmp 61) (.tmp 66) 31 rfl base 3 k0 (.int .i64 0) 1 8 Tryz.underlying31 ki kz0 kz1 kz2 rfl (by decide) (.slice ma mk mc) mk ((M 0).map (Value.int .i64)) rfl (M2.out.alloc _) ⟨W5.heap.size, 0, none⟩ 4 4 [.int .i64 m, .int .i64 m, .int .i64 m, .int .i64 m] rfl rfl (CT _ _ _) (by simp [Value.oneCell']) (by unfold maxLen; omega) (by omega) (by simp; omega) ?_
    intro mv w6 hM6 hg6 hat6
    obtain ⟨va, vc, rfl, -⟩ := A6 hM6
    obtain ⟨⟨q6, q6f⟩, hfin⟩ := HQ.out _ w6 hg6
    have HFIN := Aa (hfin _ hM6 (hat6.imp id (fun e => by rw [e]; simp)))
    clear hM6 hg6 hat6 hfin
    refine hK.out _ _ ?_ (fun hHeld => ?_)
    focus trivial
    clear hK K
    try simp only [Act.put, sA, sB, sC]
    refine tY 14 70 ?_
    refine Ah (i := 15) (by kernel_rfl) (fun K o ho hK => ?_)
    simp only [gA, gB, gC, gE] at ho
    subst ho
    go_simp
    refine hK.out _ _ ?_ (fun hHeld => ?_)
    focus trivial
    clear hK K
    try simp only [Act.put, sA, sB, sC]
    refine wpAnyH_done (by kernel_rfl) ?_ _
    go_wp2_with fail
    go_end0
    exact HFIN.out
   focus
    simp only [gA, gB, gC, gE] at ho
    subst ho
    go_simp
    refine hK.out _ _ ?_ (fun hHeld => ?_)
    focus trivial
    clear hK K
    try simp only [Act.put, sA, sB, sC]
    refine Ah (i := 5) (by kernel_rfl) (fun K o ho hK => ?_)
    simp only [gA, gB, gC, gE] at ho
    subst ho
    go_simp
    refine hK.out _ _ ?_ (fun hHeld => ?_)
    focus trivial
    clear hK K
    try simp only [Act.put, sA, sB, sC]
    refine Ah (i := 11) (by kernel_rfl) (fun K o ho hK => ?_)
    simp only [gA, gB, gC, gE] at ho
    subst ho
    rw [if_pos (by rfl)]
    refine BG _ (.tmp 61) (.tmp 66) 31 rfl base 3 k0 (.int .i64 0) 1 8 Tryz.underlying31 ki kz0 kz1 kz2 rfl (by decide) (.slice ma mk mc) mk ((M 0).map (Value.int .i64)) rfl (M2.out.alloc _) ⟨W5.heap.size, 0, none⟩ 4 4 [.int .i64 m, .int .i64 m, .int .i64 m, .int .i64 m] rfl rfl (CT _ _ _) (by simp [Value.oneCell']) (by unfold maxLen; omega) (by omega) (by simp; omega) ?_
    intro mv w6 hM6 hg6 hat6
    obtain ⟨va, vc, rfl, -⟩ := A6 hM6
    obtain ⟨⟨q6, q6f⟩, hfin⟩ := HQ.out _ w6 hg6
    have HFIN := Aa (hfin _ hM6 (hat6.imp id (fun e => by rw [e]; simp)))
    clear hM6 hg6 hat6 hfin
    refine hK.out _ _ ?_ (fun hHeld => ?_)
    focus trivial
    clear hK K
    try simp only [Act.put, sA, sB, sC]
    refine tY 14 70 ?_
    refine Ah (i := 15) (by kernel_rfl) (fun K o ho hK => ?_)
    simp only [gA, gB, gC, gE] at ho
    subst ho
    go_simp
    refine hK.out _ _ ?_ (fun hHeld => ?_)
    focus trivial
    clear hK K
    try simp only [Act.put, sA, sB, sC]
    refine wpAnyH_done (by kernel_rfl) ?_ _
    go_wp2_with fail
    go_end0
    exact HFIN.out
end Go.Proofs.YtonjphollmdicaaGreatDoor
