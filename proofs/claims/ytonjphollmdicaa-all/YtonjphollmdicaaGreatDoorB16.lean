import Derived.Test.YtonjphollmdicaaGreatDoorB09
import Derived.Test.YtonjphollmdicaaGreatDoorB10
import Derived.Test.YtonjphollmdicaaGreatDoorB15
set_option maxRecDepth 100000
set_option maxHeartbeats 4000000
set_option linter.unusedSimpArgs false
namespace Go.Proofs.YtonjphollmdicaaGreatDoor
open Go.ChangeShapes Go.WideShapes Go.ChangeAt Go.RowKit
theorem RQ (fs : List Aj) (i : Nat) (h : i < fs.length + 8) : ∃ f : Aj, (Ar (EI fs 8))[i * 2]? = some (.string (str f.1)) ∧ (Ar (EI fs 8))[i * 2 + 1]? = some (.string (str f.2)) ∧ (i < fs.length → fs[i]? = some f) ∧ (¬ i < fs.length → f = Jz) := by
 have hl : (EI fs 8).length = fs.length + 8 := by simp [EI]
 obtain ⟨h1, h2⟩ := Ey (EI fs 8) i (by omega)
 rw [Nat.mul_comm] at h1 h2
 refine ⟨(EI fs 8)[i]'(by omega), h1, h2, fun h' => ?_, fun h' => ?_⟩
 ·simp [EI, h']
 ·unfold EI
  rw [List.getElem_append_right (show fs.length ≤ i from by omega)]
  exact List.getElem_replicate _
theorem EH {W W' : World} {r : Option Nat} (h : Below W.heap.size W W') : W.grownBy W' r := ⟨h.os, h.tape, h.output, h.size, fun k hk _ => h.block k hk⟩
theorem SG {w3 W w' : World} {a1 a2 a3 a4 : Addr} {v1 v2 v3 v4 : Value} (h : W.cell? a1 = some v1 ∧ W.cell? a2 = some v2 ∧ W.cell? a3 = some v3 ∧ W.cell? a4 = some v4 ∧ Below w3.heap.size w3 W) (hb : Below W.heap.size W w') :
  w'.cell? a1 = some v1 ∧ w'.cell? a2 = some v2 ∧ w'.cell? a3 = some v3 ∧ w'.cell? a4 = some v4 ∧ Below w3.heap.size w3 w' := by
 obtain ⟨h1, h2, h3, h4, h5⟩ := h
 refine ⟨?_, ?_, ?_, ?_, Below.next h5 hb⟩
 ·rw [hb.cell (World.block_lt_of_cell? W _ h1)]; exact h1
 ·rw [hb.cell (World.block_lt_of_cell? W _ h2)]; exact h2
 ·rw [hb.cell (World.block_lt_of_cell? W _ h3)]; exact h3
 ·rw [hb.cell (World.block_lt_of_cell? W _ h4)]; exact h4
theorem Io {W : World} {B g m c : Nat} {xs ys : List Value} {k : Nat} {u v : Value} (h : W.ownsRow B 62 2 (.slice (some ⟨g, 0, none⟩) m c) m xs) (hx : ∀ j, k * 2 ≤ j → xs[j]? = ys[j]?) :
  ((W.setCell ⟨g, k * 2, none⟩ u).setCell ⟨g, k * 2 + 1, none⟩ v).ownsRow B 62 2 (.slice (some ⟨g, 0, none⟩) m c) m ((xs.set (k * 2) u).set (k * 2 + 1) v) ∧ ∀ j, (k + 1) * 2 ≤ j → ((xs.set (k * 2) u).set (k * 2 + 1) v)[j]? = ys[j]? := by
 refine ⟨((h.stored _ u).1.stored _ v).1, fun j hj => ?_⟩
 rw [List.getElem?_set_ne (by omega), List.getElem?_set_ne (by omega)]
 exact hx j (by omega)
theorem DT (fs : List Aj) (a : Option Addr) (cap : Nat) (v : Value) (w0 w : World) (hn : fs.length + 8 ≤ 4398046511104) (hs : ∀ f ∈ fs, f.1.length < 140737488355328 ∧ f.2.length < 140737488355328) (hrd : Rd w0 a (Ar fs)) (hb : Below w0.heap.size w0 w) (hl : Lent w w0.heap.size v fs) :
  Calls Tryz.prog 15 #[v, .slice a fs.length cap] w fun e w' => e = .returned (.bool true) ∧ w.grownBy w' v.ownBlock := by
 obtain ⟨g, c, rfl, hc, hown⟩ := hl
 have hsz := hb.size
 have HRD := Aa hrd
 have HS := Aa hs
 have HO := Aa hown
 have hgb0 : w0.heap.size ≤ g := (hown.lt g (by simp [Value.ownBlock])).1
 have HB := Aa hb
 have HAT := Aa (fun i h => RQ fs i h)
 clear hrd hs hown hb
 obtain ⟨n, hN⟩ : ∃ n, n = fs.length := ⟨_, rfl⟩
 have HN := Aa hN
 rw [← hN] at hn hc HO ⊢
 rw [← hN] at HAT
 clear hN
 go_enter Tryz.func15, Tryz.ntmps15
 go_wp2_with fail
 go_loopw [5, 7, 8, 9] (fun ok i _ _ W => ∃ (k : Nat) (xs : List Value), k ≤ n + 8 ∧ ok = .bool true ∧ i = .int .i64 (k : Int) ∧ W.ownsRow w0.heap.size 62 2 (.slice (some ⟨g, 0, none⟩) (n + 8) c) (n + 8) xs ∧ Hid (∀ j, k * 2 ≤ j → xs[j]? = (Ar (EI fs 8))[j]?) ∧ w.grownBy W (some g))
  (fun _ i _ _ _ => n + 8 - (intOf i).toNat)
 case atStart => exact ⟨0, _, by omega, rfl, rfl, HO.out, Aa (fun _ _ => rfl), ⟨rfl, rfl, rfl, Nat.le_refl _, fun _ _ _ => rfl⟩⟩
 case round =>
  clear HO
  obtain ⟨k, xs, hk, rfl, rfl, hownr, HX, hgr⟩ := hrel
  have hbl : Below w0.heap.size w0 wr := HB.out.grown hgr hsz (by intro kk hkk; cases hkk; exact hgb0)
  have HGR := Aa hgr
  clear hgr
  have hszr := hbl.size
  by_cases hlt : k < n + 8
  ·obtain ⟨f, hf1, hf2, hf3, hf4⟩ := HAT.out k hlt
   rw [← HX.out _ (by omega)] at hf1 hf2
   have hc1 : wr.cell? ⟨g, k * 2, none⟩ = some (.string (str f.1)) := by rw [hownr.cellAt _ (by omega)]; exact hf1
   have hc2 : wr.cell? ⟨g, k * 2 + 1, none⟩ = some (.string (str f.2)) := by rw [hownr.cellAt _ (by omega)]; exact hf2
   have H1 := Aa hf3
   have H2 := Aa hf4
   have H3 := Aa hownr
   have H4 := Aa hbl
   clear hf1 hf2 hf3 hf4 hownr hbl
   go_wp2_with fail
   refine (FR _).mono ?_
   rintro e w2 ⟨rfl, hb2⟩
   have hb3 : Below w0.heap.size w0 w2 := H4.out.trans (hb2.mono hszr)
   have hsz2 : w0.heap.size ≤ w2.heap.size := hb3.size
   have hg2 : g < wr.heap.size := World.block_lt_of_cell? wr _ hc1
   have hg3 : g < w2.heap.size := by have := hb2.size; omega
   have hd1 : w2.cell? ⟨g, k * 2, none⟩ = some (.string (str f.1)) := by rw [hb2.cell hg2]; exact hc1
   have hd2 : w2.cell? ⟨g, k * 2 + 1, none⟩ = some (.string (str f.2)) := by rw [hb2.cell hg2]; exact hc2
   have H5 := Aa (Ab H3.out (Nat.le_refl _) hb2)
   have H6 := Aa hb3
   have HGR2 := Aa (HGR.out.trans (EH (r := some g) hb2))
   clear hb2 hb3 H3 H4 hc1 hc2
   by_cases hkn : k < n
   ·have hfk := H1.out hkn
    have hkl : k < fs.length := by rw [← HN.out]; exact hkn
    obtain ⟨b0, off0, rfl, hl1, hl2⟩ := Bh HRD.out (Nat.le_refl _) H6.out k hkl
    have hfe : fs[k] = f := by
     rw [List.getElem?_eq_getElem hkl] at hfk
     exact Option.some.inj hfk
    rw [hfe] at hl1 hl2
    have hll : b0 < w2.heap.size := World.block_lt_of_cell? w2 _ hl1
    have hl1' : ∀ o, (w2.alloc o).cell? ⟨b0, off0 + k * 2, none⟩ = some (.string (str f.1)) := fun o => by rw [Am hll]; exact hl1
    have hl2' : ∀ o, (w2.alloc o).cell? ⟨b0, off0 + k * 2 + 1, none⟩ = some (.string (str f.2)) := fun o => by rw [Am hll]; exact hl2
    clear hfe hfk H1 H2
    go_wp2_with fail
    clear hl1 hl2 hl1' hl2' hll
    obtain ⟨w3, hw3⟩ : ∃ x, x = w2.alloc (.cells #[.string (str f.1), .string (str f.2)] 62) := ⟨_, rfl⟩
    have he1 : w3.cell? ⟨g, k * 2, none⟩ = some (.string (str f.1)) := by rw [hw3, Am hg3]; exact hd1
    have he2 : w3.cell? ⟨g, k * 2 + 1, none⟩ = some (.string (str f.2)) := by rw [hw3, Am hg3]; exact hd2
    have he3 : w3.cell? ⟨w2.heap.size, 0, none⟩ = some (.string (str f.1)) := by rw [hw3]; simp
    have he4 : w3.cell? ⟨w2.heap.size, 1, none⟩ = some (.string (str f.2)) := by rw [hw3]; simp
    have hb23 : Below w2.heap.size w2 w3 := by rw [hw3]; exact (Below.refl _ _).alloc (Nat.le_refl _) _
    have H7 := Aa hb23
    rw [← hw3]
    clear hw3 hb23 hd1 hd2
    have hSF := Aa (fun W => Eq f f W)
    rw [show (f == f) = true from by simp] at hSF
    go_region_held (fun W => W.cell? ⟨g, k * 2, none⟩ = some (.string (str f.1)) ∧ W.cell? ⟨g, k * 2 + 1, none⟩ = some (.string (str f.2)) ∧ W.cell? ⟨w2.heap.size, 0, none⟩ = some (.string (str f.1)) ∧ W.cell? ⟨w2.heap.size, 1, none⟩ = some (.string (str f.2)) ∧ Below w3.heap.size w3 W)
     (first | assumption | exact ⟨he1, he2, he3, he4, (Below.refl _ _).drew⟩ | (refine SG ?_ hb9; assumption))
     (first | (go_at_call 46; refine (hSF.out _).mono ?_; rintro e w9 ⟨rfl, hb9⟩))
    obtain ⟨q1, q2, _, _, q5⟩ : w9.cell? ⟨g, k * 2, none⟩ = some (.string (str f.1)) ∧ w9.cell? ⟨g, k * 2 + 1, none⟩ = some (.string (str f.2)) ∧ w9.cell? ⟨w2.heap.size, 0, none⟩ = some (.string (str f.1)) ∧ w9.cell? ⟨w2.heap.size, 1, none⟩ = some (.string (str f.2)) ∧ Below w3.heap.size w3 w9 := by assumption
    have hb29 := Below.next H7.out q5
    have hown9 := Ab H5.out (Nat.le_refl _) hb29
    have hfz1 := hown9.frozenAt (k * 2)
    have hfz2 := hown9.frozenAt (k * 2 + 1)
    have hfin := Io (u := .string ⟨#[111, 118, 101, 114]⟩) (v := .string ⟨#[]⟩) hown9 HX.out
    have hBf : w.grownBy ((w9.setCell ⟨g, k * 2, none⟩ (.string ⟨#[111, 118, 101, 114]⟩)).setCell ⟨g, k * 2 + 1, none⟩ (.string ⟨#[]⟩)) (some g) := ((HGR2.out.trans (EH hb29)).trans (CR w9 ⟨g, k * 2, none⟩ _)).trans (CR _ ⟨g, k * 2 + 1, none⟩ _)
    have K1 := Aa hfin.1
    have K2 := Aa hfin.2
    have K3 := Aa hBf
    clear hb29 hown9 hfin hBf H5 H6 H7 HX HGR HGR2 he1 he2 he3 he4
    go_wp2_with fail
    refine ⟨⟨k + 1, _, by omega, rfl, by go_num, K1.out, K2, K3.out⟩, by simp [intOf]; omega⟩
   ·have hfe := H2.out hkn
    subst hfe
    clear H1 H2
    go_wp2_with fail
    obtain ⟨w3, hw3⟩ : ∃ x, x = w2.alloc (.cells #[.string (str Bc), .string (str Bc)] 62) := ⟨_, rfl⟩
    have he1 : w3.cell? ⟨g, k * 2, none⟩ = some (.string (str Bc)) := by rw [hw3, Am hg3]; exact hd1
    have he2 : w3.cell? ⟨g, k * 2 + 1, none⟩ = some (.string (str Bc)) := by rw [hw3, Am hg3]; exact hd2
    have he3 : w3.cell? ⟨w2.heap.size, 0, none⟩ = some (.string (str Bc)) := by rw [hw3]; simp
    have he4 : w3.cell? ⟨w2.heap.size, 1, none⟩ = some (.string (str Bc)) := by rw [hw3]; simp
    have hb23 : Below w2.heap.size w2 w3 := by rw [hw3]; exact (Below.refl _ _).alloc (Nat.le_refl _) _
    have H7 := Aa hb23
    rw [← hw3]
    clear hw3 hb23 hd1 hd2
    have hSF := Aa (fun W => Eq Jz Jz W)
    rw [show (Jz == Jz) = true from by simp] at hSF
    go_region_held (fun W => W.cell? ⟨g, k * 2, none⟩ = some (.string (str Bc)) ∧ W.cell? ⟨g, k * 2 + 1, none⟩ = some (.string (str Bc)) ∧ W.cell? ⟨w2.heap.size, 0, none⟩ = some (.string (str Bc)) ∧ W.cell? ⟨w2.heap.size, 1, none⟩ = some (.string (str Bc)) ∧ Below w3.heap.size w3 W)
     (first | assumption | exact ⟨he1, he2, he3, he4, (Below.refl _ _).drew⟩ | (refine SG ?_ hb9; assumption))
     (first | (go_at_call 46; refine (hSF.out _).mono ?_; rintro e w9 ⟨rfl, hb9⟩))
    obtain ⟨q1, q2, _, _, q5⟩ : w9.cell? ⟨g, k * 2, none⟩ = some (.string (str Bc)) ∧ w9.cell? ⟨g, k * 2 + 1, none⟩ = some (.string (str Bc)) ∧ w9.cell? ⟨w2.heap.size, 0, none⟩ = some (.string (str Bc)) ∧ w9.cell? ⟨w2.heap.size, 1, none⟩ = some (.string (str Bc)) ∧ Below w3.heap.size w3 w9 := by assumption
    have hb29 := Below.next H7.out q5
    have hown9 := Ab H5.out (Nat.le_refl _) hb29
    have hfz1 := hown9.frozenAt (k * 2)
    have hfz2 := hown9.frozenAt (k * 2 + 1)
    have hfin := Io (u := .string ⟨#[111, 118, 101, 114]⟩) (v := .string ⟨#[]⟩) hown9 HX.out
    have hBf : w.grownBy ((w9.setCell ⟨g, k * 2, none⟩ (.string ⟨#[111, 118, 101, 114]⟩)).setCell ⟨g, k * 2 + 1, none⟩ (.string ⟨#[]⟩)) (some g) := ((HGR2.out.trans (EH hb29)).trans (CR w9 ⟨g, k * 2, none⟩ _)).trans (CR _ ⟨g, k * 2 + 1, none⟩ _)
    have K1 := Aa hfin.1
    have K2 := Aa hfin.2
    have K3 := Aa hBf
    clear hb29 hown9 hfin hBf H5 H6 H7 HX HGR HGR2 he1 he2 he3 he4
    go_wp2_with fail
    refine ⟨⟨k + 1, _, by omega, rfl, by go_num, K1.out, K2, K3.out⟩, by simp [intOf]; omega⟩
  ·obtain rfl : k = n + 8 := by omega
   clear hownr hbl
   go_wp2_with fail
   go_ret
   exact ⟨rfl, HGR.out⟩
theorem EB (k : UInt8) (set : Nat) (b : List UInt8) : (BA k set b).length = 22 + b.length := by
 unfold BA Ez
 simp only [List.length_append, An, List.length_cons, List.length_nil]
 omega
def FT : List Aj := [([97], [0, 1, 0, 2])]
theorem Kz {size : Nat} {fs : List Aj} {extra : Nat} (h0 : 0 < size) (h32 : size ≤ 32) (hg : CO fs size = true) : ∀ t ∈ Cg size fs extra, t.length ≤ 4000 := by
 unfold CO at hg
 rw [Bool.and_eq_true, Bool.and_eq_true] at hg
 obtain ⟨_, h6, hf⟩ := Ex hg.1.1
 intro t ht
 unfold Cg at ht
 rw [List.mem_cons, List.mem_append] at ht
 rcases ht with rfl | ht | ht
 ·rw [EB]
  unfold DG Fh
  simp only [List.length_append, An, CX, List.length_map]
  unfold Az
  simp only [List.length_map, List.length_range]
  omega
 ·unfold Et at ht
  rw [List.mem_map] at ht
  obtain ⟨b, hb, rfl⟩ := ht
  unfold Az at hb
  rw [List.mem_map] at hb
  obtain ⟨i, hi, rfl⟩ := hb
  have hi := List.mem_range.1 hi
  rw [EB]
  have hmem : fs.getD i ([], []) ∈ fs := by
   rw [List.getD_eq_getElem?_getD, List.getElem?_eq_getElem hi]
   exact List.getElem_mem hi
  have hfi := hf _ hmem
  unfold JS Ck D6
  simp only [List.length_append, An, CX, List.length_map, (CH _ size h0).1]
  have : Ai (fs.getD i ([], [])).2.length size ≤ 400 := by
   unfold Ai
   rw [Nat.div_le_iff_le_mul_add_pred h0]
   have h1 : 400 * 1 ≤ 400 * size := Nat.mul_le_mul_left _ h0
   have h2 : size * 400 = 400 * size := Nat.mul_comm _ _
   omega
  omega
 ·unfold Bf at ht
  rw [List.mem_map] at ht
  obtain ⟨j, _, rfl⟩ := ht
  unfold Dc
  rw [EB]
  unfold BG
  simp only [List.length_append, An, EE, Fy]
  omega
theorem Sd (k : UInt8) (set : Nat) (b : List UInt8) : ((BA k set b).drop 14).take b.length = b := by
 unfold BA Ez
 have e : ([83, 65, 76, k] ++ Af set 8 ++ Af b.length 2).length = 14 := by simp [An]
 rw [List.append_assoc ([83, 65, 76, k] ++ Af set 8 ++ Af b.length 2), List.drop_append_of_le_length (by rw [e]; exact Nat.le_refl _), List.drop_of_length_le (by rw [e]; exact Nat.le_refl _), List.nil_append, List.take_append_of_le_length (Nat.le_refl _), List.take_length]
theorem Pg : BG 0 (CD (BY (BC 2 FT) 1 0)) = [0, 0, 0, 7] := by decide +kernel
theorem Ob (w : World) :
  Calls Tryz.prog 9 #[] w fun e w' => e = .returned (.bool true) ∧ Below w.heap.size w w' := by
 have hrd : Rd (w.alloc (.cells #[.string ⟨#[97]⟩, .string ⟨#[0, 1, 0, 2]⟩] 62)) (some ⟨w.heap.size, 0, none⟩) (Ar FT) := by
  intro k u hk
  refine ⟨w.heap.size, 0, rfl, ?_⟩
  rcases k with _ | _ | k
  ·simp [Ar, FT] at hk; subst hk; simp [str]
  ·simp [Ar, FT] at hk; subst hk; simp [str]
  ·simp [Ar, FT] at hk
 have hC := Lu FT 2 1 2 1 (some ⟨w.heap.size, 0, none⟩) 1 rfl rfl (by omega) (by omega) (by omega) (by omega) (by decide) (by decide +kernel) _ ⟨hrd, by simp [FT], by simp [FT]⟩
 have hb0 : Below w.heap.size w (w.alloc (.cells #[.string ⟨#[97]⟩, .string ⟨#[0, 1, 0, 2]⟩] 62)) := (Below.refl _ _).alloc (Nat.le_refl _) _
 have HC := Aa hC
 have HB := Aa hb0
 clear hC hb0 hrd
 have hpk : Cg 2 FT 1 = [BA 77 (Mx 2 FT) (DG 2 FT), BA 70 (Mx 2 FT) (JS 2 FT 0), Dc 2 FT 1 0] := rfl
 have l0 : (BA 77 (Mx 2 FT) (DG 2 FT)).length = 33 := by rw [EB, IF]; rfl
 have l1 : (BA 70 (Mx 2 FT) (JS 2 FT 0)).length = 51 := by rw [EB, KU 2 FT 0 (by omega)]; rfl
 have l2 : (Dc 2 FT 1 0).length = 26 := by unfold Dc BG; rw [EB, List.length_append, An, EE, Fy]
 have x0 : (str (BA 77 (Mx 2 FT) (DG 2 FT))).extract 0 4 = ⟨#[83, 65, 76, 77]⟩ := by rw [AB]; rfl
 have x2 : (str (Dc 2 FT 1 0)).extract 14 18 = ⟨#[0, 0, 0, 7]⟩ := by
  rw [AB]
  have := Sd 82 (Mx 2 FT) (BG 0 (CD (BY (BC 2 FT) 1 0)))
  rw [Pg] at this
  unfold Dc
  rw [Pg]
  rw [show (18 - 14) = ([0, 0, 0, 7] : List UInt8).length from rfl, this]
  rfl
 have HP := Aa hpk
 obtain ⟨p0, hp0⟩ : ∃ x, x = BA 77 (Mx 2 FT) (DG 2 FT) := ⟨_, rfl⟩
 obtain ⟨p1, hp1⟩ : ∃ x, x = BA 70 (Mx 2 FT) (JS 2 FT 0) := ⟨_, rfl⟩
 obtain ⟨p2, hp2⟩ : ∃ x, x = Dc 2 FT 1 0 := ⟨_, rfl⟩
 rw [← hp0, ← hp1, ← hp2] at HP
 rw [← hp0] at l0 x0
 rw [← hp1] at l1
 rw [← hp2] at l2 x2
 have s0 := Ae p0
 have s1 := Ae p1
 have s2 := Ae p2
 rw [l0] at s0
 rw [l1] at s1
 rw [l2] at s2
 clear hpk hp0 hp1 hp2 l0 l1 l2
 have t1 : Math.mul 2 3 = 6 := by decide +kernel
 have t2 : Math.mul 32768 2 = 4107 := by decide +kernel
 have T1 := Aa (F9 2 3 (by omega) (by omega) w)
 have T2 := Aa (F9 32768 2 (by omega) (by omega) w)
 rw [t1] at T1
 rw [t2] at T2
 go_enter Tryz.func9, Tryz.ntmps9
 go_wp2_with fail
 refine T1.out.mono ?_
 rintro e w' ⟨rfl, hw'⟩
 have hw' := hw'.symm
 subst hw'
 go_wp2_with fail
 refine T2.out.mono ?_
 rintro e w' ⟨rfl, hw'⟩
 have hw' := hw'.symm
 subst hw'
 go_wp2_with fail
 refine HC.out.mono ?_
 rintro e w1 ⟨v, rfl, hown, hb1⟩
 rw [HP.out] at hown
 obtain ⟨g, c, hv⟩ : ∃ g c, v = .slice (some ⟨g, 0, none⟩) 3 c := by
  rcases hown.2 with ⟨_, h1⟩ | ⟨g, c, cur, h1, _⟩
  ·simp [FT] at h1
  ·exact ⟨_, _, h1⟩
 have hown' : w1.ownsRow (w.alloc (.cells #[.string ⟨#[97]⟩, .string ⟨#[0, 1, 0, 2]⟩] 62)).heap.size 9 1 (.slice (some ⟨g, 0, none⟩) 3 c) 3 (AL [p0, p1, p2]) := by rw [← hv]; exact hown
 have c0 : w1.cell? ⟨g, 0, none⟩ = some (.string (str p0)) := by rw [hown'.cellAt 0 (by omega)]; rfl
 have c1 : w1.cell? ⟨g, 1, none⟩ = some (.string (str p1)) := by rw [hown'.cellAt 1 (by omega)]; rfl
 have c2 : w1.cell? ⟨g, 2, none⟩ = some (.string (str p2)) := by rw [hown'.cellAt 2 (by omega)]; rfl
 rw [hv]
 have hfin := Aa (Below.next HB.out hb1)
 clear hown hown' hv hb1 HC HB HP T1 T2
 go_wp2_with fail
 go_ret
 exact ⟨rfl, hfin.out⟩
def IX (fs : List Aj) (b x : Int) : List (List UInt8) × Int :=
 if Fl b x then ([], 1) else if CO fs b.toNat then (Cg b.toNat fs x.toNat, 0) else ([], 2)
theorem Df (size : Nat) (fs : List Aj) (extra : Nat) : (Cg size fs extra).length = 1 + fs.length + extra := by
 simp [Cg, Et, Bf, Az]; omega
theorem Nn (fs : List Aj) (b x : Int) : (IX fs b x).1.length ≤ 1000 := by
 unfold IX
 by_cases h1 : Fl b x = true
 ·rw [if_pos h1]; simp
 ·rw [if_neg h1]
  by_cases h2 : CO fs b.toNat = true
  ·rw [if_pos h2, Df]
   obtain ⟨size, extra, _, hx, _, _, _, hex, _⟩ := Ht (by simpa using h1)
   unfold CO at h2
   rw [Bool.and_eq_true, Bool.and_eq_true] at h2
   have := Ex h2.1.1
   omega
  ·rw [if_neg h2]; simp
theorem IV (fs : List Aj) (b x : Int) (a : Option Addr) (cap : Nat) (w : World) (hh : Handed w fs a cap) :
  Calls Tryz.prog 38 #[.slice a fs.length cap, .int .i64 b, .int .i64 x] w fun e w' => ∃ al cl, e = .returned (.tuple #[.slice al (IX fs b x).1.length cl, .int .i64 (IX fs b x).2]) ∧ w'.ownsRow w.heap.size 9 1 (.slice al (IX fs b x).1.length cl) (IX fs b x).1.length (AL (IX fs b x).1) ∧ Below w.heap.size w w' := by
 unfold IX
 by_cases h1 : Fl b x = true
 ·rw [if_pos h1]
  refine (Mt fs b x a cap h1 w).mono ?_
  rintro e w' ⟨rfl, hb⟩
  exact ⟨none, 0, rfl, World.ownsRow_nil _ _ _ _, hb⟩
 ·rw [if_neg h1]
  obtain ⟨size, extra, hb, hx, h0, h32, hev, hex, hss⟩ := Ht (by simpa using h1)
  have e1 : b.toNat = size := by omega
  have e2 : x.toNat = extra := by omega
  rw [e1, e2]
  by_cases h2 : CO fs size = true
  ·rw [if_pos h2]
   refine (Oa fs b x size extra a cap hb hx h0 h32 hev hex hss h2 w hh).mono ?_
   rintro e w' ⟨v, rfl, hown, hbl⟩
   obtain ⟨al, cl, rfl, _, _, _⟩ := Av hown
   exact ⟨al, cl, by rw [Df], by rw [Df]; exact hown, hbl⟩
  ·rw [if_neg h2]
   refine (Lk fs b x size extra a cap hb hx h0 h32 hex hss (by simpa using h2) w hh).mono ?_
   rintro e w' ⟨rfl, hbl⟩
   exact ⟨none, 0, rfl, World.ownsRow_nil _ _ _ _, hbl⟩
theorem Lent.later {w w' : World} {base : Nat} {v : Value} {fs : List Aj} (h : Lent w base v fs) (hb : Below w.heap.size w w') : Lent w' base v fs := by
 obtain ⟨g, c, hv, hc, ho⟩ := h
 exact ⟨g, c, hv, hc, Ab ho (Nat.le_refl _) hb⟩
theorem Lent.base {w : World} {base base' : Nat} {v : Value} {fs : List Aj} (h : Lent w base v fs) (hb : base' ≤ base) : Lent w base' v fs := by
 obtain ⟨g, c, hv, hc, ho⟩ := h
 exact ⟨g, c, hv, hc, Ad hb ho⟩
theorem Lent.handed {w : World} {base : Nat} {v : Value} {fs : List Aj} (h : Lent w base v fs) (hs : ∀ f ∈ fs, f.1.length < 140737488355328 ∧ f.2.length < 140737488355328) : ∃ a c, v = .slice a fs.length c ∧ Handed w fs a c := by
 obtain ⟨g, c, hv, hc, ho⟩ := h
 refine ⟨some ⟨g, 0, none⟩, c, hv, ⟨?_, by omega, hs⟩⟩
 intro k u hk
 have hkl : k < (Ar fs).length := (List.getElem?_eq_some_iff.1 hk).1
 have := ho.cells (g := g) rfl k u (by
  unfold EI
  rw [DK, List.getElem?_append_left hkl]
  exact hk)
 have hadd : (⟨g, 0, none⟩ : Addr).add k = ⟨g, 0 + k, none⟩ := by unfold Addr.add; split <;> simp_all
 rw [hadd] at this
 exact ⟨g, 0, rfl, this⟩
theorem Handed.later {w w' : World} {fs : List Aj} {a : Option Addr} {cap : Nat} (h : Handed w fs a cap) (hb : Below w.heap.size w w') : Handed w' fs a cap := ⟨h.rd.later (Nat.le_refl _) hb, h.cap1, h.short⟩
theorem IC (l m : List (List UInt8)) (a b : Option Addr) (c d : Nat) (hl : l.length ≤ 1000000) (hm : m.length ≤ 1000000) (w : World) (ha : Rd w a (AL l)) (hb : Rd w b (AL m)) :
  Calls Tryz.prog 54 #[.slice a l.length c, .slice b m.length d] w fun e w' => e = .returned (.bool (l == m)) ∧ Below w.heap.size w w' := by
 by_cases hne : l.length = m.length
 ·have hne' : ((l.length : Int) != (m.length : Int)) = false := by simp [hne]
  have HA := Aa ha
  have HB := Aa hb
  clear ha hb
  go_enter Tryz.func54, Tryz.ntmps54
  go_wp2_with fail
  go_loopw [5] (fun i wr => ∃ k : Nat, k ≤ l.length ∧ i = .int .i64 (k : Int) ∧ Below w.heap.size w wr ∧ Hid (l.take k = m.take k))
   (fun i _ => l.length - (intOf i).toNat)
  case atStart => exact ⟨0, by omega, rfl, Below.refl _ _, Aa (by simp)⟩
  case round =>
   obtain ⟨k, hk, rfl, hbl, hd⟩ := hrel
   by_cases hlt : k < l.length
   ·have hlt2 : k < m.length := by omega
    obtain ⟨b1, o1, rfl, hc1⟩ := (HA.out.later (Nat.le_refl _) hbl) k (.string (str l[k])) (by simp [AL, hlt])
    obtain ⟨b2, o2, rfl, hc2⟩ := (HB.out.later (Nat.le_refl _) hbl) k (.string (str m[k])) (by simp [AL, hlt2])
    have hyes : l[k] = m[k] → l.take (k + 1) = m.take (k + 1) := by
     intro e
     rw [Ao l k hlt, Ao m k hlt2, hd.out, e]
    have hno : l[k] ≠ m[k] → (l == m) = false := by
     intro e
     rw [beq_eq_false_iff_ne]
     intro e2
     subst e2
     exact e rfl
    have HY := Aa hyes
    have HN := Aa hno
    have HBL := Aa hbl
    have g1 : (k : Int) < (l.length : Int) := by omega
    have g2 : (k : Int) < (m.length : Int) := by omega
    obtain ⟨x, hx⟩ : ∃ x, x = l[k] := ⟨_, rfl⟩
    obtain ⟨y, hy⟩ : ∃ x, x = m[k] := ⟨_, rfl⟩
    rw [← hx] at hc1 HY HN
    rw [← hy] at hc2 HY HN
    clear hyes hno hbl hd hx hy
    go_wp2_with fail
    go_quiet (fail)
    go_wp2_with fail
    ·have he : (!(str x).toList == (str y).toList) = true := by assumption
     rw [At, At] at he
     go_ret
     rw [HN.out (by simpa using he)]
     exact ⟨rfl, BJ HBL.out _⟩
    ·have he : (!(str x).toList == (str y).toList) = false := by assumption
     rw [At, At] at he
     exact ⟨⟨k + 1, by omega, by go_num, BJ HBL.out _, Aa (HY.out (by simpa using he))⟩, by simp [intOf]; omega⟩
   ·obtain rfl : k = l.length := by omega
    have e : (l == m) = true := by
     rw [beq_iff_eq]
     have := hd.out
     rw [List.take_length, hne, List.take_length] at this
     exact this
    have HBL := Aa hbl
    clear hbl
    go_wp2_with fail
    go_ret
    rw [e]
    exact ⟨rfl, HBL.out⟩
 ·have hne' : ((l.length : Int) != (m.length : Int)) = true := by simp; omega
  have e : (l == m) = false := by
   rw [beq_eq_false_iff_ne]
   intro e
   exact hne (by rw [e])
  go_enter Tryz.func54, Tryz.ntmps54
  go_wp2_with fail
  go_ret
  rw [e]
  exact ⟨rfl, Below.refl _ _⟩
end Go.Proofs.YtonjphollmdicaaGreatDoor
