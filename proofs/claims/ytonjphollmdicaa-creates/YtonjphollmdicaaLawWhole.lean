import Derived.Test.YtonjphollmdicaaLawLent
import Derived.Test.YtonjphollmdicaaRefCreate
namespace Go.Proofs.Ytonjphollmdicaa
open Go.ChangeShapes Go.WideShapes Go.ChangeAt Go.RowKit

theorem lent_at (fs : List FileL) (i : Nat) (h : i < fs.length + 8) : ∃ f : FileL, (filesV (lentL fs 8))[i * 2]? = some (.string (str f.1)) ∧ (filesV (lentL fs 8))[i * 2 + 1]? = some (.string (str f.2)) ∧ (i < fs.length → fs[i]? = some f) ∧ (¬ i < fs.length → f = spareF) := by
  have hl : (lentL fs 8).length = fs.length + 8 := by simp [lentL]
  obtain ⟨h1, h2⟩ := filesV_get (lentL fs 8) i (by omega)
  rw [Nat.mul_comm] at h1 h2
  refine ⟨(lentL fs 8)[i]'(by omega), h1, h2, fun h' => ?_, fun h' => ?_⟩
  · simp [lentL, h']
  · unfold lentL
    rw [List.getElem_append_right (show fs.length ≤ i from by omega)]
    exact List.getElem_replicate _

theorem below_grownBy {W W' : World} {r : Option Nat} (h : Below W.heap.size W W') : W.grownBy W' r := ⟨h.os, h.tape, h.output, h.size, fun k hk _ => h.block k hk⟩

theorem keep4 {w3 W w' : World} {a1 a2 a3 a4 : Addr} {v1 v2 v3 v4 : Value} (h : W.cell? a1 = some v1 ∧ W.cell? a2 = some v2 ∧ W.cell? a3 = some v3 ∧ W.cell? a4 = some v4 ∧ Below w3.heap.size w3 W) (hb : Below W.heap.size W w') :
    w'.cell? a1 = some v1 ∧ w'.cell? a2 = some v2 ∧ w'.cell? a3 = some v3 ∧ w'.cell? a4 = some v4 ∧ Below w3.heap.size w3 w' := by
  obtain ⟨h1, h2, h3, h4, h5⟩ := h
  refine ⟨?_, ?_, ?_, ?_, Below.next h5 hb⟩
  · rw [hb.cell (World.block_lt_of_cell? W _ h1)]; exact h1
  · rw [hb.cell (World.block_lt_of_cell? W _ h2)]; exact h2
  · rw [hb.cell (World.block_lt_of_cell? W _ h3)]; exact h3
  · rw [hb.cell (World.block_lt_of_cell? W _ h4)]; exact h4

theorem own_written {W : World} {B g m c : Nat} {xs ys : List Value} {k : Nat} {u v : Value} (h : W.ownsRow B 43 2 (.slice (some ⟨g, 0, none⟩) m c) m xs) (hx : ∀ j, k * 2 ≤ j → xs[j]? = ys[j]?) :
    ((W.setCell ⟨g, k * 2, none⟩ u).setCell ⟨g, k * 2 + 1, none⟩ v).ownsRow B 43 2 (.slice (some ⟨g, 0, none⟩) m c) m ((xs.set (k * 2) u).set (k * 2 + 1) v) ∧ ∀ j, (k + 1) * 2 ≤ j → ((xs.set (k * 2) u).set (k * 2 + 1) v)[j]? = ys[j]? := by
  refine ⟨((h.stored _ u).1.stored _ v).1, fun j hj => ?_⟩
  rw [List.getElem?_set_ne (by omega), List.getElem?_set_ne (by omega)]
  exact hx j (by omega)

set_option maxRecDepth 100000 in
set_option maxHeartbeats 1000000 in
theorem wholeFiles_walk (fs : List FileL) (a : Option Addr) (cap : Nat) (v : Value) (w0 w : World) (hn : fs.length + 8 ≤ 4398046511104) (hs : ∀ f ∈ fs, f.1.length < 140737488355328 ∧ f.2.length < 140737488355328) (hrd : Rd w0 a (filesV fs)) (hb : Below w0.heap.size w0 w) (hl : Lent w w0.heap.size v fs) :
    Calls Try.prog 12 #[v, .slice a fs.length cap] w fun e w' => e = .returned (.bool true) ∧ w.grownBy w' v.ownBlock := by
  obtain ⟨g, c, rfl, hc, hown⟩ := hl
  have hsz := hb.size
  have HRD := hid_of hrd
  have HS := hid_of hs
  have HO := hid_of hown
  have hgb0 : w0.heap.size ≤ g := (hown.lt g (by simp [Value.ownBlock])).1
  have HB := hid_of hb
  have HAT := hid_of (fun i h => lent_at fs i h)
  clear hrd hs hown hb
  obtain ⟨n, hN⟩ : ∃ n, n = fs.length := ⟨_, rfl⟩
  have HN := hid_of hN
  rw [← hN] at hn hc HO ⊢
  rw [← hN] at HAT
  clear hN
  go_enter Try.func12, Try.ntmps12
  go_wp2_with fail
  go_loopw [5, 7, 8, 9] (fun ok i _ _ W => ∃ (k : Nat) (xs : List Value), k ≤ n + 8 ∧ ok = .bool true ∧ i = .int .i64 (k : Int) ∧ W.ownsRow w0.heap.size 43 2 (.slice (some ⟨g, 0, none⟩) (n + 8) c) (n + 8) xs ∧ Hid (∀ j, k * 2 ≤ j → xs[j]? = (filesV (lentL fs 8))[j]?) ∧ w.grownBy W (some g))
    (fun _ i _ _ _ => n + 8 - (intOf i).toNat)
  case atStart => exact ⟨0, _, by omega, rfl, rfl, HO.out, hid_of (fun _ _ => rfl), ⟨rfl, rfl, rfl, Nat.le_refl _, fun _ _ _ => rfl⟩⟩
  case round =>
    clear HO
    obtain ⟨k, xs, hk, rfl, rfl, hownr, HX, hgr⟩ := hrel
    have hbl : Below w0.heap.size w0 wr := HB.out.grown hgr hsz (by intro kk hkk; cases hkk; exact hgb0)
    have HGR := hid_of hgr
    clear hgr
    have hszr := hbl.size
    by_cases hlt : k < n + 8
    · obtain ⟨f, hf1, hf2, hf3, hf4⟩ := HAT.out k hlt
      rw [← HX.out _ (by omega)] at hf1 hf2
      have hc1 : wr.cell? ⟨g, k * 2, none⟩ = some (.string (str f.1)) := by rw [hownr.cellAt _ (by omega)]; exact hf1
      have hc2 : wr.cell? ⟨g, k * 2 + 1, none⟩ = some (.string (str f.2)) := by rw [hownr.cellAt _ (by omega)]; exact hf2
      have H1 := hid_of hf3
      have H2 := hid_of hf4
      have H3 := hid_of hownr
      have H4 := hid_of hbl
      clear hf1 hf2 hf3 hf4 hownr hbl
      go_wp2_with fail
      refine (lspare_walk _).mono ?_
      rintro e w2 ⟨rfl, hb2⟩
      have hb3 : Below w0.heap.size w0 w2 := H4.out.trans (hb2.mono hszr)
      have hsz2 : w0.heap.size ≤ w2.heap.size := hb3.size
      have hg2 : g < wr.heap.size := World.block_lt_of_cell? wr _ hc1
      have hg3 : g < w2.heap.size := by have := hb2.size; omega
      have hd1 : w2.cell? ⟨g, k * 2, none⟩ = some (.string (str f.1)) := by rw [hb2.cell hg2]; exact hc1
      have hd2 : w2.cell? ⟨g, k * 2 + 1, none⟩ = some (.string (str f.2)) := by rw [hb2.cell hg2]; exact hc2
      have H5 := hid_of (ownsRow_later H3.out (Nat.le_refl _) hb2)
      have H6 := hid_of hb3
      have HGR2 := hid_of (HGR.out.trans (below_grownBy (r := some g) hb2))
      clear hb2 hb3 H3 H4 hc1 hc2
      by_cases hkn : k < n
      · have hfk := H1.out hkn
        have hkl : k < fs.length := by rw [← HN.out]; exact hkn
        obtain ⟨b0, off0, rfl, hl1, hl2⟩ := fileCells HRD.out (Nat.le_refl _) H6.out k hkl
        have hfe : fs[k] = f := by
          rw [List.getElem?_eq_getElem hkl] at hfk
          exact Option.some.inj hfk
        rw [hfe] at hl1 hl2
        have hll : b0 < w2.heap.size := World.block_lt_of_cell? w2 _ hl1
        have hl1' : ∀ o, (w2.alloc o).cell? ⟨b0, off0 + k * 2, none⟩ = some (.string (str f.1)) := fun o => by rw [cell_alloc_old hll]; exact hl1
        have hl2' : ∀ o, (w2.alloc o).cell? ⟨b0, off0 + k * 2 + 1, none⟩ = some (.string (str f.2)) := fun o => by rw [cell_alloc_old hll]; exact hl2
        clear hfe hfk H1 H2
        go_wp2_with fail
        clear hl1 hl2 hl1' hl2' hll
        obtain ⟨w3, hw3⟩ : ∃ x, x = w2.alloc (.cells #[.string (str f.1), .string (str f.2)] 43) := ⟨_, rfl⟩
        have he1 : w3.cell? ⟨g, k * 2, none⟩ = some (.string (str f.1)) := by rw [hw3, cell_alloc_old hg3]; exact hd1
        have he2 : w3.cell? ⟨g, k * 2 + 1, none⟩ = some (.string (str f.2)) := by rw [hw3, cell_alloc_old hg3]; exact hd2
        have he3 : w3.cell? ⟨w2.heap.size, 0, none⟩ = some (.string (str f.1)) := by rw [hw3]; simp
        have he4 : w3.cell? ⟨w2.heap.size, 1, none⟩ = some (.string (str f.2)) := by rw [hw3]; simp
        have hb23 : Below w2.heap.size w2 w3 := by rw [hw3]; exact (Below.refl _ _).alloc (Nat.le_refl _) _
        have H7 := hid_of hb23
        rw [← hw3]
        clear hw3 hb23 hd1 hd2
        have hSF := hid_of (fun W => lsameFile_walk f f W)
        rw [show (f == f) = true from by simp] at hSF
        go_region_held (fun W => W.cell? ⟨g, k * 2, none⟩ = some (.string (str f.1)) ∧ W.cell? ⟨g, k * 2 + 1, none⟩ = some (.string (str f.2)) ∧ W.cell? ⟨w2.heap.size, 0, none⟩ = some (.string (str f.1)) ∧ W.cell? ⟨w2.heap.size, 1, none⟩ = some (.string (str f.2)) ∧ Below w3.heap.size w3 W)
          (first | assumption | exact ⟨he1, he2, he3, he4, (Below.refl _ _).drew⟩ | (refine keep4 ?_ hb9; assumption))
          (first | (go_at_call 36; refine (hSF.out _).mono ?_; rintro e w9 ⟨rfl, hb9⟩))
        obtain ⟨q1, q2, _, _, q5⟩ : w9.cell? ⟨g, k * 2, none⟩ = some (.string (str f.1)) ∧ w9.cell? ⟨g, k * 2 + 1, none⟩ = some (.string (str f.2)) ∧ w9.cell? ⟨w2.heap.size, 0, none⟩ = some (.string (str f.1)) ∧ w9.cell? ⟨w2.heap.size, 1, none⟩ = some (.string (str f.2)) ∧ Below w3.heap.size w3 w9 := by assumption
        have hb29 := Below.next H7.out q5
        have hown9 := ownsRow_later H5.out (Nat.le_refl _) hb29
        have hfz1 := hown9.frozenAt (k * 2)
        have hfz2 := hown9.frozenAt (k * 2 + 1)
        have hfin := own_written (u := .string ⟨#[111, 118, 101, 114]⟩) (v := .string ⟨#[]⟩) hown9 HX.out
        have hBf : w.grownBy ((w9.setCell ⟨g, k * 2, none⟩ (.string ⟨#[111, 118, 101, 114]⟩)).setCell ⟨g, k * 2 + 1, none⟩ (.string ⟨#[]⟩)) (some g) := ((HGR2.out.trans (below_grownBy hb29)).trans (grown_set w9 ⟨g, k * 2, none⟩ _)).trans (grown_set _ ⟨g, k * 2 + 1, none⟩ _)
        have K1 := hid_of hfin.1
        have K2 := hid_of hfin.2
        have K3 := hid_of hBf
        clear hb29 hown9 hfin hBf H5 H6 H7 HX HGR HGR2 he1 he2 he3 he4
        go_wp2_with fail
        refine ⟨⟨k + 1, _, by omega, rfl, by go_num, K1.out, K2, K3.out⟩, by simp [intOf]; omega⟩
      · have hfe := H2.out hkn
        subst hfe
        clear H1 H2
        go_wp2_with fail
        obtain ⟨w3, hw3⟩ : ∃ x, x = w2.alloc (.cells #[.string (str spareL), .string (str spareL)] 43) := ⟨_, rfl⟩
        have he1 : w3.cell? ⟨g, k * 2, none⟩ = some (.string (str spareL)) := by rw [hw3, cell_alloc_old hg3]; exact hd1
        have he2 : w3.cell? ⟨g, k * 2 + 1, none⟩ = some (.string (str spareL)) := by rw [hw3, cell_alloc_old hg3]; exact hd2
        have he3 : w3.cell? ⟨w2.heap.size, 0, none⟩ = some (.string (str spareL)) := by rw [hw3]; simp
        have he4 : w3.cell? ⟨w2.heap.size, 1, none⟩ = some (.string (str spareL)) := by rw [hw3]; simp
        have hb23 : Below w2.heap.size w2 w3 := by rw [hw3]; exact (Below.refl _ _).alloc (Nat.le_refl _) _
        have H7 := hid_of hb23
        rw [← hw3]
        clear hw3 hb23 hd1 hd2
        have hSF := hid_of (fun W => lsameFile_walk spareF spareF W)
        rw [show (spareF == spareF) = true from by simp] at hSF
        go_region_held (fun W => W.cell? ⟨g, k * 2, none⟩ = some (.string (str spareL)) ∧ W.cell? ⟨g, k * 2 + 1, none⟩ = some (.string (str spareL)) ∧ W.cell? ⟨w2.heap.size, 0, none⟩ = some (.string (str spareL)) ∧ W.cell? ⟨w2.heap.size, 1, none⟩ = some (.string (str spareL)) ∧ Below w3.heap.size w3 W)
          (first | assumption | exact ⟨he1, he2, he3, he4, (Below.refl _ _).drew⟩ | (refine keep4 ?_ hb9; assumption))
          (first | (go_at_call 36; refine (hSF.out _).mono ?_; rintro e w9 ⟨rfl, hb9⟩))
        obtain ⟨q1, q2, _, _, q5⟩ : w9.cell? ⟨g, k * 2, none⟩ = some (.string (str spareL)) ∧ w9.cell? ⟨g, k * 2 + 1, none⟩ = some (.string (str spareL)) ∧ w9.cell? ⟨w2.heap.size, 0, none⟩ = some (.string (str spareL)) ∧ w9.cell? ⟨w2.heap.size, 1, none⟩ = some (.string (str spareL)) ∧ Below w3.heap.size w3 w9 := by assumption
        have hb29 := Below.next H7.out q5
        have hown9 := ownsRow_later H5.out (Nat.le_refl _) hb29
        have hfz1 := hown9.frozenAt (k * 2)
        have hfz2 := hown9.frozenAt (k * 2 + 1)
        have hfin := own_written (u := .string ⟨#[111, 118, 101, 114]⟩) (v := .string ⟨#[]⟩) hown9 HX.out
        have hBf : w.grownBy ((w9.setCell ⟨g, k * 2, none⟩ (.string ⟨#[111, 118, 101, 114]⟩)).setCell ⟨g, k * 2 + 1, none⟩ (.string ⟨#[]⟩)) (some g) := ((HGR2.out.trans (below_grownBy hb29)).trans (grown_set w9 ⟨g, k * 2, none⟩ _)).trans (grown_set _ ⟨g, k * 2 + 1, none⟩ _)
        have K1 := hid_of hfin.1
        have K2 := hid_of hfin.2
        have K3 := hid_of hBf
        clear hb29 hown9 hfin hBf H5 H6 H7 HX HGR HGR2 he1 he2 he3 he4
        go_wp2_with fail
        refine ⟨⟨k + 1, _, by omega, rfl, by go_num, K1.out, K2, K3.out⟩, by simp [intOf]; omega⟩
    · obtain rfl : k = n + 8 := by omega
      clear hownr hbl
      go_wp2_with fail
      go_ret
      exact ⟨rfl, HGR.out⟩
end Go.Proofs.Ytonjphollmdicaa
