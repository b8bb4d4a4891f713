import Derived.Test.YtonjphollmdicaaGreatDoorB08
import Derived.Test.YtonjphollmdicaaGreatDoorB39
import Derived.Test.YtonjphollmdicaaGreatDoorB46
namespace Go.Proofs.YtonjphollmdicaaGreatDoor
open Go.ChangeShapes Go.WideShapes Go.ChangeAt Go.RowKit

theorem lent_at (fs : List FileL) (i : Nat) (h : i < fs.length + 8) : ∃ f : FileL, (filesV (lentL fs 8))[i * 2]? = some (.string (str f.1)) ∧ (filesV (lentL fs 8))[i * 2 + 1]? = some (.string (str f.2)) ∧ (i < fs.length → fs[i]? = some f) ∧ (¬ i < fs.length → f = spareF) := by
  have hl : (lentL fs 8).length = fs.length + 8 := by simp [lentL]
  obtain ⟨h1, h2⟩ := filesV_get (lentL fs 8) i (by omega)
  rw [Nat.mul_comm] at h1 h2
  refine ⟨(lentL fs 8)[i]'(by omega), h1, h2, fun h' => ?_, fun h' => ?_⟩
  · simp [lentL, h']
  · unfold lentL
    rw [List.getElem_append_right (show fs.length ≤ i from by omega)]
    exact List.getElem_replicate _

theorem below_grownBy {W W' : World} {r : Option Nat} (h : Below W.heap.size W W') : W.grownBy W' r := ⟨h.os, h.tape, h.output, h.size, fun k hk _ => h.block k hk⟩

theorem keep4 {w3 W w' : World} {a1 a2 a3 a4 : Addr} {v1 v2 v3 v4 : Value} (h : W.cell? a1 = some v1 ∧ W.cell? a2 = some v2 ∧ W.cell? a3 = some v3 ∧ W.cell? a4 = some v4 ∧ Below w3.heap.size w3 W) (hb : Below W.heap.size W w') :
    w'.cell? a1 = some v1 ∧ w'.cell? a2 = some v2 ∧ w'.cell? a3 = some v3 ∧ w'.cell? a4 = some v4 ∧ Below w3.heap.size w3 w' := by
  obtain ⟨h1, h2, h3, h4, h5⟩ := h
  refine ⟨?_, ?_, ?_, ?_, Below.next h5 hb⟩
  · rw [hb.cell (World.block_lt_of_cell? W _ h1)]; exact h1
  · rw [hb.cell (World.block_lt_of_cell? W _ h2)]; exact h2
  · rw [hb.cell (World.block_lt_of_cell? W _ h3)]; exact h3
  · rw [hb.cell (World.block_lt_of_cell? W _ h4)]; exact h4

theorem own_written {W : World} {B g m c : Nat} {xs ys : List Value} {k : Nat} {u v : Value} (h : W.ownsRow B 62 2 (.slice (some ⟨g, 0, none⟩) m c) m xs) (hx : ∀ j, k * 2 ≤ j → xs[j]? = ys[j]?) :
    ((W.setCell ⟨g, k * 2, none⟩ u).setCell ⟨g, k * 2 + 1, none⟩ v).ownsRow B 62 2 (.slice (some ⟨g, 0, none⟩) m c) m ((xs.set (k * 2) u).set (k * 2 + 1) v) ∧ ∀ j, (k + 1) * 2 ≤ j → ((xs.set (k * 2) u).set (k * 2 + 1) v)[j]? = ys[j]? := by
  refine ⟨((h.stored _ u).1.stored _ v).1, fun j hj => ?_⟩
  rw [List.getElem?_set_ne (by omega), List.getElem?_set_ne (by omega)]
  exact hx j (by omega)

set_option maxRecDepth 100000 in
set_option maxHeartbeats 1000000 in
theorem wholeFiles_walk (fs : List FileL) (a : Option Addr) (cap : Nat) (v : Value) (w0 w : World) (hn : fs.length + 8 ≤ 4398046511104) (hs : ∀ f ∈ fs, f.1.length < 140737488355328 ∧ f.2.length < 140737488355328) (hrd : Rd w0 a (filesV fs)) (hb : Below w0.heap.size w0 w) (hl : Lent w w0.heap.size v fs) :
    Calls Tryz.prog 15 #[v, .slice a fs.length cap] w fun e w' => e = .returned (.bool true) ∧ w.grownBy w' v.ownBlock := by
  obtain ⟨g, c, rfl, hc, hown⟩ := hl
  have hsz := hb.size
  have HRD := hid_of hrd
  have HS := hid_of hs
  have HO := hid_of hown
  have hgb0 : w0.heap.size ≤ g := (hown.lt g (by simp [Value.ownBlock])).1
  have HB := hid_of hb
  have HAT := hid_of (fun i h => lent_at fs i h)
  clear hrd hs hown hb
  obtain ⟨n, hN⟩ : ∃ n, n = fs.length := ⟨_, rfl⟩
  have HN := hid_of hN
  rw [← hN] at hn hc HO ⊢
  rw [← hN] at HAT
  clear hN
  go_enter Tryz.func15, Tryz.ntmps15
  go_wp2_with fail
  go_loopw [5, 7, 8, 9] (fun ok i _ _ W => ∃ (k : Nat) (xs : List Value), k ≤ n + 8 ∧ ok = .bool true ∧ i = .int .i64 (k : Int) ∧ W.ownsRow w0.heap.size 62 2 (.slice (some ⟨g, 0, none⟩) (n + 8) c) (n + 8) xs ∧ Hid (∀ j, k * 2 ≤ j → xs[j]? = (filesV (lentL fs 8))[j]?) ∧ w.grownBy W (some g))
    (fun _ i _ _ _ => n + 8 - (intOf i).toNat)
  case atStart => exact ⟨0, _, by omega, rfl, rfl, HO.out, hid_of (fun _ _ => rfl), ⟨rfl, rfl, rfl, Nat.le_refl _, fun _ _ _ => rfl⟩⟩
  case round =>
    clear HO
    obtain ⟨k, xs, hk, rfl, rfl, hownr, HX, hgr⟩ := hrel
    have hbl : Below w0.heap.size w0 wr := HB.out.grown hgr hsz (by intro kk hkk; cases hkk; exact hgb0)
    have HGR := hid_of hgr
    clear hgr
    have hszr := hbl.size
    by_cases hlt : k < n + 8
    · obtain ⟨f, hf1, hf2, hf3, hf4⟩ := HAT.out k hlt
      rw [← HX.out _ (by omega)] at hf1 hf2
      have hc1 : wr.cell? ⟨g, k * 2, none⟩ = some (.string (str f.1)) := by rw [hownr.cellAt _ (by omega)]; exact hf1
      have hc2 : wr.cell? ⟨g, k * 2 + 1, none⟩ = some (.string (str f.2)) := by rw [hownr.cellAt _ (by omega)]; exact hf2
      have H1 := hid_of hf3
      have H2 := hid_of hf4
      have H3 := hid_of hownr
      have H4 := hid_of hbl
      clear hf1 hf2 hf3 hf4 hownr hbl
      go_wp2_with fail
      refine (lspare_walk _).mono ?_
      rintro e w2 ⟨rfl, hb2⟩
      have hb3 : Below w0.heap.size w0 w2 := H4.out.trans (hb2.mono hszr)
      have hsz2 : w0.heap.size ≤ w2.heap.size := hb3.size
      have hg2 : g < wr.heap.size := World.block_lt_of_cell? wr _ hc1
      have hg3 : g < w2.heap.size := by have := hb2.size; omega
      have hd1 : w2.cell? ⟨g, k * 2, none⟩ = some (.string (str f.1)) := by rw [hb2.cell hg2]; exact hc1
      have hd2 : w2.cell? ⟨g, k * 2 + 1, none⟩ = some (.string (str f.2)) := by rw [hb2.cell hg2]; exact hc2
      have H5 := hid_of (ownsRow_later H3.out (Nat.le_refl _) hb2)
      have H6 := hid_of hb3
      have HGR2 := hid_of (HGR.out.trans (below_grownBy (r := some g) hb2))
      clear hb2 hb3 H3 H4 hc1 hc2
      by_cases hkn : k < n
      · have hfk := H1.out hkn
        have hkl : k < fs.length := by rw [← HN.out]; exact hkn
        obtain ⟨b0, off0, rfl, hl1, hl2⟩ := fileCells HRD.out (Nat.le_refl _) H6.out k hkl
        have hfe : fs[k] = f := by
          rw [List.getElem?_eq_getElem hkl] at hfk
          exact Option.some.inj hfk
        rw [hfe] at hl1 hl2
        have hll : b0 < w2.heap.size := World.block_lt_of_cell? w2 _ hl1
        have hl1' : ∀ o, (w2.alloc o).cell? ⟨b0, off0 + k * 2, none⟩ = some (.string (str f.1)) := fun o => by rw [cell_alloc_old hll]; exact hl1
        have hl2' : ∀ o, (w2.alloc o).cell? ⟨b0, off0 + k * 2 + 1, none⟩ = some (.string (str f.2)) := fun o => by rw [cell_alloc_old hll]; exact hl2
        clear hfe hfk H1 H2
        go_wp2_with fail
        clear hl1 hl2 hl1' hl2' hll
        obtain ⟨w3, hw3⟩ : ∃ x, x = w2.alloc (.cells #[.string (str f.1), .string (str f.2)] 62) := ⟨_, rfl⟩
        have he1 : w3.cell? ⟨g, k * 2, none⟩ = some (.string (str f.1)) := by rw [hw3, cell_alloc_old hg3]; exact hd1
        have he2 : w3.cell? ⟨g, k * 2 + 1, none⟩ = some (.string (str f.2)) := by rw [hw3, cell_alloc_old hg3]; exact hd2
        have he3 : w3.cell? ⟨w2.heap.size, 0, none⟩ = some (.string (str f.1)) := by rw [hw3]; simp
        have he4 : w3.cell? ⟨w2.heap.size, 1, none⟩ = some (.string (str f.2)) := by rw [hw3]; simp
        have hb23 : Below w2.heap.size w2 w3 := by rw [hw3]; exact (Below.refl _ _).alloc (Nat.le_refl _) _
        have H7 := hid_of hb23
        rw [← hw3]
        clear hw3 hb23 hd1 hd2
        have hSF := hid_of (fun W => lsameFile_walk f f W)
        rw [show (f == f) = true from by simp] at hSF
        go_region_held (fun W => W.cell? ⟨g, k * 2, none⟩ = some (.string (str f.1)) ∧ W.cell? ⟨g, k * 2 + 1, none⟩ = some (.string (str f.2)) ∧ W.cell? ⟨w2.heap.size, 0, none⟩ = some (.string (str f.1)) ∧ W.cell? ⟨w2.heap.size, 1, none⟩ = some (.string (str f.2)) ∧ Below w3.heap.size w3 W)
          (first | assumption | exact ⟨he1, he2, he3, he4, (Below.refl _ _).drew⟩ | (refine keep4 ?_ hb9; assumption))
          (first | (go_at_call 46; refine (hSF.out _).mono ?_; rintro e w9 ⟨rfl, hb9⟩))
        obtain ⟨q1, q2, _, _, q5⟩ : w9.cell? ⟨g, k * 2, none⟩ = some (.string (str f.1)) ∧ w9.cell? ⟨g, k * 2 + 1, none⟩ = some (.string (str f.2)) ∧ w9.cell? ⟨w2.heap.size, 0, none⟩ = some (.string (str f.1)) ∧ w9.cell? ⟨w2.heap.size, 1, none⟩ = some (.string (str f.2)) ∧ Below w3.heap.size w3 w9 := by assumption
        have hb29 := Below.next H7.out q5
        have hown9 := ownsRow_later H5.out (Nat.le_refl _) hb29
        have hfz1 := hown9.frozenAt (k * 2)
        have hfz2 := hown9.frozenAt (k * 2 + 1)
        have hfin := own_written (u := .string ⟨#[111, 118, 101, 114]⟩) (v := .string ⟨#[]⟩) hown9 HX.out
        have hBf : w.grownBy ((w9.setCell ⟨g, k * 2, none⟩ (.string ⟨#[111, 118, 101, 114]⟩)).setCell ⟨g, k * 2 + 1, none⟩ (.string ⟨#[]⟩)) (some g) := ((HGR2.out.trans (below_grownBy hb29)).trans (grown_set w9 ⟨g, k * 2, none⟩ _)).trans (grown_set _ ⟨g, k * 2 + 1, none⟩ _)
        have K1 := hid_of hfin.1
        have K2 := hid_of hfin.2
        have K3 := hid_of hBf
        clear hb29 hown9 hfin hBf H5 H6 H7 HX HGR HGR2 he1 he2 he3 he4
        go_wp2_with fail
        refine ⟨⟨k + 1, _, by omega, rfl, by go_num, K1.out, K2, K3.out⟩, by simp [intOf]; omega⟩
      · have hfe := H2.out hkn
        subst hfe
        clear H1 H2
        go_wp2_with fail
        obtain ⟨w3, hw3⟩ : ∃ x, x = w2.alloc (.cells #[.string (str spareL), .string (str spareL)] 62) := ⟨_, rfl⟩
        have he1 : w3.cell? ⟨g, k * 2, none⟩ = some (.string (str spareL)) := by rw [hw3, cell_alloc_old hg3]; exact hd1
        have he2 : w3.cell? ⟨g, k * 2 + 1, none⟩ = some (.string (str spareL)) := by rw [hw3, cell_alloc_old hg3]; exact hd2
        have he3 : w3.cell? ⟨w2.heap.size, 0, none⟩ = some (.string (str spareL)) := by rw [hw3]; simp
        have he4 : w3.cell? ⟨w2.heap.size, 1, none⟩ = some (.string (str spareL)) := by rw [hw3]; simp
        have hb23 : Below w2.heap.size w2 w3 := by rw [hw3]; exact (Below.refl _ _).alloc (Nat.le_refl _) _
        have H7 := hid_of hb23
        rw [← hw3]
        clear hw3 hb23 hd1 hd2
        have hSF := hid_of (fun W => lsameFile_walk spareF spareF W)
        rw [show (spareF == spareF) = true from by simp] at hSF
        go_region_held (fun W => W.cell? ⟨g, k * 2, none⟩ = some (.string (str spareL)) ∧ W.cell? ⟨g, k * 2 + 1, none⟩ = some (.string (str spareL)) ∧ W.cell? ⟨w2.heap.size, 0, none⟩ = some (.string (str spareL)) ∧ W.cell? ⟨w2.heap.size, 1, none⟩ = some (.string (str spareL)) ∧ Below w3.heap.size w3 W)
          (first | assumption | exact ⟨he1, he2, he3, he4, (Below.refl _ _).drew⟩ | (refine keep4 ?_ hb9; assumption))
          (first | (go_at_call 46; refine (hSF.out _).mono ?_; rintro e w9 ⟨rfl, hb9⟩))
        obtain ⟨q1, q2, _, _, q5⟩ : w9.cell? ⟨g, k * 2, none⟩ = some (.string (str spareL)) ∧ w9.cell? ⟨g, k * 2 + 1, none⟩ = some (.string (str spareL)) ∧ w9.cell? ⟨w2.heap.size, 0, none⟩ = some (.string (str spareL)) ∧ w9.cell? ⟨w2.heap.size, 1, none⟩ = some (.string (str spareL)) ∧ Below w3.heap.size w3 w9 := by assumption
        have hb29 := Below.next H7.out q5
        have hown9 := ownsRow_later H5.out (Nat.le_refl _) hb29
        have hfz1 := hown9.frozenAt (k * 2)
        have hfz2 := hown9.frozenAt (k * 2 + 1)
        have hfin := own_written (u := .string ⟨#[111, 118, 101, 114]⟩) (v := .string ⟨#[]⟩) hown9 HX.out
        have hBf : w.grownBy ((w9.setCell ⟨g, k * 2, none⟩ (.string ⟨#[111, 118, 101, 114]⟩)).setCell ⟨g, k * 2 + 1, none⟩ (.string ⟨#[]⟩)) (some g) := ((HGR2.out.trans (below_grownBy hb29)).trans (grown_set w9 ⟨g, k * 2, none⟩ _)).trans (grown_set _ ⟨g, k * 2 + 1, none⟩ _)
        have K1 := hid_of hfin.1
        have K2 := hid_of hfin.2
        have K3 := hid_of hBf
        clear hb29 hown9 hfin hBf H5 H6 H7 HX HGR HGR2 he1 he2 he3 he4
        go_wp2_with fail
        refine ⟨⟨k + 1, _, by omega, rfl, by go_num, K1.out, K2, K3.out⟩, by simp [intOf]; omega⟩
    · obtain rfl : k = n + 8 := by omega
      clear hownr hbl
      go_wp2_with fail
      go_ret
      exact ⟨rfl, HGR.out⟩
end Go.Proofs.YtonjphollmdicaaGreatDoor
namespace Go.Proofs.YtonjphollmdicaaGreatDoor
open Go.ChangeShapes Go.WideShapes Go.ChangeAt Go.RowKit

theorem sealL_len (k : UInt8) (set : Nat) (b : List UInt8) : (sealL k set b).length = 22 + b.length := by
  unfold sealL headL
  simp only [List.length_append, numBytes_len, List.length_cons, List.length_nil]
  omega

/-- files of a row that a call owns -/
theorem handed_of {W : World} {B : Nat} {v : Value} {fs : List FileL} (h : W.ownsRow B 62 2 v fs.length (filesV fs)) (h0 : 0 < fs.length) (hn : ∀ f ∈ fs, f.1.length < 140737488355328 ∧ f.2.length < 140737488355328) :
    ∃ g c, v = .slice (some ⟨g, 0, none⟩) fs.length c ∧ Handed W fs (some ⟨g, 0, none⟩) c := by
  rcases h.2 with ⟨_, h1⟩ | ⟨g, c, cur, rfl, hb, hg, hnc, _, _, _⟩
  · omega
  · refine ⟨g, c, rfl, ⟨?_, hnc, hn⟩⟩
    intro k u hk
    have := h.cells (g := g) rfl k u hk
    have hadd : (⟨g, 0, none⟩ : Addr).add k = ⟨g, 0 + k, none⟩ := by unfold Addr.add; split <;> simp_all
    rw [hadd] at this
    exact ⟨g, 0, rfl, this⟩

def exFs : List FileL := [([97], [0, 1, 0, 2])]
end Go.Proofs.YtonjphollmdicaaGreatDoor
namespace Go.Proofs.YtonjphollmdicaaGreatDoor
open Go.ChangeShapes Go.WideShapes Go.ChangeAt Go.RowKit

theorem body_at (k : UInt8) (set : Nat) (b : List UInt8) : ((sealL k set b).drop 14).take b.length = b := by
  unfold sealL headL
  have e : ([83, 65, 76, k] ++ numBytes set 8 ++ numBytes b.length 2).length = 14 := by simp [numBytes_len]
  rw [List.append_assoc ([83, 65, 76, k] ++ numBytes set 8 ++ numBytes b.length 2), List.drop_append_of_le_length (by rw [e]; exact Nat.le_refl _), List.drop_of_length_le (by rw [e]; exact Nat.le_refl _), List.nil_append, List.take_append_of_le_length (Nat.le_refl _), List.take_length]
theorem ex_body : extraBodyL 0 (textL (extraL (rowsL 2 exFs) 1 0)) = [0, 0, 0, 7] := by decide +kernel

set_option maxRecDepth 100000 in
theorem begun_walk (w : World) :
    Calls Tryz.prog 9 #[] w fun e w' => e = .returned (.bool true) ∧ Below w.heap.size w w' := by
  have hrd : Rd (w.alloc (.cells #[.string ⟨#[97]⟩, .string ⟨#[0, 1, 0, 2]⟩] 62)) (some ⟨w.heap.size, 0, none⟩) (filesV exFs) := by
    intro k u hk
    refine ⟨w.heap.size, 0, rfl, ?_⟩
    rcases k with _ | _ | k
    · simp [filesV, exFs] at hk; subst hk; simp [str]
    · simp [filesV, exFs] at hk; subst hk; simp [str]
    · simp [filesV, exFs] at hk
  have hC := Create_ok exFs 2 1 2 1 (some ⟨w.heap.size, 0, none⟩) 1 rfl rfl (by omega) (by omega) (by omega) (by omega) (by decide) (by decide +kernel) _ ⟨hrd, by simp [exFs], by simp [exFs]⟩
  have hb0 : Below w.heap.size w (w.alloc (.cells #[.string ⟨#[97]⟩, .string ⟨#[0, 1, 0, 2]⟩] 62)) := (Below.refl _ _).alloc (Nat.le_refl _) _
  have HC := hid_of hC
  have HB := hid_of hb0
  clear hC hb0 hrd
  have hpk : packetsL 2 exFs 1 = [sealL 77 (setL 2 exFs) (mainL 2 exFs), sealL 70 (setL 2 exFs) (bodyL 2 exFs 0), rPacketL 2 exFs 1 0] := rfl
  have l0 : (sealL 77 (setL 2 exFs) (mainL 2 exFs)).length = 33 := by rw [sealL_len, mainL_len]; rfl
  have l1 : (sealL 70 (setL 2 exFs) (bodyL 2 exFs 0)).length = 51 := by rw [sealL_len, bodyL_len 2 exFs 0 (by omega)]; rfl
  have l2 : (rPacketL 2 exFs 1 0).length = 26 := by unfold rPacketL extraBodyL; rw [sealL_len, List.length_append, numBytes_len, textL_len, extraL_len]
  have x0 : (str (sealL 77 (setL 2 exFs) (mainL 2 exFs))).extract 0 4 = ⟨#[83, 65, 76, 77]⟩ := by rw [str_extract]; rfl
  have x2 : (str (rPacketL 2 exFs 1 0)).extract 14 18 = ⟨#[0, 0, 0, 7]⟩ := by
    rw [str_extract]
    have := body_at 82 (setL 2 exFs) (extraBodyL 0 (textL (extraL (rowsL 2 exFs) 1 0)))
    rw [ex_body] at this
    unfold rPacketL
    rw [ex_body]
    rw [show (18 - 14) = ([0, 0, 0, 7] : List UInt8).length from rfl, this]
    rfl
  have HP := hid_of hpk
  obtain ⟨p0, hp0⟩ : ∃ x, x = sealL 77 (setL 2 exFs) (mainL 2 exFs) := ⟨_, rfl⟩
  obtain ⟨p1, hp1⟩ : ∃ x, x = sealL 70 (setL 2 exFs) (bodyL 2 exFs 0) := ⟨_, rfl⟩
  obtain ⟨p2, hp2⟩ : ∃ x, x = rPacketL 2 exFs 1 0 := ⟨_, rfl⟩
  rw [← hp0, ← hp1, ← hp2] at HP
  rw [← hp0] at l0 x0
  rw [← hp1] at l1
  rw [← hp2] at l2 x2
  have s0 := str_size p0
  have s1 := str_size p1
  have s2 := str_size p2
  rw [l0] at s0
  rw [l1] at s1
  rw [l2] at s2
  clear hpk hp0 hp1 hp2 l0 l1 l2
  have t1 : Math.mul 2 3 = 6 := by decide +kernel
  have t2 : Math.mul 32768 2 = 4107 := by decide +kernel
  have T1 := hid_of (sTimes_walk 2 3 (by omega) (by omega) w)
  have T2 := hid_of (sTimes_walk 32768 2 (by omega) (by omega) w)
  rw [t1] at T1
  rw [t2] at T2
  go_enter Tryz.func9, Tryz.ntmps9
  go_wp2_with fail
  refine T1.out.mono ?_
  rintro e w' ⟨rfl, hw'⟩
  have hw' := hw'.symm
  subst hw'
  go_wp2_with fail
  refine T2.out.mono ?_
  rintro e w' ⟨rfl, hw'⟩
  have hw' := hw'.symm
  subst hw'
  go_wp2_with fail
  refine HC.out.mono ?_
  rintro e w1 ⟨v, rfl, hown, hb1⟩
  rw [HP.out] at hown
  obtain ⟨g, c, hv⟩ : ∃ g c, v = .slice (some ⟨g, 0, none⟩) 3 c := by
    rcases hown.2 with ⟨_, h1⟩ | ⟨g, c, cur, h1, _⟩
    · simp [exFs] at h1
    · exact ⟨_, _, h1⟩
  have hown' : w1.ownsRow (w.alloc (.cells #[.string ⟨#[97]⟩, .string ⟨#[0, 1, 0, 2]⟩] 62)).heap.size 9 1 (.slice (some ⟨g, 0, none⟩) 3 c) 3 (strV [p0, p1, p2]) := by rw [← hv]; exact hown
  have c0 : w1.cell? ⟨g, 0, none⟩ = some (.string (str p0)) := by rw [hown'.cellAt 0 (by omega)]; rfl
  have c1 : w1.cell? ⟨g, 1, none⟩ = some (.string (str p1)) := by rw [hown'.cellAt 1 (by omega)]; rfl
  have c2 : w1.cell? ⟨g, 2, none⟩ = some (.string (str p2)) := by rw [hown'.cellAt 2 (by omega)]; rfl
  rw [hv]
  have hfin := hid_of (Below.next HB.out hb1)
  clear hown hown' hv hb1 HC HB HP T1 T2
  go_wp2_with fail
  go_ret
  exact ⟨rfl, hfin.out⟩
end Go.Proofs.YtonjphollmdicaaGreatDoor
namespace Go.Proofs.YtonjphollmdicaaGreatDoor
open Go.ChangeShapes Go.WideShapes Go.ChangeAt Go.RowKit

/-- what Create answers -/
def resL (fs : List FileL) (b x : Int) : List (List UInt8) × Int :=
  if badArg b x then ([], 1) else if goodSet fs b.toNat then (packetsL b.toNat fs x.toNat, 0) else ([], 2)

theorem packets_count (size : Nat) (fs : List FileL) (extra : Nat) : (packetsL size fs extra).length = 1 + fs.length + extra := by
  simp [packetsL, fPacketsL, rPacketsL, bodiesL]; omega

theorem resL_len (fs : List FileL) (b x : Int) : (resL fs b x).1.length ≤ 1000 := by
  unfold resL
  by_cases h1 : badArg b x = true
  · rw [if_pos h1]; simp
  · rw [if_neg h1]
    by_cases h2 : goodSet fs b.toNat = true
    · rw [if_pos h2, packets_count]
      obtain ⟨size, extra, _, hx, _, _, _, hex, _⟩ := good_arg (by simpa using h1)
      unfold goodSet at h2
      rw [Bool.and_eq_true, Bool.and_eq_true] at h2
      have := set_facts h2.1.1
      omega
    · rw [if_neg h2]; simp

theorem rCreate_any (fs : List FileL) (b x : Int) (a : Option Addr) (cap : Nat) (w : World) (hh : Handed w fs a cap) :
    Calls Tryz.prog 38 #[.slice a fs.length cap, .int .i64 b, .int .i64 x] w fun e w' => ∃ al cl, e = .returned (.tuple #[.slice al (resL fs b x).1.length cl, .int .i64 (resL fs b x).2]) ∧ w'.ownsRow w.heap.size 9 1 (.slice al (resL fs b x).1.length cl) (resL fs b x).1.length (strV (resL fs b x).1) ∧ Below w.heap.size w w' := by
  unfold resL
  by_cases h1 : badArg b x = true
  · rw [if_pos h1]
    refine (rCreate_arg fs b x a cap h1 w).mono ?_
    rintro e w' ⟨rfl, hb⟩
    exact ⟨none, 0, rfl, World.ownsRow_nil _ _ _ _, hb⟩
  · rw [if_neg h1]
    obtain ⟨size, extra, hb, hx, h0, h32, hev, hex, hss⟩ := good_arg (by simpa using h1)
    have e1 : b.toNat = size := by omega
    have e2 : x.toNat = extra := by omega
    rw [e1, e2]
    by_cases h2 : goodSet fs size = true
    · rw [if_pos h2]
      refine (rCreate_ok fs b x size extra a cap hb hx h0 h32 hev hex hss h2 w hh).mono ?_
      rintro e w' ⟨v, rfl, hown, hbl⟩
      obtain ⟨al, cl, rfl, _, _, _⟩ := ownsRow_rd hown
      exact ⟨al, cl, by rw [packets_count], by rw [packets_count]; exact hown, hbl⟩
    · rw [if_neg h2]
      refine (rCreate_file fs b x size extra a cap hb hx h0 h32 hex hss (by simpa using h2) w hh).mono ?_
      rintro e w' ⟨rfl, hbl⟩
      exact ⟨none, 0, rfl, World.ownsRow_nil _ _ _ _, hbl⟩

theorem Lent.later {w w' : World} {base : Nat} {v : Value} {fs : List FileL} (h : Lent w base v fs) (hb : Below w.heap.size w w') : Lent w' base v fs := by
  obtain ⟨g, c, hv, hc, ho⟩ := h
  exact ⟨g, c, hv, hc, ownsRow_later ho (Nat.le_refl _) hb⟩
theorem Lent.base {w : World} {base base' : Nat} {v : Value} {fs : List FileL} (h : Lent w base v fs) (hb : base' ≤ base) : Lent w base' v fs := by
  obtain ⟨g, c, hv, hc, ho⟩ := h
  exact ⟨g, c, hv, hc, ownsRow_base hb ho⟩
theorem Lent.handed {w : World} {base : Nat} {v : Value} {fs : List FileL} (h : Lent w base v fs) (hs : ∀ f ∈ fs, f.1.length < 140737488355328 ∧ f.2.length < 140737488355328) : ∃ a c, v = .slice a fs.length c ∧ Handed w fs a c := by
  obtain ⟨g, c, hv, hc, ho⟩ := h
  refine ⟨some ⟨g, 0, none⟩, c, hv, ⟨?_, by omega, hs⟩⟩
  intro k u hk
  have hkl : k < (filesV fs).length := (List.getElem?_eq_some_iff.1 hk).1
  have := ho.cells (g := g) rfl k u (by
    unfold lentL
    rw [filesV_append, List.getElem?_append_left hkl]
    exact hk)
  have hadd : (⟨g, 0, none⟩ : Addr).add k = ⟨g, 0 + k, none⟩ := by unfold Addr.add; split <;> simp_all
  rw [hadd] at this
  exact ⟨g, 0, rfl, this⟩
theorem Handed.later {w w' : World} {fs : List FileL} {a : Option Addr} {cap : Nat} (h : Handed w fs a cap) (hb : Below w.heap.size w w') : Handed w' fs a cap := ⟨h.rd.later (Nat.le_refl _) hb, h.cap1, h.short⟩

end Go.Proofs.YtonjphollmdicaaGreatDoor
namespace Go.Proofs.YtonjphollmdicaaGreatDoor
open Go.ChangeShapes Go.WideShapes Go.ChangeAt Go.RowKit

theorem packets_short {size : Nat} {fs : List FileL} {extra : Nat} (h0 : 0 < size) (h32 : size ≤ 32) (hg : goodSet fs size = true) : ∀ t ∈ packetsL size fs extra, t.length ≤ 4000 := by
  unfold goodSet at hg
  rw [Bool.and_eq_true, Bool.and_eq_true] at hg
  obtain ⟨_, h6, hf⟩ := set_facts hg.1.1
  intro t ht
  unfold packetsL at ht
  rw [List.mem_cons, List.mem_append] at ht
  rcases ht with rfl | ht | ht
  · rw [sealL_len]
    unfold mainL mainBodyL
    simp only [List.length_append, numBytes_len, hashesL_len, List.length_map]
    unfold bodiesL
    simp only [List.length_map, List.length_range]
    omega
  · unfold fPacketsL at ht
    rw [List.mem_map] at ht
    obtain ⟨b, hb, rfl⟩ := ht
    unfold bodiesL at hb
    rw [List.mem_map] at hb
    obtain ⟨i, hi, rfl⟩ := hb
    have hi := List.mem_range.1 hi
    rw [sealL_len]
    have hmem : fs.getD i ([], []) ∈ fs := by
      rw [List.getD_eq_getElem?_getD, List.getElem?_eq_getElem hi]
      exact List.getElem_mem hi
    have hfi := hf _ hmem
    unfold bodyL fileBodyL fileHeadL
    simp only [List.length_append, numBytes_len, hashesL_len, List.length_map, (cutL_len _ size h0).1]
    have : slicesOfN (fs.getD i ([], [])).2.length size ≤ 400 := by
      unfold slicesOfN
      rw [Nat.div_le_iff_le_mul_add_pred h0]
      have h1 : 400 * 1 ≤ 400 * size := Nat.mul_le_mul_left _ h0
      have h2 : size * 400 = 400 * size := Nat.mul_comm _ _
      omega
    omega
  · unfold rPacketsL at ht
    rw [List.mem_map] at ht
    obtain ⟨j, _, rfl⟩ := ht
    unfold rPacketL
    rw [sealL_len]
    unfold extraBodyL
    simp only [List.length_append, numBytes_len, textL_len, extraL_len]
    omega
theorem resL_short (fs : List FileL) (b x : Int) : ∀ t ∈ (resL fs b x).1, t.length ≤ 4000 := by
  unfold resL
  by_cases h1 : badArg b x = true
  · rw [if_pos h1]; simp
  · rw [if_neg h1]
    obtain ⟨size, extra, hb, hx, h0, h32, _⟩ := good_arg (by simpa using h1)
    have e1 : b.toNat = size := by omega
    rw [e1]
    by_cases h2 : goodSet fs size = true
    · rw [if_pos h2]; exact packets_short h0 h32 h2
    · rw [if_neg h2]; simp

/-- which of n things -/
def pickN (c : Int) (n : Nat) : Nat := ((if c < 0 then -(c + 1) else c) % (n : Int)).toNat
theorem pickN_lt (c : Int) {n : Nat} (h : 0 < n) : pickN c n < n := by
  unfold pickN
  have := Int.emod_lt_of_pos (if c < 0 then -(c + 1) else c) (b := (n : Int)) (by omega)
  have := Int.emod_nonneg (if c < 0 then -(c + 1) else c) (b := (n : Int)) (by omega)
  omega
/-- a volume and packets behind it -/
def laidS (ps : List (List UInt8)) (v : List UInt8) (ks : List Int) : List UInt8 := v ++ ks.flatMap fun c => ps.getD (pickN c ps.length) []
def laidL (ps : List (List UInt8)) (vs : List (List UInt8)) (pk : List (List Int)) : List (List UInt8) := (List.range vs.length).map fun i => laidS ps (vs.getD i []) (if 0 < ps.length then pk.getD i [] else [])
theorem laidL_len (ps : List (List UInt8)) (vs : List (List UInt8)) (pk : List (List Int)) : (laidL ps vs pk).length = vs.length := by simp [laidL]
theorem laidS_snoc (ps : List (List UInt8)) (v : List UInt8) (ks : List Int) (c : Int) : laidS ps v (ks ++ [c]) = laidS ps v ks ++ ps.getD (pickN c ps.length) [] := by
  unfold laidS
  rw [List.flatMap_append]
  simp
theorem laidS_len {ps : List (List UInt8)} (hp : ∀ t ∈ ps, t.length ≤ 4000) (v : List UInt8) (ks : List Int) : (laidS ps v ks).length ≤ v.length + 4000 * ks.length := by
  unfold laidS
  rw [List.length_append]
  have : (ks.flatMap fun c => ps.getD (pickN c ps.length) []).length ≤ 4000 * ks.length := by
    induction ks with
    | nil => simp
    | cons c r ih =>
      rw [List.flatMap_cons, List.length_append, List.length_cons]
      have h1 : (ps.getD (pickN c ps.length) []).length ≤ 4000 := by
        rw [List.getD_eq_getElem?_getD]
        cases hq : ps[pickN c ps.length]? with
        | none => simp
        | some t => exact hp t (List.mem_of_getElem? hq)
      omega
  omega
/-- the numbers that count for volume i -/
def pksOf (ps : List (List UInt8)) (pk : List (List Int)) (i : Nat) : List Int := if 0 < ps.length then pk.getD i [] else []
theorem laidL_take (ps : List (List UInt8)) (vs : List (List UInt8)) (pk : List (List Int)) (i : Nat) (h : i < vs.length) : (laidL ps vs pk).take (i + 1) = (laidL ps vs pk).take i ++ [laidS ps vs[i] (pksOf ps pk i)] := by
  rw [List.take_add_one, List.getElem?_eq_getElem (by rw [laidL_len]; exact h)]
  congr 1
  unfold laidL pksOf
  simp [List.getD_eq_getElem?_getD, List.getElem?_eq_getElem h]
/-- numbers of packets, as they lie -/
def RdPk (w : World) (a : Option Addr) (pk : List (List Int)) : Prop := ∀ i ks, pk[i]? = some ks → ∃ b off sa sc, a = some ⟨b, off, none⟩ ∧ w.cell? ⟨b, off + i, none⟩ = some (.slice sa ks.length sc) ∧ Rd w sa (ks.map (Value.int .i64))
theorem RdPk.later {w w' : World} {a : Option Addr} {pk : List (List Int)} (h : RdPk w a pk) (hb : Below w.heap.size w w') : RdPk w' a pk := fun i ks hi => by
  obtain ⟨b, off, sa, sc, e, h1, h2⟩ := h i ks hi
  have hl := World.block_lt_of_cell? w _ h1
  exact ⟨b, off, sa, sc, e, by rw [hb.cell hl]; exact h1, h2.later (Nat.le_refl _) hb⟩
end Go.Proofs.YtonjphollmdicaaGreatDoor
