import Derived.Test.YtonjphollmdicaaKFiles
import Derived.Test.YtonjphollmdicaaEx

import Derived.Deep.RegionWith
namespace Go.Proofs.Ytonjphollmdicaa
open Go.ChangeShapes Go.WideShapes Go.ChangeAt Go.RowKit

set_option maxRecDepth 100000 in
theorem kcreated_walk (w : World) :
    Calls Try.prog 15 #[] w fun e w' => ∃ ad c, e = .returned (.slice (some ad) 3 c) ∧ Below w.heap.size w w' := by
  have hrd : Rd (w.alloc (.cells #[.string ⟨#[97]⟩, .string ⟨#[0, 1, 0, 2]⟩] 43)) (some ⟨w.heap.size, 0, none⟩) (filesV exFs) := by
    intro k u hk
    refine ⟨w.heap.size, 0, rfl, ?_⟩
    rcases k with _ | _ | k
    · simp [filesV, exFs] at hk; subst hk; simp [str]
    · simp [filesV, exFs] at hk; subst hk; simp [str]
    · simp [filesV, exFs] at hk
  have hC := Create_ok exFs 2 1 2 1 (some ⟨w.heap.size, 0, none⟩) 1 rfl rfl (by omega) (by omega) (by omega) (by omega) (by decide) (by decide +kernel) _ ⟨hrd, by simp [exFs], by simp [exFs]⟩
  have hb0 : Below w.heap.size w (w.alloc (.cells #[.string ⟨#[97]⟩, .string ⟨#[0, 1, 0, 2]⟩] 43)) := (Below.refl _ _).alloc (Nat.le_refl _) _
  have HC := hid_of hC
  have HB := hid_of hb0
  clear hC hb0 hrd
  have hpk : packetsL 2 exFs 1 = [sealL 77 (setL 2 exFs) (mainL 2 exFs), sealL 70 (setL 2 exFs) (bodyL 2 exFs 0), rPacketL 2 exFs 1 0] := rfl
  have l0 : (sealL 77 (setL 2 exFs) (mainL 2 exFs)).length = 33 := by rw [sealL_len, mainL_len]; rfl
  have l1 : (sealL 70 (setL 2 exFs) (bodyL 2 exFs 0)).length = 51 := by rw [sealL_len, bodyL_len 2 exFs 0 (by omega)]; rfl
  have l2 : (rPacketL 2 exFs 1 0).length = 26 := by unfold rPacketL extraBodyL; rw [sealL_len, List.length_append, numBytes_len, textL_len, extraL_len]
  have HP := hid_of hpk
  obtain ⟨p0, hp0⟩ : ∃ x, x = sealL 77 (setL 2 exFs) (mainL 2 exFs) := ⟨_, rfl⟩
  obtain ⟨p1, hp1⟩ : ∃ x, x = sealL 70 (setL 2 exFs) (bodyL 2 exFs 0) := ⟨_, rfl⟩
  obtain ⟨p2, hp2⟩ : ∃ x, x = rPacketL 2 exFs 1 0 := ⟨_, rfl⟩
  rw [← hp0, ← hp1, ← hp2] at HP
  rw [← hp0] at l0
  rw [← hp1] at l1
  rw [← hp2] at l2
  have s0 := str_size p0
  have s1 := str_size p1
  have s2 := str_size p2
  rw [l0] at s0
  rw [l1] at s1
  rw [l2] at s2
  clear hpk hp0 hp1 hp2 l0 l1 l2
  go_enter Try.func15, Try.ntmps15
  go_wp2_with fail
  refine HC.out.mono ?_
  rintro e w1 ⟨v, rfl, hown, hb1⟩
  rw [HP.out] at hown
  obtain ⟨g, c, hv⟩ : ∃ g c, v = .slice (some ⟨g, 0, none⟩) 3 c := by
    rcases hown.2 with ⟨_, h1⟩ | ⟨g, c, cur, h1, _⟩
    · simp [exFs] at h1
    · exact ⟨_, _, h1⟩
  have hown' : w1.ownsRow (w.alloc (.cells #[.string ⟨#[97]⟩, .string ⟨#[0, 1, 0, 2]⟩] 43)).heap.size 9 1 (.slice (some ⟨g, 0, none⟩) 3 c) 3 (strV [p0, p1, p2]) := by rw [← hv]; exact hown
  have c0 : w1.cell? ⟨g, 0, none⟩ = some (.string (str p0)) := by rw [hown'.cellAt 0 (by omega)]; rfl
  have c1 : w1.cell? ⟨g, 1, none⟩ = some (.string (str p1)) := by rw [hown'.cellAt 1 (by omega)]; rfl
  have c2 : w1.cell? ⟨g, 2, none⟩ = some (.string (str p2)) := by rw [hown'.cellAt 2 (by omega)]; rfl
  rw [hv]
  have hfin := Below.next HB.out hb1
  clear hown hown' hv hb1 HC HB HP
  go_wp2_with fail
  go_ret
  exact ⟨_, _, rfl, hfin⟩

theorem kFiles_short (s : KSet) : (∀ f ∈ kFiles s, f.1.length = 2 ∧ f.2.length ≤ 30) ∧ 1 ≤ (kFiles s).length ∧ (kFiles s).length ≤ 4 := by
  have hone : (∀ f ∈ kOne s, f.1.length = 2 ∧ f.2.length ≤ 30) ∧ 1 ≤ (kOne s).length ∧ (kOne s).length ≤ 4 := by
    unfold kOne
    split
    · simp [kName]
    · rename_i h
      refine ⟨?_, by simp [kRaw]; omega, by simp [kRaw, kCount]; omega⟩
      intro f hf
      simp only [kRaw, List.mem_map] at hf
      obtain ⟨i, _, rfl⟩ := hf
      simp only [kFile, kName, List.length_take]
      refine ⟨rfl, by omega⟩
  unfold kFiles
  cases h : kOne s with
  | nil => rw [h] at hone; simp at hone
  | cons f r =>
    rw [h] at hone
    simp only [kFix]
    refine ⟨?_, by simp, by have := hone.2.2; simpa using this⟩
    intro g hg
    rcases List.mem_cons.1 hg with rfl | hg
    · split
      · exact ⟨(hone.1 f (by simp)).1, by simp⟩
      · exact hone.1 f (by simp)
    · exact hone.1 g (by simp [hg])

theorem kSize_facts (s : KSet) : 0 < kSize s ∧ kSize s ≤ 8 ∧ kSize s % 2 = 0 ∧ sliceSize ((kSize s : Nat) : Int) = true := by
  have h := pickN_lt s.sl 4 (by omega)
  unfold kSize
  refine ⟨by omega, by omega, by omega, ?_⟩
  unfold sliceSize
  exact decide_eq_true (by omega)

/-- the names f0, f1, .. are all different -/
theorem kName_inj {i j : Nat} (hi : i < 4) (hj : j < 4) (h : kName i = kName j) : i = j := by
  have key : ∀ a, a < 4 → ∀ b, b < 4 → kName a = kName b → a = b := by decide +kernel
  exact key i hi j hj h

theorem kFiles_name (s : KSet) (i : Nat) (f : FileL) (h : (kFiles s)[i]? = some f) : f.1 = kName i := by
  have hone : ∀ (i : Nat) (f : FileL), (kOne s)[i]? = some f → f.1 = kName i := by
    intro i f h
    unfold kOne at h
    split at h
    · cases i with
      | zero => simp at h; rw [← h]
      | succ i => simp at h
    · have hl := (List.getElem?_eq_some_iff.1 h).1
      simp only [kRaw, List.length_map, List.length_range] at hl
      simp [kRaw, hl] at h
      rw [← h]
      rfl
  unfold kFiles at h
  cases hk : kOne s with
  | nil => rw [hk] at h; simp [kFix] at h
  | cons f0 r =>
    rw [hk] at h hone
    simp only [kFix] at h
    cases i with
    | zero =>
      have h3 := hone 0 f0 rfl
      simp only [List.getElem?_cons_zero, Option.some.injEq] at h
      rw [← h]
      split
      · exact h3
      · exact h3
    | succ i => exact hone (i + 1) f h

theorem slices_15 (len size : Nat) (h : len ≤ 30) (h2 : 2 ≤ size) : slicesOfN len size ≤ 15 := by
  unfold slicesOfN
  have : (len + size - 1) / size < 16 := (Nat.div_lt_iff_lt_mul (by omega)).2 (by omega)
  omega
theorem count_15 (fs : List FileL) (size : Nat) (h2 : 2 ≤ size) (h : ∀ f ∈ fs, f.2.length ≤ 30) : countL fs size ≤ 15 * fs.length := by
  induction fs with
  | nil => simp [countL]
  | cons f r ih =>
    have h1 := ih (fun g hg => h g (by simp [hg]))
    have h3 := slices_15 f.2.length size (h f (by simp)) h2
    simp only [countL, List.map_cons, List.sum_cons, List.length_cons] at h1 ⊢
    omega
theorem kFiles_first (s : KSet) : ∃ f r, kFiles s = f :: r ∧ f.2 ≠ [] := by
  unfold kFiles
  cases h : kOne s with
  | nil =>
    have h1 := (kFiles_short s).2.1
    unfold kFiles at h1
    rw [h] at h1
    simp [kFix] at h1
  | cons f r =>
    refine ⟨_, r, rfl, ?_⟩
    split
    · simp
    · assumption
theorem kCount_facts (s : KSet) : 1 ≤ countL (kFiles s) (kSize s) ∧ countL (kFiles s) (kSize s) ≤ 60 := by
  obtain ⟨h1, h2, h3⟩ := kFiles_short s
  obtain ⟨z0, z1, z2, _⟩ := kSize_facts s
  have hc := count_15 (kFiles s) (kSize s) (by omega) (fun f hf => (h1 f hf).2)
  refine ⟨?_, by omega⟩
  obtain ⟨f, r, hf, hne⟩ := kFiles_first s
  rw [hf]
  have hl : 0 < f.2.length := List.length_pos_iff.2 hne
  have : 1 ≤ slicesOfN f.2.length (kSize s) := by
    unfold slicesOfN
    exact (Nat.le_div_iff_mul_le z0).2 (by omega)
  simp only [countL, List.map_cons, List.sum_cons]
  omega

theorem kSet_good (s : KSet) : goodSet (kFiles s) (kSize s) = true := by
  obtain ⟨h1, h2, h3⟩ := kFiles_short s
  obtain ⟨c1, c2⟩ := kCount_facts s
  unfold goodSet
  rw [decide_eq_true c1, decide_eq_true c2, Bool.and_true, Bool.and_true]
  unfold isSetL
  rw [decide_eq_true ⟨h2, by omega⟩, Bool.true_and, List.all_eq_true]
  intro i hi
  have hi' : i < (kFiles s).length := by simpa using hi
  unfold okAt
  rw [List.getElem?_eq_getElem hi']
  have hf := h1 _ (List.getElem_mem hi')
  simp only [Bool.and_eq_true]
  refine ⟨decide_eq_true ⟨by omega, by omega, by omega⟩, ?_⟩
  unfold hasNameL
  rw [Bool.not_eq_true', List.any_eq_false]
  intro f hf'
  obtain ⟨j, hj, rfl⟩ := List.mem_iff_getElem.1 hf'
  rw [List.length_take] at hj
  rw [List.getElem_take, kFiles_name s j _ (List.getElem?_eq_getElem (by omega)), kFiles_name s i _ (List.getElem?_eq_getElem hi')]
  intro e
  have := kName_inj (i := j) (j := i) (by omega) (by omega) (by simpa using e)
  omega

set_option maxRecDepth 100000 in
set_option maxHeartbeats 2000000 in
theorem kmade_walk (s : KSet) (a : Option Addr) (cap : Nat) (w : World) (h : KOk w s a cap) :
    Calls Try.prog 16 #[kV s a cap] w fun e w' => ∃ g1 c1 vp, e = .returned (.tuple #[.slice (some ⟨g1, 0, none⟩) (kFiles s).length c1, vp, .bool true]) ∧ Rd w' (some ⟨g1, 0, none⟩) (filesV (kFiles s)) ∧ w'.ownsRow w.heap.size 9 1 vp (1 + (kFiles s).length + kExtra s) (strV (packetsL (kSize s) (kFiles s) (kExtra s))) ∧ Below w.heap.size w w' := by
  have hb0 : Below w.heap.size w (w.alloc (.cells #[.slice a s.D.length cap, .int .i64 s.sl, .int .i64 s.ex] 37)) := (Below.refl _ _).alloc (Nat.le_refl _) _
  have hbx0 : (w.alloc (.cells #[.slice a s.D.length cap, .int .i64 s.sl, .int .i64 s.ex] 37)).cell? ⟨w.heap.size, 0, none⟩ = some (.slice a s.D.length cap) := by simp
  have hbx1 : (w.alloc (.cells #[.slice a s.D.length cap, .int .i64 s.sl, .int .i64 s.ex] 37)).cell? ⟨w.heap.size, 1, none⟩ = some (.int .i64 s.sl) := by simp
  have hbx2 : (w.alloc (.cells #[.slice a s.D.length cap, .int .i64 s.sl, .int .i64 s.ex] 37)).cell? ⟨w.heap.size, 2, none⟩ = some (.int .i64 s.ex) := by simp
  obtain ⟨W0, hW0⟩ : ∃ W0, W0 = w.alloc (.cells #[.slice a s.D.length cap, .int .i64 s.sl, .int .i64 s.ex] 37) := ⟨_, rfl⟩
  rw [← hW0] at hb0 hbx0 hbx1 hbx2
  have hs0 : W0.heap.size = w.heap.size + 1 := by rw [hW0]; simp
  have hall : ∀ W, Below W0.heap.size W0 W → KOk W s a cap ∧ W.cell? ⟨w.heap.size, 0, none⟩ = some (.slice a s.D.length cap) ∧ W.cell? ⟨w.heap.size, 1, none⟩ = some (.int .i64 s.sl) ∧ W.cell? ⟨w.heap.size, 2, none⟩ = some (.int .i64 s.ex) := by
    intro W hW
    refine ⟨h.later (Below.next hb0 hW), ?_, ?_, ?_⟩
    · rw [hW.cell (by rw [hs0]; simp)]; exact hbx0
    · rw [hW.cell (by rw [hs0]; simp)]; exact hbx1
    · rw [hW.cell (by rw [hs0]; simp)]; exact hbx2
  have HA := hid_of hall
  have HW := hid_of hW0
  have HB0 := hid_of hb0
  obtain ⟨k1, k2, k3⟩ := kFiles_short s
  obtain ⟨z0, z1, z2, z3⟩ := kSize_facts s
  have xlt : kExtra s < 21 := pickN_lt s.ex 21 (by omega)
  have hFs := kfiles_walk s a cap W0 (hall W0 (Below.refl _ _)).1
  have HFS := hid_of hFs
  have K1 := hid_of k1
  have hgood := kSet_good s
  have HG := hid_of hgood
  unfold kV
  unfold kV at HFS
  clear hall hW0 hb0 hbx0 hbx1 hbx2 hs0 h hFs k1 hgood
  go_enter Try.func16, Try.ntmps16
  go_wp2_with fail
  rw [← HW.out]
  refine HFS.out.mono ?_
  rintro e w1 ⟨v1, rfl, hown1, hb1⟩
  obtain ⟨g1, c1, rfl, hhand⟩ := handed_of hown1 (by omega) (fun f hf => by have := K1.out f hf; omega)
  obtain ⟨_, q0, q1, q2⟩ := HA.out w1 hb1
  have hcr := fun W (hW : Below w1.heap.size w1 W) => Create_ok (kFiles s) ((kSize s : Nat) : Int) ((kExtra s : Nat) : Int) (kSize s) (kExtra s) (some ⟨g1, 0, none⟩) c1 rfl rfl z0 (by omega) z2 (by omega) z3 HG.out W ⟨hhand.rd.later (Nat.le_refl _) hW, hhand.cap1, hhand.short⟩
  have hks := fun W (hW : Below w1.heap.size w1 W) => kslice_walk s a cap W (HA.out W (Below.next hb1 hW)).1
  have hkx := fun W (hW : Below w1.heap.size w1 W) => kextra_walk s a cap W (HA.out W (Below.next hb1 hW)).1
  have hbx := fun W (hW : Below w1.heap.size w1 W) => (HA.out W (Below.next hb1 hW)).2
  unfold kV at hks hkx
  have C1 := hid_of hcr
  have C2 := hid_of hks
  have C3 := hid_of hkx
  have C4 := hid_of hbx
  have C5 := hid_of hhand.rd
  have C6 := hid_of (Below.next HB0.out hb1)
  obtain ⟨nf, hnf⟩ : ∃ n, n = (kFiles s).length := ⟨_, rfl⟩
  rw [← hnf] at C1 k2 k3 ⊢
  obtain ⟨sz, hsz⟩ : ∃ n, n = kSize s := ⟨_, rfl⟩
  obtain ⟨ex, hexx⟩ : ∃ n, n = kExtra s := ⟨_, rfl⟩
  rw [← hsz, ← hexx] at C1
  rw [← hsz] at C2
  rw [← hexx] at C3
  have hcur : Below w1.heap.size w1 w1 := Below.refl _ _
  have HSZ := hid_of hsz
  have HEX := hid_of hexx
  have HNF := hid_of hnf
  rw [← hexx] at xlt
  clear hcr hks hkx hbx hhand hown1 hb1 hnf hsz hexx z0 z1 z2 z3 HFS HA
  go_wp2_with fail
  go_region_with (first
    | (go_at_call 17; refine (C2.out _ ?_).mono ?_; (first | exact hcur.drew | exact hcur); rintro e w2 ⟨rfl, hb2⟩; have hcur : Below w1.heap.size w1 w2 := (by first | exact Below.next hcur.drew hb2 | exact Below.next hcur hb2); obtain ⟨q0, q1, q2⟩ := C4.out w2 hcur)
    | (go_at_call 38; refine (C3.out _ ?_).mono ?_; (first | exact hcur.drew | exact hcur); rintro e w2 ⟨rfl, hb2⟩; have hcur : Below w1.heap.size w1 w2 := (by first | exact Below.next hcur.drew hb2 | exact Below.next hcur hb2); obtain ⟨q0, q1, q2⟩ := C4.out w2 hcur)
    | (go_at_call 10; refine (C1.out _ ?_).mono ?_; (first | exact hcur.drew | exact hcur); rintro e w2 ⟨vp, rfl, hownp, hb2⟩; obtain ⟨ap, cp, rfl, _, _, _⟩ := ownsRow_rd hownp; have hcs := hcur.size; have hcur : Below w1.heap.size w1 w2 := (by first | exact Below.next hcur.drew hb2 | exact Below.next hcur hb2); obtain ⟨q0, q1, q2⟩ := C4.out w2 hcur))
  all_goals
    go_wp2_with fail
    refine (C3.out _ (by first | exact hcur | exact hcur.drew)).mono ?_
    rintro e w5 ⟨rfl, hb5⟩
    have hfin := Below.next hcur hb5
    have hownf := ownsRow_later hownp (Nat.le_refl _) hb5
    have hbase := ownsRow_base (base' := w.heap.size) (Nat.le_trans C6.out.size hcs) hownf
    go_wp2_with fail
    go_ret3
    refine ⟨g1, c1, .slice ap (1 + nf + ex) cp, ?_, C5.out.later (Nat.le_refl _) hfin, ?_, Below.next C6.out hfin⟩
    · rw [← HNF.out]; rfl
    · rw [← HNF.out, ← HEX.out, ← HSZ.out]; exact hbase
end Go.Proofs.Ytonjphollmdicaa
