import Derived.Test.YtonjphollmdicaaDoorB00
import Derived.Test.YtonjphollmdicaaDoorB07
import Derived.Deep.RegionWith
namespace Go.Proofs.YtonjphollmdicaaDoor
open Go.ChangeShapes Go.WideShapes Go.ChangeAt Go.RowKit

set_option maxRecDepth 100000 in
theorem kcreated_full (w : World) :
    Calls Tryd.prog 11 #[] w fun e w' => ∃ ad c, e = .returned (.slice (some ad) 3 c) ∧ Rd w' (some ad) (strV (packetsL 2 exFs 1)) ∧ Below w.heap.size w w' := by
  have hrd : Rd (w.alloc (.cells #[.string ⟨#[97]⟩, .string ⟨#[0, 1, 0, 2]⟩] 43)) (some ⟨w.heap.size, 0, none⟩) (filesV exFs) := by
    intro k u hk
    refine ⟨w.heap.size, 0, rfl, ?_⟩
    rcases k with _ | _ | k
    · simp [filesV, exFs] at hk; subst hk; simp [str]
    · simp [filesV, exFs] at hk; subst hk; simp [str]
    · simp [filesV, exFs] at hk
  have hC := Create_ok exFs 2 1 2 1 (some ⟨w.heap.size, 0, none⟩) 1 rfl rfl (by omega) (by omega) (by omega) (by omega) (by decide) (by decide +kernel) _ ⟨hrd, by simp [exFs], by simp [exFs]⟩
  have hb0 : Below w.heap.size w (w.alloc (.cells #[.string ⟨#[97]⟩, .string ⟨#[0, 1, 0, 2]⟩] 43)) := (Below.refl _ _).alloc (Nat.le_refl _) _
  have HC := hid_of hC
  have HB := hid_of hb0
  clear hC hb0 hrd
  have hpk : packetsL 2 exFs 1 = [sealL 77 (setL 2 exFs) (mainL 2 exFs), sealL 70 (setL 2 exFs) (bodyL 2 exFs 0), rPacketL 2 exFs 1 0] := rfl
  have l0 : (sealL 77 (setL 2 exFs) (mainL 2 exFs)).length = 33 := by rw [sealL_len, mainL_len]; rfl
  have l1 : (sealL 70 (setL 2 exFs) (bodyL 2 exFs 0)).length = 51 := by rw [sealL_len, bodyL_len 2 exFs 0 (by omega)]; rfl
  have l2 : (rPacketL 2 exFs 1 0).length = 26 := by unfold rPacketL extraBodyL; rw [sealL_len, List.length_append, numBytes_len, textL_len, extraL_len]
  have HP := hid_of hpk
  obtain ⟨p0, hp0⟩ : ∃ x, x = sealL 77 (setL 2 exFs) (mainL 2 exFs) := ⟨_, rfl⟩
  obtain ⟨p1, hp1⟩ : ∃ x, x = sealL 70 (setL 2 exFs) (bodyL 2 exFs 0) := ⟨_, rfl⟩
  obtain ⟨p2, hp2⟩ : ∃ x, x = rPacketL 2 exFs 1 0 := ⟨_, rfl⟩
  rw [← hp0, ← hp1, ← hp2] at HP
  rw [← hp0] at l0
  rw [← hp1] at l1
  rw [← hp2] at l2
  have s0 := str_size p0
  have s1 := str_size p1
  have s2 := str_size p2
  rw [l0] at s0
  rw [l1] at s1
  rw [l2] at s2
  clear hpk hp0 hp1 hp2 l0 l1 l2
  go_enter Tryd.func11, Tryd.ntmps11
  go_wp2_with fail
  refine HC.out.mono ?_
  rintro e w1 ⟨v, rfl, hown, hb1⟩
  rw [HP.out] at hown
  obtain ⟨g, c, hv⟩ : ∃ g c, v = .slice (some ⟨g, 0, none⟩) 3 c := by
    rcases hown.2 with ⟨_, h1⟩ | ⟨g, c, cur, h1, _⟩
    · simp [exFs] at h1
    · exact ⟨_, _, h1⟩
  have hown' : w1.ownsRow (w.alloc (.cells #[.string ⟨#[97]⟩, .string ⟨#[0, 1, 0, 2]⟩] 43)).heap.size 9 1 (.slice (some ⟨g, 0, none⟩) 3 c) 3 (strV [p0, p1, p2]) := by rw [← hv]; exact hown
  have c0 : w1.cell? ⟨g, 0, none⟩ = some (.string (str p0)) := by rw [hown'.cellAt 0 (by omega)]; rfl
  have c1 : w1.cell? ⟨g, 1, none⟩ = some (.string (str p1)) := by rw [hown'.cellAt 1 (by omega)]; rfl
  have c2 : w1.cell? ⟨g, 2, none⟩ = some (.string (str p2)) := by rw [hown'.cellAt 2 (by omega)]; rfl
  rw [hv]
  have hfin := Below.next HB.out hb1
  have hrdp : Rd w1 (some ⟨g, 0, none⟩) (strV (packetsL 2 exFs 1)) := by
    obtain ⟨a', c', e, hr⟩ := row_rd hown'
    cases e
    rw [HP.out]
    exact hr
  have HRDP := hid_of hrdp
  clear hown hown' hv hb1 HC HB HP hrdp
  go_wp2_with fail
  go_ret
  exact ⟨_, _, rfl, HRDP.out, hfin⟩
theorem kcreated_walk (w : World) :
    Calls Tryd.prog 11 #[] w fun e w' => ∃ ad c, e = .returned (.slice (some ad) 3 c) ∧ Below w.heap.size w w' :=
  (kcreated_full w).mono fun _ _ ⟨ad, c, h1, _, h3⟩ => ⟨ad, c, h1, h3⟩

theorem kFiles_short (s : KSet) : (∀ f ∈ kFiles s, f.1.length = 2 ∧ f.2.length ≤ 30) ∧ 1 ≤ (kFiles s).length ∧ (kFiles s).length ≤ 4 := by
  have hone : (∀ f ∈ kOne s, f.1.length = 2 ∧ f.2.length ≤ 30) ∧ 1 ≤ (kOne s).length ∧ (kOne s).length ≤ 4 := by
    unfold kOne
    split
    · simp [kName]
    · rename_i h
      refine ⟨?_, by simp [kRaw]; omega, by simp [kRaw, kCount]; omega⟩
      intro f hf
      simp only [kRaw, List.mem_map] at hf
      obtain ⟨i, _, rfl⟩ := hf
      simp only [kFile, kName, List.length_take]
      refine ⟨rfl, by omega⟩
  unfold kFiles
  cases h : kOne s with
  | nil => rw [h] at hone; simp at hone
  | cons f r =>
    rw [h] at hone
    simp only [kFix]
    refine ⟨?_, by simp, by have := hone.2.2; simpa using this⟩
    intro g hg
    rcases List.mem_cons.1 hg with rfl | hg
    · split
      · exact ⟨(hone.1 f (by simp)).1, by simp⟩
      · exact hone.1 f (by simp)
    · exact hone.1 g (by simp [hg])

theorem kSize_facts (s : KSet) : 0 < kSize s ∧ kSize s ≤ 8 ∧ kSize s % 2 = 0 ∧ sliceSize ((kSize s : Nat) : Int) = true := by
  have h := pickN_lt s.sl 4 (by omega)
  unfold kSize
  refine ⟨by omega, by omega, by omega, ?_⟩
  unfold sliceSize
  exact decide_eq_true (by omega)

/-- the names f0, f1, .. are all different -/
theorem kName_inj {i j : Nat} (hi : i < 4) (hj : j < 4) (h : kName i = kName j) : i = j := by
  have key : ∀ a, a < 4 → ∀ b, b < 4 → kName a = kName b → a = b := by decide +kernel
  exact key i hi j hj h

theorem kFiles_name (s : KSet) (i : Nat) (f : FileL) (h : (kFiles s)[i]? = some f) : f.1 = kName i := by
  have hone : ∀ (i : Nat) (f : FileL), (kOne s)[i]? = some f → f.1 = kName i := by
    intro i f h
    unfold kOne at h
    split at h
    · cases i with
      | zero => simp at h; rw [← h]
      | succ i => simp at h
    · have hl := (List.getElem?_eq_some_iff.1 h).1
      simp only [kRaw, List.length_map, List.length_range] at hl
      simp [kRaw, hl] at h
      rw [← h]
      rfl
  unfold kFiles at h
  cases hk : kOne s with
  | nil => rw [hk] at h; simp [kFix] at h
  | cons f0 r =>
    rw [hk] at h hone
    simp only [kFix] at h
    cases i with
    | zero =>
      have h3 := hone 0 f0 rfl
      simp only [List.getElem?_cons_zero, Option.some.injEq] at h
      rw [← h]
      split
      · exact h3
      · exact h3
    | succ i => exact hone (i + 1) f h

theorem slices_15 (len size : Nat) (h : len ≤ 30) (h2 : 2 ≤ size) : slicesOfN len size ≤ 15 := by
  unfold slicesOfN
  have : (len + size - 1) / size < 16 := (Nat.div_lt_iff_lt_mul (by omega)).2 (by omega)
  omega
theorem count_15 (fs : List FileL) (size : Nat) (h2 : 2 ≤ size) (h : ∀ f ∈ fs, f.2.length ≤ 30) : countL fs size ≤ 15 * fs.length := by
  induction fs with
  | nil => simp [countL]
  | cons f r ih =>
    have h1 := ih (fun g hg => h g (by simp [hg]))
    have h3 := slices_15 f.2.length size (h f (by simp)) h2
    simp only [countL, List.map_cons, List.sum_cons, List.length_cons] at h1 ⊢
    omega
theorem kFiles_first (s : KSet) : ∃ f r, kFiles s = f :: r ∧ f.2 ≠ [] := by
  unfold kFiles
  cases h : kOne s with
  | nil =>
    have h1 := (kFiles_short s).2.1
    unfold kFiles at h1
    rw [h] at h1
    simp [kFix] at h1
  | cons f r =>
    refine ⟨_, r, rfl, ?_⟩
    split
    · simp
    · assumption
theorem kCount_facts (s : KSet) : 1 ≤ countL (kFiles s) (kSize s) ∧ countL (kFiles s) (kSize s) ≤ 60 := by
  obtain ⟨h1, h2, h3⟩ := kFiles_short s
  obtain ⟨z0, z1, z2, _⟩ := kSize_facts s
  have hc := count_15 (kFiles s) (kSize s) (by omega) (fun f hf => (h1 f hf).2)
  refine ⟨?_, by omega⟩
  obtain ⟨f, r, hf, hne⟩ := kFiles_first s
  rw [hf]
  have hl : 0 < f.2.length := List.length_pos_iff.2 hne
  have : 1 ≤ slicesOfN f.2.length (kSize s) := by
    unfold slicesOfN
    exact (Nat.le_div_iff_mul_le z0).2 (by omega)
  simp only [countL, List.map_cons, List.sum_cons]
  omega

theorem kSet_good (s : KSet) : goodSet (kFiles s) (kSize s) = true := by
  obtain ⟨h1, h2, h3⟩ := kFiles_short s
  obtain ⟨c1, c2⟩ := kCount_facts s
  unfold goodSet
  rw [decide_eq_true c1, decide_eq_true c2, Bool.and_true, Bool.and_true]
  unfold isSetL
  rw [decide_eq_true ⟨h2, by omega⟩, Bool.true_and, List.all_eq_true]
  intro i hi
  have hi' : i < (kFiles s).length := by simpa using hi
  unfold okAt
  rw [List.getElem?_eq_getElem hi']
  have hf := h1 _ (List.getElem_mem hi')
  simp only [Bool.and_eq_true]
  refine ⟨decide_eq_true ⟨by omega, by omega, by omega⟩, ?_⟩
  unfold hasNameL
  rw [Bool.not_eq_true', List.any_eq_false]
  intro f hf'
  obtain ⟨j, hj, rfl⟩ := List.mem_iff_getElem.1 hf'
  rw [List.length_take] at hj
  rw [List.getElem_take, kFiles_name s j _ (List.getElem?_eq_getElem (by omega)), kFiles_name s i _ (List.getElem?_eq_getElem hi')]
  intro e
  have := kName_inj (i := j) (j := i) (by omega) (by omega) (by simpa using e)
  omega

set_option maxRecDepth 100000 in
set_option maxHeartbeats 2000000 in
theorem kmade_walk (s : KSet) (a : Option Addr) (cap : Nat) (w : World) (h : KOk w s a cap) :
    Calls Tryd.prog 5 #[kV s a cap] w fun e w' => ∃ g1 c1 vp, e = .returned (.tuple #[.slice (some ⟨g1, 0, none⟩) (kFiles s).length c1, vp, .bool true]) ∧ Rd w' (some ⟨g1, 0, none⟩) (filesV (kFiles s)) ∧ w'.ownsRow w.heap.size 9 1 vp (1 + (kFiles s).length + kExtra s) (strV (packetsL (kSize s) (kFiles s) (kExtra s))) ∧ Below w.heap.size w w' := by
  have hb0 : Below w.heap.size w (w.alloc (.cells #[.slice a s.D.length cap, .int .i64 s.sl, .int .i64 s.ex] 24)) := (Below.refl _ _).alloc (Nat.le_refl _) _
  have hbx0 : (w.alloc (.cells #[.slice a s.D.length cap, .int .i64 s.sl, .int .i64 s.ex] 24)).cell? ⟨w.heap.size, 0, none⟩ = some (.slice a s.D.length cap) := by simp
  have hbx1 : (w.alloc (.cells #[.slice a s.D.length cap, .int .i64 s.sl, .int .i64 s.ex] 24)).cell? ⟨w.heap.size, 1, none⟩ = some (.int .i64 s.sl) := by simp
  have hbx2 : (w.alloc (.cells #[.slice a s.D.length cap, .int .i64 s.sl, .int .i64 s.ex] 24)).cell? ⟨w.heap.size, 2, none⟩ = some (.int .i64 s.ex) := by simp
  obtain ⟨W0, hW0⟩ : ∃ W0, W0 = w.alloc (.cells #[.slice a s.D.length cap, .int .i64 s.sl, .int .i64 s.ex] 24) := ⟨_, rfl⟩
  rw [← hW0] at hb0 hbx0 hbx1 hbx2
  have hs0 : W0.heap.size = w.heap.size + 1 := by rw [hW0]; simp
  have hall : ∀ W, Below W0.heap.size W0 W → KOk W s a cap ∧ W.cell? ⟨w.heap.size, 0, none⟩ = some (.slice a s.D.length cap) ∧ W.cell? ⟨w.heap.size, 1, none⟩ = some (.int .i64 s.sl) ∧ W.cell? ⟨w.heap.size, 2, none⟩ = some (.int .i64 s.ex) := by
    intro W hW
    refine ⟨h.later (Below.next hb0 hW), ?_, ?_, ?_⟩
    · rw [hW.cell (by rw [hs0]; simp)]; exact hbx0
    · rw [hW.cell (by rw [hs0]; simp)]; exact hbx1
    · rw [hW.cell (by rw [hs0]; simp)]; exact hbx2
  have HA := hid_of hall
  have HW := hid_of hW0
  have HB0 := hid_of hb0
  obtain ⟨k1, k2, k3⟩ := kFiles_short s
  obtain ⟨z0, z1, z2, z3⟩ := kSize_facts s
  have xlt : kExtra s < 21 := pickN_lt s.ex 21 (by omega)
  have hFs := kfiles_walk s a cap W0 (hall W0 (Below.refl _ _)).1
  have HFS := hid_of hFs
  have K1 := hid_of k1
  have hgood := kSet_good s
  have HG := hid_of hgood
  unfold kV
  unfold kV at HFS
  clear hall hW0 hb0 hbx0 hbx1 hbx2 hs0 h hFs k1 hgood
  go_enter Tryd.func5, Tryd.ntmps5
  go_wp2_with fail
  rw [← HW.out]
  refine HFS.out.mono ?_
  rintro e w1 ⟨v1, rfl, hown1, hb1⟩
  obtain ⟨g1, c1, rfl, hhand⟩ := handed_of hown1 (by omega) (fun f hf => by have := K1.out f hf; omega)
  obtain ⟨_, q0, q1, q2⟩ := HA.out w1 hb1
  have hcr := fun W (hW : Below w1.heap.size w1 W) => Create_ok (kFiles s) ((kSize s : Nat) : Int) ((kExtra s : Nat) : Int) (kSize s) (kExtra s) (some ⟨g1, 0, none⟩) c1 rfl rfl z0 (by omega) z2 (by omega) z3 HG.out W ⟨hhand.rd.later (Nat.le_refl _) hW, hhand.cap1, hhand.short⟩
  have hks := fun W (hW : Below w1.heap.size w1 W) => kslice_walk s a cap W (HA.out W (Below.next hb1 hW)).1
  have hkx := fun W (hW : Below w1.heap.size w1 W) => kextra_walk s a cap W (HA.out W (Below.next hb1 hW)).1
  have hbx := fun W (hW : Below w1.heap.size w1 W) => (HA.out W (Below.next hb1 hW)).2
  unfold kV at hks hkx
  have C1 := hid_of hcr
  have C2 := hid_of hks
  have C3 := hid_of hkx
  have C4 := hid_of hbx
  have C5 := hid_of hhand.rd
  have C6 := hid_of (Below.next HB0.out hb1)
  obtain ⟨nf, hnf⟩ : ∃ n, n = (kFiles s).length := ⟨_, rfl⟩
  rw [← hnf] at C1 k2 k3 ⊢
  obtain ⟨sz, hsz⟩ : ∃ n, n = kSize s := ⟨_, rfl⟩
  obtain ⟨ex, hexx⟩ : ∃ n, n = kExtra s := ⟨_, rfl⟩
  rw [← hsz, ← hexx] at C1
  rw [← hsz] at C2
  rw [← hexx] at C3
  have hcur : Below w1.heap.size w1 w1 := Below.refl _ _
  have HSZ := hid_of hsz
  have HEX := hid_of hexx
  have HNF := hid_of hnf
  rw [← hexx] at xlt
  clear hcr hks hkx hbx hhand hown1 hb1 hnf hsz hexx z0 z1 z2 z3 HFS HA
  go_wp2_with fail
  go_region_with (first
    | (go_at_call 9; refine (C2.out _ ?_).mono ?_; (first | exact hcur.drew | exact hcur); rintro e w2 ⟨rfl, hb2⟩; have hcur : Below w1.heap.size w1 w2 := (by first | exact Below.next hcur.drew hb2 | exact Below.next hcur hb2); obtain ⟨q0, q1, q2⟩ := C4.out w2 hcur)
    | (go_at_call 6; refine (C3.out _ ?_).mono ?_; (first | exact hcur.drew | exact hcur); rintro e w2 ⟨rfl, hb2⟩; have hcur : Below w1.heap.size w1 w2 := (by first | exact Below.next hcur.drew hb2 | exact Below.next hcur hb2); obtain ⟨q0, q1, q2⟩ := C4.out w2 hcur)
    | (go_at_call 13; refine (C1.out _ ?_).mono ?_; (first | exact hcur.drew | exact hcur); rintro e w2 ⟨vp, rfl, hownp, hb2⟩; obtain ⟨ap, cp, rfl, _, _, _⟩ := ownsRow_rd hownp; have hcs := hcur.size; have hcur : Below w1.heap.size w1 w2 := (by first | exact Below.next hcur.drew hb2 | exact Below.next hcur hb2); obtain ⟨q0, q1, q2⟩ := C4.out w2 hcur))
  all_goals
    go_wp2_with fail
    refine (C3.out _ (by first | exact hcur | exact hcur.drew)).mono ?_
    rintro e w5 ⟨rfl, hb5⟩
    have hfin := Below.next hcur hb5
    have hownf := ownsRow_later hownp (Nat.le_refl _) hb5
    have hbase := ownsRow_base (base' := w.heap.size) (Nat.le_trans C6.out.size hcs) hownf
    go_wp2_with fail
    go_ret3
    refine ⟨g1, c1, .slice ap (1 + nf + ex) cp, ?_, C5.out.later (Nat.le_refl _) hfin, ?_, Below.next C6.out hfin⟩
    · rw [← HNF.out]; rfl
    · rw [← HNF.out, ← HEX.out, ← HSZ.out]; exact hbase
end Go.Proofs.YtonjphollmdicaaDoor
namespace Go.Proofs.YtonjphollmdicaaDoor
open Go.ChangeShapes Go.WideShapes Go.ChangeAt Go.RowKit

theorem kslice_in (len size k i : Nat) (h0 : 0 < size) (hi : i = k * size) : (i < len → k < slicesOfN len size) ∧ (¬ i < len → k ≤ slicesOfN len size → k = slicesOfN len size) := by
  have h1 := slices_ge len size h0
  have h2 := slices_lt len size
  refine ⟨fun h => ?_, fun h hk => ?_⟩
  · rcases Nat.lt_or_ge k (slicesOfN len size) with h' | h'
    · exact h'
    · have := Nat.mul_le_mul_right size h'
      omega
  · rcases Nat.lt_or_ge k (slicesOfN len size) with h' | h'
    · have := Nat.mul_le_mul_right size (show k + 1 ≤ slicesOfN len size from h')
      rw [Nat.succ_mul] at this
      omega
    · omega
theorem pad_end (len size z : Nat) (h0 : 0 < size) (hz : len + z ≤ slicesOfN len size * size) (h : (len + z) % size = 0) : len + z = slicesOfN len size * size := by
  have h2 := slices_lt len size
  have e := Nat.div_add_mod (len + z) size
  rw [h, Nat.add_zero, Nat.mul_comm] at e
  rcases Nat.lt_or_ge ((len + z) / size) (slicesOfN len size) with h' | h'
  · have := Nat.mul_le_mul_right size (show (len + z) / size + 1 ≤ slicesOfN len size from h')
    rw [Nat.succ_mul] at this
    omega
  · have := Nat.mul_le_mul_right size h'
    omega
theorem slicesL_take (size : Nat) (fs : List FileL) (j : Nat) (h : j < fs.length) : slicesL size (fs.take (j + 1)) = slicesL size (fs.take j) ++ cutL fs[j].2 size := by
  unfold slicesL
  rw [take_snoc fs j h, List.flatMap_append]
  simp
theorem slices_all_le (size : Nat) (h0 : 0 < size) : ∀ (fs : List FileL), (∀ f ∈ fs, f.2.length ≤ 400) → (slicesL size fs).length ≤ 400 * fs.length
  | [], _ => by simp [slicesL]
  | f :: r, h => by
    have h1 := slices_all_le size h0 r (fun g hg => h g (List.mem_cons_of_mem _ hg))
    have h2 := h f (List.mem_cons_self ..)
    have h3 := slicesOfN_le f.2.length size h0
    unfold slicesL at h1 ⊢
    rw [List.flatMap_cons, List.length_append, (cutL_len f.2 size h0).1, List.length_cons]
    omega

set_option maxRecDepth 100000 in
set_option maxHeartbeats 2000000 in
theorem kcut_walk (fs : List FileL) (size : Nat) (a : Option Addr) (cap : Nat) (h0 : 0 < size) (h1 : size ≤ 32) (hn : fs.length ≤ 6) (hd : ∀ f ∈ fs, f.2.length ≤ 400) (w : World) (hrd : Rd w a (filesV fs)) :
    Calls Tryd.prog 8 #[.slice a fs.length cap, .int .i64 (size : Int)] w fun e w' => ∃ v, e = .returned v ∧ w'.ownsRow w.heap.size 9 1 v (slicesL size fs).length (strV (slicesL size fs)) ∧ Below w.heap.size w w' := by
  obtain ⟨i0, hi, hz0, hz1, hz2⟩ := info_parts Tryd.infoS
  have HRD := hid_of hrd
  have HD := hid_of hd
  clear hrd hd
  go_enter Tryd.func8, Tryd.ntmps8
  go_wp2_with fail
  go_loopw [5, 6, 7, 8] (fun l i _ _ wr => ∃ j : Nat, j ≤ fs.length ∧ i = .int .i64 (j : Int) ∧ wr.ownsRow w.heap.size 9 1 l (slicesL size (fs.take j)).length (strV (slicesL size (fs.take j))) ∧ Below w.heap.size w wr)
    (fun _ i _ _ _ => fs.length - (intOf i).toNat)
  case atStart => exact ⟨0, by omega, rfl, World.ownsRow_nil _ _ _ _, Below.refl _ _⟩
  case round =>
    obtain ⟨j, hj, rfl, hownr, hbl⟩ := hrel
    by_cases hlt : j < fs.length
    · obtain ⟨b, off, rfl, hc1, hc2⟩ := fileCells HRD.out (Nat.le_refl _) hbl j hlt
      have hdl := HD.out _ (List.getElem_mem hlt)
      have hsl := slices_all_le size h0 (fs.take j) (fun f hf => HD.out f (List.mem_of_mem_take hf))
      rw [List.length_take, Nat.min_eq_left hj] at hsl
      have hst := slicesL_take size fs j hlt
      obtain ⟨data, hdata⟩ : ∃ x, x = fs[j].2 := ⟨_, rfl⟩
      rw [← hdata] at hc2 hdl hst
      obtain ⟨S, hS⟩ : ∃ x, x = slicesL size (fs.take j) := ⟨_, rfl⟩
      rw [← hS] at hownr hsl hst
      have HST := hid_of hst
      have HB := hid_of hbl
      have HO := hid_of hownr
      have hnl := slicesOfN_le data.length size h0
      have hge := slices_ge data.length size h0
      have hsm := slices_lt data.length size
      have HPE := hid_of (fun z => pad_end data.length size z h0)
      have HSI := hid_of (fun k i hi => kslice_in (slicesOfN data.length size * size) size k i h0 hi)
      have hcl := (cutL_len data size h0).1
      have HCL := hid_of hcl
      clear hst hbl hownr hS hdata hcl
      obtain ⟨N, hN⟩ : ∃ x, x = slicesOfN data.length size * size := ⟨_, rfl⟩
      rw [← hN] at hge hsm HPE HSI
      have HN := hid_of hN
      clear hN
      go_wp2_with fail
      go_loop [7] (fun d => ∃ z : Nat, data.length + z ≤ N ∧ d = .string (str (data ++ List.replicate z 0)))
        (fun d => N - (match d with | .string s => s.size | _ => 0))
      case atStart => exact ⟨0, by omega, by simp⟩
      case round =>
        obtain ⟨z, hz, rfl⟩ := hrel
        have hls : (str (data ++ List.replicate z 0)).size = data.length + z := by rw [str_size]; simp
        have hrem : ((data.length : Int) + (z : Int)) % (size : Int) = (((data.length + z) % size : Nat) : Int) := by
          rw [Int.natCast_emod, Int.natCast_add]
        have hPE := HPE.out z hz
        obtain ⟨d0, hd0⟩ : ∃ x, x = data ++ List.replicate z 0 := ⟨_, rfl⟩
        rw [← hd0] at hls ⊢
        have HD0 := hid_of hd0
        clear hd0
        by_cases hm : (data.length + z) % size = 0
        · have hm' : ((data.length : Int) + (z : Int)) % (size : Int) = 0 := by rw [hrem, hm]; rfl
          have hzN := hPE hm
          have hd0 : d0 = padL data size := by
            rw [HD0.out]
            unfold padL
            rw [← HN.out]
            congr 2
            omega
          have HD1 := hid_of hd0
          have hcm : ∀ k, k < slicesOfN data.length size → (str d0).extract (k * size) (k * size + size) = str (pieceL d0 size k) := by
            intro k _
            rw [str_extract, Nat.add_sub_cancel_left]
            rfl
          have HCM := hid_of hcm
          have hmN : (N : Int) % (size : Int) = 0 := by rw [← hzN]; simpa using hm'
          rw [hzN] at hls
          clear hrem hm hPE hd0 hcm hm' hz hzN HPE HD0
          go_wp2_with fail
          go_loopw [5, 8] (fun l k wr2 => ∃ q i' : Nat, q ≤ slicesOfN data.length size ∧ i' ≤ N ∧ Hid (i' = q * size) ∧ k = .int .i64 (i' : Int) ∧ wr2.ownsRow w.heap.size 9 1 l (S.length + q) (strV (S ++ (cutL data size).take q)) ∧ Below w.heap.size w wr2)
            (fun _ k _ => N - (intOf k).toNat)
          case atStart => exact ⟨0, 0, by omega, by omega, hid_of (by simp), rfl, by simpa using HO.out, HB.out⟩
          case round =>
            obtain ⟨q, i', hq, hi', hiq, rfl, hown2, hbl2⟩ := hrel
            have hsz := hbl2.size
            have HB2 := hid_of hbl2
            have HO2 := hid_of hown2
            clear hbl2 hown2
            by_cases hlt2 : i' < N
            · have hqn : q < slicesOfN data.length size := by
                rcases Nat.lt_or_ge q (slicesOfN data.length size) with h | h
                · exact h
                · have h2 : slicesOfN data.length size * size ≤ q * size := Nat.mul_le_mul_right _ h
                  rw [← hiq.out, ← HN.out] at h2
                  omega
              have hq1 : i' + size = (q + 1) * size := by rw [hiq.out, Nat.succ_mul]
              have hle : i' + size ≤ N := by
                have h2 : (q + 1) * size ≤ slicesOfN data.length size * size := Nat.mul_le_mul_right _ hqn
                rw [← hq1, ← HN.out] at h2
                exact h2
              have hex := HCM.out q hqn
              rw [← hiq.out] at hex
              have hnx : (cutL data size).take (q + 1) = (cutL data size).take q ++ [pieceL d0 size q] := by
                rw [take_snoc _ q (by rw [HCL.out]; exact hqn)]
                congr 2
                rw [HD1.out]
                simp [cutL]
              obtain ⟨p, hp⟩ : ∃ p, p = pieceL d0 size q := ⟨_, rfl⟩
              rw [← hp] at hex hnx
              have HNX := hid_of hnx
              have HQ1 := hid_of hq1
              clear hnx hp hq1
              go_wp2_with (at_builtin; refine wpList_append_own _ rfl (.tmp 34) (.tmp 41) 22 rfl w.heap.size 9 i0 (.string ByteArray.empty) 1 16 Tryd.underlying22 hi hz0 hz1 hz2 rfl (by decide) _ _ _ rfl (HO2.out.alloc _) ⟨wr.heap.size, 0, none⟩ 1 1 [.string (str p)] rfl rfl (cell_one_new _ _ _) ?d2 ?d3 ?d4 ?d5 ?_)
              case d2 => intro u hu; simp at hu; subst hu; rfl
              case d3 => unfold maxLen; omega
              case d4 => omega
              case d5 => simp; omega
              intro v2 w2 hown3 hg2 _
              have hbl3 := below_step HB2.out hsz HO2.out hg2
              have HO3 := hid_of hown3
              have HB3 := hid_of hbl3
              clear hown3 hbl3 hg2
              go_wp2_with fail
              refine ⟨⟨q + 1, i' + size, by omega, by omega, HQ1, by go_num, ?_, HB3.out⟩, by simp [intOf]; omega⟩
              rw [HNX.out, ← List.append_assoc, strV_append]
              exact HO3.out
            · have hqe : q = slicesOfN data.length size := by
                rcases Nat.lt_or_ge q (slicesOfN data.length size) with h | h
                · have h2 : (q + 1) * size ≤ slicesOfN data.length size * size := Nat.mul_le_mul_right _ h
                  rw [Nat.succ_mul, ← hiq.out, ← HN.out] at h2
                  omega
                · omega
              have hfin : wr.ownsRow w.heap.size 9 1 u5 (slicesL size (fs.take (j + 1))).length (strV (slicesL size (fs.take (j + 1)))) := by
                rw [HST.out, List.length_append, HCL.out, ← hqe]
                have := HO2.out
                rw [List.take_of_length_le (by rw [HCL.out, hqe]; exact Nat.le_refl _)] at this
                exact this
              have HF := hid_of hfin
              clear hfin hqe
              go_wp2_with fail
              go_roundw
              case rel => exact ⟨j + 1, by omega, by go_num, HF.out, HB2.out⟩
              case measure => simp [intOf]; omega
        · have hm' : ((data.length : Int) + (z : Int)) % (size : Int) ≠ 0 := by rw [hrem]; omega
          have hz1 : data.length + z + 1 ≤ N := by
            rcases Nat.lt_or_ge (data.length + z) N with h | h
            · omega
            · have e : data.length + z = slicesOfN data.length size * size := by rw [← HN.out]; omega
              rw [e, Nat.mul_mod_left] at hm
              exact absurd rfl hm
          have hcat : str d0 ++ (ByteArray.mk #[0]) = str (data ++ List.replicate (z + 1) 0) := by
            have : str d0 ++ str [0] = str (d0 ++ [0]) := by rw [str_add, str_data]
            rw [List.replicate_succ', ← List.append_assoc, ← HD0.out]
            exact this
          clear hrem hm hPE
          go_wp2_with fail
          refine ⟨⟨z + 1, by omega, rfl⟩, ?_⟩
          show N - (str (data ++ List.replicate (z + 1) 0)).size < N - (str d0).size
          rw [hls, str_size, List.length_append, List.length_replicate]
          omega
    · obtain rfl : j = fs.length := by omega
      rw [List.take_length] at hownr
      have HO := hid_of hownr
      clear hownr
      go_wp2_with fail
      go_ret
      exact ⟨_, rfl, HO.out, hbl⟩
end Go.Proofs.YtonjphollmdicaaDoor
namespace Go.Proofs.YtonjphollmdicaaDoor

/-! one byte that is another one makes another hash -/
theorem hash_cancel {x y : Nat} (hx : x < P64) (hy : y < P64) (h : (x * 1099511628211) % P64 = (y * 1099511628211) % P64) : x = y := by
  have key : ∀ z, z < P64 → ((z * 1099511628211) % P64 * 14886173955864302971) % P64 = z := by
    intro z hz
    rw [Nat.mod_mul_mod, Nat.mul_assoc, show 1099511628211 * 14886173955864302971 = P64 * 887285111055 + 1 from by decide, Nat.mul_add, Nat.mul_one, ← Nat.mul_assoc, Nat.mul_comm z P64, Nat.mul_assoc, Nat.mul_add_mod, Nat.mod_eq_of_lt hz]
  rw [← key x hx, ← key y hy, h]
theorem byte_lt64 (c : UInt8) : c.toNat < 2 ^ 64 := Nat.lt_of_lt_of_le c.toNat_lt (by decide)
theorem xor_lt64 {h : Nat} (hh : h < P64) (c : UInt8) : h ^^^ c.toNat < P64 := Nat.xor_lt_two_pow (n := 64) hh (byte_lt64 c)
theorem xor_back (x c : Nat) : (x ^^^ c) ^^^ c = x := by rw [Nat.xor_assoc, Nat.xor_self, Nat.xor_zero]
theorem hashStep_inj {h h' : Nat} (hh : h < P64) (hh' : h' < P64) {c : UInt8} (e : hashStep h c = hashStep h' c) : h = h' := by
  have := hash_cancel (xor_lt64 hh c) (xor_lt64 hh' c) e
  rw [← xor_back h c.toNat, this, xor_back]
theorem hashStep_byte {h : Nat} (hh : h < P64) {c c' : UInt8} (e : hashStep h c = hashStep h c') : c = c' := by
  have := hash_cancel (xor_lt64 hh c) (xor_lt64 hh c') e
  refine UInt8.toNat_inj.1 ?_
  rw [← xor_back c.toNat h, Nat.xor_comm c.toNat h, this, Nat.xor_comm h c'.toNat, xor_back]
theorem hash_fold_lt (l : List UInt8) : ∀ h, h < P64 → l.foldl hashStep h < P64 := by
  induction l with
  | nil => intro h hh; exact hh
  | cons c r ih => intro h _; exact ih _ (hashStep_lt h c)
theorem hash_fold_ne (l : List UInt8) : ∀ h h', h < P64 → h' < P64 → h ≠ h' → l.foldl hashStep h ≠ l.foldl hashStep h' := by
  induction l with
  | nil => intro h h' _ _ hn; exact hn
  | cons c r ih => intro h h' hh hh' hn; exact ih _ _ (hashStep_lt h c) (hashStep_lt h' c) (fun e => hn (hashStep_inj hh hh' e))
theorem hash_change (p q : List UInt8) {a b : UInt8} (h : a ≠ b) : hashL (p ++ a :: q) ≠ hashL (p ++ b :: q) := by
  unfold hashL
  rw [List.foldl_append, List.foldl_append, List.foldl_cons, List.foldl_cons]
  have hp := hash_fold_lt p 14695981039346656037 (by decide)
  exact hash_fold_ne q _ _ (hashStep_lt _ _) (hashStep_lt _ _) (fun e => h (hashStep_byte hp e))
end Go.Proofs.YtonjphollmdicaaDoor
namespace Go.Proofs.YtonjphollmdicaaDoor

/-! a packet that was made is found again -/
theorem byteAt_nat (n k : Nat) : (byteAt n k).toNat = n / 256 ^ k % 256 := by
  unfold byteAt
  rw [UInt8.toNat_ofNat', Nat.pow_mul]
theorem num_bytes_fold (n : Nat) : ∀ (k m : Nat), (numBytes n k).foldl numStep (m % P64) = (m * 256 ^ k + n % 256 ^ k) % P64
  | 0, m => by simp [numBytes, Nat.mod_one]
  | k + 1, m => by
    have e : numStep (m % P64) (byteAt n k) = (m * 256 + n / 256 ^ k % 256) % P64 := by
      unfold numStep
      rw [byteAt_nat, Nat.add_mod, Nat.mod_mul_mod, ← Nat.add_mod]
    simp only [numBytes, List.foldl_cons]
    rw [e, num_bytes_fold n k]
    congr 1
    rw [Nat.add_mul, Nat.mul_assoc, ← Nat.pow_succ', Nat.add_assoc]
    congr 1
    rw [Nat.pow_succ, Nat.mod_mul, Nat.mul_comm (n / 256 ^ k % 256), Nat.add_comm]
theorem num_bytes (n k : Nat) (hn : n < 256 ^ k) (h64 : n < P64) : numL (numBytes n k) = n := by
  have := num_bytes_fold n k 0
  rw [Nat.zero_mod, Nat.zero_mul, Nat.zero_add, Nat.mod_eq_of_lt hn, Nat.mod_eq_of_lt h64] at this
  exact this

theorem seal_parts (k : UInt8) (set : Nat) (b : List UInt8) : (sealL k set b).take 3 = [83, 65, 76] ∧ (sealL k set b).getD 3 0 = k ∧ ((sealL k set b).drop 4).take 8 = numBytes set 8 ∧ ((sealL k set b).drop 12).take 2 = numBytes b.length 2 := by
  have h8 := numBytes_len set 8
  have h2 := numBytes_len b.length 2
  have e : sealL k set b = [83, 65, 76, k] ++ (numBytes set 8 ++ (numBytes b.length 2 ++ (b ++ numBytes (hashL (headL k set b)) 8))) := by
    unfold sealL
    conv => lhs; lhs; unfold headL
    simp only [List.append_assoc]
  rw [e]
  refine ⟨rfl, rfl, ?_, ?_⟩
  · show List.take 8 (numBytes set 8 ++ _) = _
    rw [List.take_append_of_le_length (by omega), List.take_of_length_le (by omega)]
  · show List.take 2 (List.drop 8 (numBytes set 8 ++ _)) = _
    rw [List.drop_append_of_le_length (by omega), List.drop_of_length_le (by omega), List.nil_append, List.take_append_of_le_length (by omega), List.take_of_length_le (by omega)]
theorem head_len (k : UInt8) (set : Nat) (b : List UInt8) : (headL k set b).length = 14 + b.length := by
  unfold headL
  simp only [List.length_append, numBytes_len, List.length_cons, List.length_nil]
theorem right_seal {k : UInt8} {set : Nat} {b : List UInt8} (hk : kindL k = true) (hs : set < P64) (hb : b.length < 65536) : rightL (sealL k set b) = some (⟨k, set, b⟩, 22 + b.length) := by
  obtain ⟨p1, p2, p3, p4⟩ := seal_parts k set b
  have hl := head_len k set b
  have hb64 : b.length < P64 := Nat.lt_of_lt_of_le hb (by decide)
  have hN : bodyN (sealL k set b) = b.length := by
    unfold bodyN
    rw [p4, num_bytes _ 2 (by simpa using hb) hb64]
  have hlen : (sealL k set b).length = 22 + b.length := by
    unfold sealL
    rw [List.length_append, hl, numBytes_len]
    omega
  have ht : (sealL k set b).take (14 + b.length) = headL k set b := by
    unfold sealL
    rw [List.take_append_of_le_length (by omega), List.take_of_length_le (by omega)]
  have hd : ((sealL k set b).drop (14 + b.length)).take 8 = numBytes (hashL (headL k set b)) 8 := by
    unfold sealL
    rw [List.drop_append_of_le_length (by omega), List.drop_of_length_le (by omega), List.nil_append, List.take_of_length_le (by rw [numBytes_len]; omega)]
  have hh : numL (numBytes (hashL (headL k set b)) 8) = hashL (headL k set b) := num_bytes _ 8 (hashL_lt _) (hashL_lt _)
  have hbody : ((sealL k set b).drop 14).take b.length = b := by
    unfold sealL headL
    have e : ([83, 65, 76, k] ++ numBytes set 8 ++ numBytes b.length 2).length = 14 := by simp [numBytes_len]
    rw [List.append_assoc ([83, 65, 76, k] ++ numBytes set 8 ++ numBytes b.length 2), List.drop_append_of_le_length (by rw [e]; exact Nat.le_refl _), List.drop_of_length_le (by rw [e]; exact Nat.le_refl _), List.nil_append, List.take_append_of_le_length (Nat.le_refl _), List.take_length]
  unfold rightL
  have hr : isRight (sealL k set b) = true := by
    unfold isRight
    rw [hN, p1, p2, hk, ht, hd, hh, decide_eq_true (by omega : 22 ≤ (sealL k set b).length), decide_eq_true (by omega : 22 + b.length ≤ (sealL k set b).length)]
    simp
  rw [if_pos hr]
  unfold foundAt
  rw [hN, p2, p3, hbody, num_bytes set 8 hs hs]
/-- a packet alone is all that is found of it -/
theorem find_seal {k : UInt8} {set : Nat} {b : List UInt8} (hk : kindL k = true) (hs : set < P64) (hb : b.length < 65536) : findV (sealL k set b) = [⟨k, set, b⟩] := by
  have hlen : (sealL k set b).length = 22 + b.length := by
    unfold sealL
    rw [List.length_append, head_len, numBytes_len]
    omega
  rw [findV_step _ (by omega), right_seal hk hs hb]
  simp only
  rw [List.drop_of_length_le (by omega), findV_nil]
end Go.Proofs.YtonjphollmdicaaDoor
namespace Go.Proofs.YtonjphollmdicaaDoor
open Go.ChangeShapes Go.WideShapes Go.ChangeAt Go.RowKit

/-! a text that is taken apart from its beginning on: what is left of it, and whether it ended too early -/
def rdT (s : List UInt8 × Bool) (n : Nat) : List UInt8 := if n ≤ s.1.length then s.1.take n else []
def rdS (s : List UInt8 × Bool) (n : Nat) : List UInt8 × Bool := if n ≤ s.1.length then (s.1.drop n, s.2) else ([], true)
def hshL (r : List UInt8) : List Nat := (List.range ((r.length + 7) / 8)).map fun i => numL (rdT (r.drop (8 * i), false) 8)
def hshS (s : List UInt8 × Bool) : List UInt8 × Bool := ([], s.2 || decide (s.1.length % 8 ≠ 0))

theorem rdT_len (s : List UInt8 × Bool) (n : Nat) : (rdT s n).length ≤ n := by
  unfold rdT; split
  · rw [List.length_take]; omega
  · simp
theorem rdS_len (s : List UInt8 × Bool) (n : Nat) : (rdS s n).1.length ≤ s.1.length := by
  unfold rdS; split
  · simp
  · simp
theorem rdT_len' (s : List UInt8 × Bool) (n : Nat) : (rdT s n).length ≤ s.1.length := by
  unfold rdT; split
  · rw [List.length_take]; omega
  · simp
theorem rdS_short {s : List UInt8 × Bool} (h : s.2 = true) (n : Nat) : (rdS s n).2 = true := by
  unfold rdS; split
  · exact h
  · rfl
theorem rdT_ok {s : List UInt8 × Bool} {n : Nat} (h : n ≤ s.1.length) : rdT s n = s.1.take n := if_pos h
theorem rdS_ok {s : List UInt8 × Bool} {n : Nat} (h : n ≤ s.1.length) : rdS s n = (s.1.drop n, s.2) := if_pos h
theorem rdT_no {s : List UInt8 × Bool} {n : Nat} (h : s.1.length < n) : rdT s n = [] := if_neg (by omega)
theorem rdS_no {s : List UInt8 × Bool} {n : Nat} (h : s.1.length < n) : rdS s n = ([], true) := if_neg (by omega)
theorem hshL_nil : hshL [] = [] := rfl
theorem hshL_length (r : List UInt8) : (hshL r).length = (r.length + 7) / 8 := by simp [hshL]
theorem hshL_step (s : List UInt8 × Bool) (h : s.1 ≠ []) : hshL s.1 = numL (rdT s 8) :: hshL (rdS s 8).1 := by
  obtain ⟨r, sh⟩ := s
  have h0 : 0 < r.length := List.length_pos_iff.2 h
  unfold hshL rdS
  simp only
  by_cases h8 : 8 ≤ r.length
  · rw [if_pos h8]
    simp only [List.length_drop]
    rw [show (r.length + 7) / 8 = (r.length - 8 + 7) / 8 + 1 from by omega, List.range_succ_eq_map, List.map_cons, List.map_map]
    congr 1
    apply List.map_congr_left
    intro i _
    simp only [Function.comp, List.drop_drop]
    rw [show 8 * i.succ = 8 + 8 * i from by omega]
  · rw [if_neg h8]
    rw [show (r.length + 7) / 8 = 1 from by omega]
    simp [List.range_succ, rdT]
theorem hshS_step (s : List UInt8 × Bool) (h : s.1 ≠ []) : hshS (rdS s 8) = hshS s := by
  obtain ⟨r, sh⟩ := s
  have h0 : 0 < r.length := List.length_pos_iff.2 h
  unfold hshS rdS
  simp only
  by_cases h8 : 8 ≤ r.length
  · rw [if_pos h8]
    simp only [List.length_drop]
    rw [show (r.length - 8) % 8 = r.length % 8 from by omega]
  · rw [if_neg h8]
    simp only [Prod.mk.injEq, true_and, Bool.true_or]
    rw [decide_eq_true (by omega : r.length % 8 ≠ 0), Bool.or_true]

theorem take_one (l : List UInt8) (k : Nat) (h : k < l.length) : (l.drop k).take 1 = [l.getD k 0] := by
  rw [List.drop_eq_getElem_cons h, List.take_succ_cons, List.take_zero]
  simp [h]
end Go.Proofs.YtonjphollmdicaaDoor
