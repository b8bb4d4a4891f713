import Derived.Test.YtonjphollmdicaaGreatDoorB04
import Derived.Test.YtonjphollmdicaaGreatDoorB13
import Derived.Test.YtonjphollmdicaaGreatDoorB35
import Derived.Deep.RegionWith
namespace Go.Proofs.YtonjphollmdicaaGreatDoor
open Go.ChangeShapes Go.WideShapes Go.ChangeAt Go.RowKit

set_option maxRecDepth 100000 in
theorem kcreated_full (w : World) :
    Calls Tryz.prog 50 #[] w fun e w' => ∃ ad c, e = .returned (.slice (some ad) 3 c) ∧ Rd w' (some ad) (strV (packetsL 2 exFs 1)) ∧ Below w.heap.size w w' := by
  have hrd : Rd (w.alloc (.cells #[.string ⟨#[97]⟩, .string ⟨#[0, 1, 0, 2]⟩] 62)) (some ⟨w.heap.size, 0, none⟩) (filesV exFs) := by
    intro k u hk
    refine ⟨w.heap.size, 0, rfl, ?_⟩
    rcases k with _ | _ | k
    · simp [filesV, exFs] at hk; subst hk; simp [str]
    · simp [filesV, exFs] at hk; subst hk; simp [str]
    · simp [filesV, exFs] at hk
  have hC := Create_ok exFs 2 1 2 1 (some ⟨w.heap.size, 0, none⟩) 1 rfl rfl (by omega) (by omega) (by omega) (by omega) (by decide) (by decide +kernel) _ ⟨hrd, by simp [exFs], by simp [exFs]⟩
  have hb0 : Below w.heap.size w (w.alloc (.cells #[.string ⟨#[97]⟩, .string ⟨#[0, 1, 0, 2]⟩] 62)) := (Below.refl _ _).alloc (Nat.le_refl _) _
  have HC := hid_of hC
  have HB := hid_of hb0
  clear hC hb0 hrd
  have hpk : packetsL 2 exFs 1 = [sealL 77 (setL 2 exFs) (mainL 2 exFs), sealL 70 (setL 2 exFs) (bodyL 2 exFs 0), rPacketL 2 exFs 1 0] := rfl
  have l0 : (sealL 77 (setL 2 exFs) (mainL 2 exFs)).length = 33 := by rw [sealL_len, mainL_len]; rfl
  have l1 : (sealL 70 (setL 2 exFs) (bodyL 2 exFs 0)).length = 51 := by rw [sealL_len, bodyL_len 2 exFs 0 (by omega)]; rfl
  have l2 : (rPacketL 2 exFs 1 0).length = 26 := by unfold rPacketL extraBodyL; rw [sealL_len, List.length_append, numBytes_len, textL_len, extraL_len]
  have HP := hid_of hpk
  obtain ⟨p0, hp0⟩ : ∃ x, x = sealL 77 (setL 2 exFs) (mainL 2 exFs) := ⟨_, rfl⟩
  obtain ⟨p1, hp1⟩ : ∃ x, x = sealL 70 (setL 2 exFs) (bodyL 2 exFs 0) := ⟨_, rfl⟩
  obtain ⟨p2, hp2⟩ : ∃ x, x = rPacketL 2 exFs 1 0 := ⟨_, rfl⟩
  rw [← hp0, ← hp1, ← hp2] at HP
  rw [← hp0] at l0
  rw [← hp1] at l1
  rw [← hp2] at l2
  have s0 := str_size p0
  have s1 := str_size p1
  have s2 := str_size p2
  rw [l0] at s0
  rw [l1] at s1
  rw [l2] at s2
  clear hpk hp0 hp1 hp2 l0 l1 l2
  go_enter Tryz.func50, Tryz.ntmps50
  go_wp2_with fail
  refine HC.out.mono ?_
  rintro e w1 ⟨v, rfl, hown, hb1⟩
  rw [HP.out] at hown
  obtain ⟨g, c, hv⟩ : ∃ g c, v = .slice (some ⟨g, 0, none⟩) 3 c := by
    rcases hown.2 with ⟨_, h1⟩ | ⟨g, c, cur, h1, _⟩
    · simp [exFs] at h1
    · exact ⟨_, _, h1⟩
  have hown' : w1.ownsRow (w.alloc (.cells #[.string ⟨#[97]⟩, .string ⟨#[0, 1, 0, 2]⟩] 62)).heap.size 9 1 (.slice (some ⟨g, 0, none⟩) 3 c) 3 (strV [p0, p1, p2]) := by rw [← hv]; exact hown
  have c0 : w1.cell? ⟨g, 0, none⟩ = some (.string (str p0)) := by rw [hown'.cellAt 0 (by omega)]; rfl
  have c1 : w1.cell? ⟨g, 1, none⟩ = some (.string (str p1)) := by rw [hown'.cellAt 1 (by omega)]; rfl
  have c2 : w1.cell? ⟨g, 2, none⟩ = some (.string (str p2)) := by rw [hown'.cellAt 2 (by omega)]; rfl
  rw [hv]
  have hfin := Below.next HB.out hb1
  have hrdp : Rd w1 (some ⟨g, 0, none⟩) (strV (packetsL 2 exFs 1)) := by
    obtain ⟨a', c', e, hr⟩ := row_rd hown'
    cases e
    rw [HP.out]
    exact hr
  have HRDP := hid_of hrdp
  clear hown hown' hv hb1 HC HB HP hrdp
  go_wp2_with fail
  go_ret
  exact ⟨_, _, rfl, HRDP.out, hfin⟩
theorem kcreated_walk (w : World) :
    Calls Tryz.prog 50 #[] w fun e w' => ∃ ad c, e = .returned (.slice (some ad) 3 c) ∧ Below w.heap.size w w' :=
  (kcreated_full w).mono fun _ _ ⟨ad, c, h1, _, h3⟩ => ⟨ad, c, h1, h3⟩

theorem kFiles_short (s : KSet) : (∀ f ∈ kFiles s, f.1.length = 2 ∧ f.2.length ≤ 30) ∧ 1 ≤ (kFiles s).length ∧ (kFiles s).length ≤ 4 := by
  have hone : (∀ f ∈ kOne s, f.1.length = 2 ∧ f.2.length ≤ 30) ∧ 1 ≤ (kOne s).length ∧ (kOne s).length ≤ 4 := by
    unfold kOne
    split
    · simp [kName]
    · rename_i h
      refine ⟨?_, by simp [kRaw]; omega, by simp [kRaw, kCount]; omega⟩
      intro f hf
      simp only [kRaw, List.mem_map] at hf
      obtain ⟨i, _, rfl⟩ := hf
      simp only [kFile, kName, List.length_take]
      refine ⟨rfl, by omega⟩
  unfold kFiles
  cases h : kOne s with
  | nil => rw [h] at hone; simp at hone
  | cons f r =>
    rw [h] at hone
    simp only [kFix]
    refine ⟨?_, by simp, by have := hone.2.2; simpa using this⟩
    intro g hg
    rcases List.mem_cons.1 hg with rfl | hg
    · split
      · exact ⟨(hone.1 f (by simp)).1, by simp⟩
      · exact hone.1 f (by simp)
    · exact hone.1 g (by simp [hg])

theorem kSize_facts (s : KSet) : 0 < kSize s ∧ kSize s ≤ 8 ∧ kSize s % 2 = 0 ∧ sliceSize ((kSize s : Nat) : Int) = true := by
  have h := pickN_lt s.sl 4 (by omega)
  unfold kSize
  refine ⟨by omega, by omega, by omega, ?_⟩
  unfold sliceSize
  exact decide_eq_true (by omega)

/-- the names f0, f1, .. are all different -/
theorem kName_inj {i j : Nat} (hi : i < 4) (hj : j < 4) (h : kName i = kName j) : i = j := by
  have key : ∀ a, a < 4 → ∀ b, b < 4 → kName a = kName b → a = b := by decide +kernel
  exact key i hi j hj h

theorem kFiles_name (s : KSet) (i : Nat) (f : FileL) (h : (kFiles s)[i]? = some f) : f.1 = kName i := by
  have hone : ∀ (i : Nat) (f : FileL), (kOne s)[i]? = some f → f.1 = kName i := by
    intro i f h
    unfold kOne at h
    split at h
    · cases i with
      | zero => simp at h; rw [← h]
      | succ i => simp at h
    · have hl := (List.getElem?_eq_some_iff.1 h).1
      simp only [kRaw, List.length_map, List.length_range] at hl
      simp [kRaw, hl] at h
      rw [← h]
      rfl
  unfold kFiles at h
  cases hk : kOne s with
  | nil => rw [hk] at h; simp [kFix] at h
  | cons f0 r =>
    rw [hk] at h hone
    simp only [kFix] at h
    cases i with
    | zero =>
      have h3 := hone 0 f0 rfl
      simp only [List.getElem?_cons_zero, Option.some.injEq] at h
      rw [← h]
      split
      · exact h3
      · exact h3
    | succ i => exact hone (i + 1) f h

theorem slices_15 (len size : Nat) (h : len ≤ 30) (h2 : 2 ≤ size) : slicesOfN len size ≤ 15 := by
  unfold slicesOfN
  have : (len + size - 1) / size < 16 := (Nat.div_lt_iff_lt_mul (by omega)).2 (by omega)
  omega
theorem count_15 (fs : List FileL) (size : Nat) (h2 : 2 ≤ size) (h : ∀ f ∈ fs, f.2.length ≤ 30) : countL fs size ≤ 15 * fs.length := by
  induction fs with
  | nil => simp [countL]
  | cons f r ih =>
    have h1 := ih (fun g hg => h g (by simp [hg]))
    have h3 := slices_15 f.2.length size (h f (by simp)) h2
    simp only [countL, List.map_cons, List.sum_cons, List.length_cons] at h1 ⊢
    omega
theorem kFiles_first (s : KSet) : ∃ f r, kFiles s = f :: r ∧ f.2 ≠ [] := by
  unfold kFiles
  cases h : kOne s with
  | nil =>
    have h1 := (kFiles_short s).2.1
    unfold kFiles at h1
    rw [h] at h1
    simp [kFix] at h1
  | cons f r =>
    refine ⟨_, r, rfl, ?_⟩
    split
    · simp
    · assumption
theorem kCount_facts (s : KSet) : 1 ≤ countL (kFiles s) (kSize s) ∧ countL (kFiles s) (kSize s) ≤ 60 := by
  obtain ⟨h1, h2, h3⟩ := kFiles_short s
  obtain ⟨z0, z1, z2, _⟩ := kSize_facts s
  have hc := count_15 (kFiles s) (kSize s) (by omega) (fun f hf => (h1 f hf).2)
  refine ⟨?_, by omega⟩
  obtain ⟨f, r, hf, hne⟩ := kFiles_first s
  rw [hf]
  have hl : 0 < f.2.length := List.length_pos_iff.2 hne
  have : 1 ≤ slicesOfN f.2.length (kSize s) := by
    unfold slicesOfN
    exact (Nat.le_div_iff_mul_le z0).2 (by omega)
  simp only [countL, List.map_cons, List.sum_cons]
  omega

theorem kSet_good (s : KSet) : goodSet (kFiles s) (kSize s) = true := by
  obtain ⟨h1, h2, h3⟩ := kFiles_short s
  obtain ⟨c1, c2⟩ := kCount_facts s
  unfold goodSet
  rw [decide_eq_true c1, decide_eq_true c2, Bool.and_true, Bool.and_true]
  unfold isSetL
  rw [decide_eq_true ⟨h2, by omega⟩, Bool.true_and, List.all_eq_true]
  intro i hi
  have hi' : i < (kFiles s).length := by simpa using hi
  unfold okAt
  rw [List.getElem?_eq_getElem hi']
  have hf := h1 _ (List.getElem_mem hi')
  simp only [Bool.and_eq_true]
  refine ⟨decide_eq_true ⟨by omega, by omega, by omega⟩, ?_⟩
  unfold hasNameL
  rw [Bool.not_eq_true', List.any_eq_false]
  intro f hf'
  obtain ⟨j, hj, rfl⟩ := List.mem_iff_getElem.1 hf'
  rw [List.length_take] at hj
  rw [List.getElem_take, kFiles_name s j _ (List.getElem?_eq_getElem (by omega)), kFiles_name s i _ (List.getElem?_eq_getElem hi')]
  intro e
  have := kName_inj (i := j) (j := i) (by omega) (by omega) (by simpa using e)
  omega

set_option maxRecDepth 100000 in
set_option maxHeartbeats 2000000 in
theorem kmade_walk (s : KSet) (a : Option Addr) (cap : Nat) (w : World) (h : KOk w s a cap) :
    Calls Tryz.prog 24 #[kV s a cap] w fun e w' => ∃ g1 c1 vp, e = .returned (.tuple #[.slice (some ⟨g1, 0, none⟩) (kFiles s).length c1, vp, .bool true]) ∧ Rd w' (some ⟨g1, 0, none⟩) (filesV (kFiles s)) ∧ w'.ownsRow w.heap.size 9 1 vp (1 + (kFiles s).length + kExtra s) (strV (packetsL (kSize s) (kFiles s) (kExtra s))) ∧ Below w.heap.size w w' := by
  have hb0 : Below w.heap.size w (w.alloc (.cells #[.slice a s.D.length cap, .int .i64 s.sl, .int .i64 s.ex] 54)) := (Below.refl _ _).alloc (Nat.le_refl _) _
  have hbx0 : (w.alloc (.cells #[.slice a s.D.length cap, .int .i64 s.sl, .int .i64 s.ex] 54)).cell? ⟨w.heap.size, 0, none⟩ = some (.slice a s.D.length cap) := by simp
  have hbx1 : (w.alloc (.cells #[.slice a s.D.length cap, .int .i64 s.sl, .int .i64 s.ex] 54)).cell? ⟨w.heap.size, 1, none⟩ = some (.int .i64 s.sl) := by simp
  have hbx2 : (w.alloc (.cells #[.slice a s.D.length cap, .int .i64 s.sl, .int .i64 s.ex] 54)).cell? ⟨w.heap.size, 2, none⟩ = some (.int .i64 s.ex) := by simp
  obtain ⟨W0, hW0⟩ : ∃ W0, W0 = w.alloc (.cells #[.slice a s.D.length cap, .int .i64 s.sl, .int .i64 s.ex] 54) := ⟨_, rfl⟩
  rw [← hW0] at hb0 hbx0 hbx1 hbx2
  have hs0 : W0.heap.size = w.heap.size + 1 := by rw [hW0]; simp
  have hall : ∀ W, Below W0.heap.size W0 W → KOk W s a cap ∧ W.cell? ⟨w.heap.size, 0, none⟩ = some (.slice a s.D.length cap) ∧ W.cell? ⟨w.heap.size, 1, none⟩ = some (.int .i64 s.sl) ∧ W.cell? ⟨w.heap.size, 2, none⟩ = some (.int .i64 s.ex) := by
    intro W hW
    refine ⟨h.later (Below.next hb0 hW), ?_, ?_, ?_⟩
    · rw [hW.cell (by rw [hs0]; simp)]; exact hbx0
    · rw [hW.cell (by rw [hs0]; simp)]; exact hbx1
    · rw [hW.cell (by rw [hs0]; simp)]; exact hbx2
  have HA := hid_of hall
  have HW := hid_of hW0
  have HB0 := hid_of hb0
  obtain ⟨k1, k2, k3⟩ := kFiles_short s
  obtain ⟨z0, z1, z2, z3⟩ := kSize_facts s
  have xlt : kExtra s < 21 := pickN_lt s.ex 21 (by omega)
  have hFs := kfiles_walk s a cap W0 (hall W0 (Below.refl _ _)).1
  have HFS := hid_of hFs
  have K1 := hid_of k1
  have hgood := kSet_good s
  have HG := hid_of hgood
  unfold kV
  unfold kV at HFS
  clear hall hW0 hb0 hbx0 hbx1 hbx2 hs0 h hFs k1 hgood
  go_enter Tryz.func24, Tryz.ntmps24
  go_wp2_with fail
  rw [← HW.out]
  refine HFS.out.mono ?_
  rintro e w1 ⟨v1, rfl, hown1, hb1⟩
  obtain ⟨g1, c1, rfl, hhand⟩ := handed_of hown1 (by omega) (fun f hf => by have := K1.out f hf; omega)
  obtain ⟨_, q0, q1, q2⟩ := HA.out w1 hb1
  have hcr := fun W (hW : Below w1.heap.size w1 W) => Create_ok (kFiles s) ((kSize s : Nat) : Int) ((kExtra s : Nat) : Int) (kSize s) (kExtra s) (some ⟨g1, 0, none⟩) c1 rfl rfl z0 (by omega) z2 (by omega) z3 HG.out W ⟨hhand.rd.later (Nat.le_refl _) hW, hhand.cap1, hhand.short⟩
  have hks := fun W (hW : Below w1.heap.size w1 W) => kslice_walk s a cap W (HA.out W (Below.next hb1 hW)).1
  have hkx := fun W (hW : Below w1.heap.size w1 W) => kextra_walk s a cap W (HA.out W (Below.next hb1 hW)).1
  have hbx := fun W (hW : Below w1.heap.size w1 W) => (HA.out W (Below.next hb1 hW)).2
  unfold kV at hks hkx
  have C1 := hid_of hcr
  have C2 := hid_of hks
  have C3 := hid_of hkx
  have C4 := hid_of hbx
  have C5 := hid_of hhand.rd
  have C6 := hid_of (Below.next HB0.out hb1)
  obtain ⟨nf, hnf⟩ : ∃ n, n = (kFiles s).length := ⟨_, rfl⟩
  rw [← hnf] at C1 k2 k3 ⊢
  obtain ⟨sz, hsz⟩ : ∃ n, n = kSize s := ⟨_, rfl⟩
  obtain ⟨ex, hexx⟩ : ∃ n, n = kExtra s := ⟨_, rfl⟩
  rw [← hsz, ← hexx] at C1
  rw [← hsz] at C2
  rw [← hexx] at C3
  have hcur : Below w1.heap.size w1 w1 := Below.refl _ _
  have HSZ := hid_of hsz
  have HEX := hid_of hexx
  have HNF := hid_of hnf
  rw [← hexx] at xlt
  clear hcr hks hkx hbx hhand hown1 hb1 hnf hsz hexx z0 z1 z2 z3 HFS HA
  go_wp2_with fail
  go_region_with (first
    | (go_at_call 26; refine (C2.out _ ?_).mono ?_; (first | exact hcur.drew | exact hcur); rintro e w2 ⟨rfl, hb2⟩; have hcur : Below w1.heap.size w1 w2 := (by first | exact Below.next hcur.drew hb2 | exact Below.next hcur hb2); obtain ⟨q0, q1, q2⟩ := C4.out w2 hcur)
    | (go_at_call 30; refine (C3.out _ ?_).mono ?_; (first | exact hcur.drew | exact hcur); rintro e w2 ⟨rfl, hb2⟩; have hcur : Below w1.heap.size w1 w2 := (by first | exact Below.next hcur.drew hb2 | exact Below.next hcur hb2); obtain ⟨q0, q1, q2⟩ := C4.out w2 hcur)
    | (go_at_call 37; refine (C1.out _ ?_).mono ?_; (first | exact hcur.drew | exact hcur); rintro e w2 ⟨vp, rfl, hownp, hb2⟩; obtain ⟨ap, cp, rfl, _, _, _⟩ := ownsRow_rd hownp; have hcs := hcur.size; have hcur : Below w1.heap.size w1 w2 := (by first | exact Below.next hcur.drew hb2 | exact Below.next hcur hb2); obtain ⟨q0, q1, q2⟩ := C4.out w2 hcur))
  all_goals
    go_wp2_with fail
    refine (C3.out _ (by first | exact hcur | exact hcur.drew)).mono ?_
    rintro e w5 ⟨rfl, hb5⟩
    have hfin := Below.next hcur hb5
    have hownf := ownsRow_later hownp (Nat.le_refl _) hb5
    have hbase := ownsRow_base (base' := w.heap.size) (Nat.le_trans C6.out.size hcs) hownf
    go_wp2_with fail
    go_ret3
    refine ⟨g1, c1, .slice ap (1 + nf + ex) cp, ?_, C5.out.later (Nat.le_refl _) hfin, ?_, Below.next C6.out hfin⟩
    · rw [← HNF.out]; rfl
    · rw [← HNF.out, ← HEX.out, ← HSZ.out]; exact hbase
end Go.Proofs.YtonjphollmdicaaGreatDoor
namespace Go.Proofs.YtonjphollmdicaaGreatDoor
open Go.ChangeShapes Go.WideShapes Go.ChangeAt Go.RowKit

def i64V (l : List Int) : List Value := l.map (Value.int .i64)
structure Ints (w : World) (l : List Int) (a : Option Addr) : Prop where
  rd : Rd w a (i64V l)
  len : l.length ≤ 9223372036854775807
  lo : ∀ x ∈ l, -9223372036854775808 ≤ x
  hi : ∀ x ∈ l, x ≤ 9223372036854775807
theorem Ints.later {w w' : World} {l : List Int} {a : Option Addr} (h : Ints w l a) (hb : Below w.heap.size w w') : Ints w' l a := ⟨h.rd.later (Nat.le_refl _) hb, h.len, h.lo, h.hi⟩
theorem Ints.cell {w : World} {l : List Int} {a : Option Addr} (h : Ints w l a) (k : Nat) (hk : k < l.length) : ∃ b off, a = some ⟨b, off, none⟩ ∧ w.cell? ⟨b, off + k, none⟩ = some (.int .i64 l[k]) := h.rd k _ (by simp [i64V, hk])
/-- files that may be handed in -/
def HandF (fs : List FileL) : Prop := fs.length ≤ 12 ∧ ∀ f ∈ fs, f.1.length ≤ 20 ∧ f.2.length ≤ 400

theorem two_ones {x y : ByteArray} : ∀ u ∈ [Value.string x, .string y], u.oneCell' = true := by
  intro u hu
  simp at hu
  rcases hu with rfl | rfl <;> rfl

set_option maxRecDepth 100000 in
set_option maxHeartbeats 4000000 in
theorem kleft_walk (SL : List (List UInt8)) (keep strange : List Int) (sa ka ta : Option Addr) (sc kc tc : Nat) (hn : SL.length ≤ 60) (hs : ∀ t ∈ SL, t.length ≤ 8) (w : World) (hS : Rd w sa (strV SL)) (hk : Ints w keep ka) (ht : Ints w strange ta) :
    Calls Tryz.prog 32 #[.slice sa SL.length sc, .slice ka keep.length kc, .slice ta strange.length tc] w fun e w' => ∃ (fs : List FileL) (v : Value), e = .returned v ∧ HandF fs ∧ 1 ≤ fs.length ∧ w'.ownsRow w.heap.size 62 2 v fs.length (filesV fs) ∧ Below w.heap.size w w' := by
  obtain ⟨i0, hi, hz0, hz1, hz2⟩ := info_parts Tryz.infoF
  have HS := hid_of hS
  have HK := hid_of hk
  have HT := hid_of ht
  have HSL := hid_of hs
  have hkl := hk.len
  have htl := ht.len
  obtain ⟨sn, hsn⟩ : ∃ x, x = strange.length := ⟨_, rfl⟩
  rw [← hsn] at htl ⊢
  have HSN := hid_of hsn
  clear hS hk ht hs hsn
  go_enter Tryz.func32, Tryz.ntmps32
  go_wp2_with fail
  go_loopw [7, 8, 9, 10] (fun l d i _ wr => ∃ (k : Nat) (LF : List FileL) (dd : List UInt8), k ≤ SL.length ∧ i = .int .i64 (k : Int) ∧ d = .string (str dd) ∧ wr.ownsRow w.heap.size 62 2 l LF.length (filesV LF) ∧ Below w.heap.size w wr ∧ 200 * LF.length + dd.length ≤ 10 * k ∧ dd.length ≤ 200 ∧ Hid (∀ f ∈ LF, f.1.length ≤ 20 ∧ f.2.length ≤ 400))
    (fun _ _ i _ _ => SL.length - (intOf i).toNat)
  case atStart => exact ⟨0, [], [], by omega, rfl, rfl, World.ownsRow_nil _ _ _ _, Below.refl _ _, by simp, by simp, hid_of (by simp)⟩
  case round =>
    obtain ⟨k, LF, dd, hkS, rfl, rfl, hown, hbl, hsum, hdd, hLF⟩ := hrel
    have hszr := hbl.size
    by_cases hlt : k < SL.length
    · obtain ⟨sb, so, rfl, hsc⟩ := (HS.out.later (Nat.le_refl _) hbl) k (.string (str SL[k])) (by simp [strV, hlt])
      have hsl := HSL.out _ (List.getElem_mem hlt)
      obtain ⟨T, hT⟩ : ∃ x, x = SL[k] := ⟨_, rfl⟩
      rw [← hT] at hsc hsl
      clear hT
      have HB := hid_of hbl
      have HO := hid_of hown
      clear hbl hown
      have HLF := hLF
      clear hLF
      by_cases hc : k < keep.length
      case' pos =>
        obtain ⟨kb, ko, rfl, hkc⟩ := (HK.out.later HB.out).cell k hc
        obtain ⟨x, hx⟩ : ∃ x, x = keep[k] := ⟨_, rfl⟩
        rw [← hx] at hkc
        clear hx
        by_cases hod : x.tmod 2 = 0
        case neg =>
          go_wp2_with fail
          exact ⟨⟨k + 1, LF, dd, by omega, by go_num, rfl, HO.out, HB.out, by omega, hdd, HLF⟩, by simp [intOf]; omega⟩
      all_goals
        go_wp2_with fail
        go_loopw [8, 10] (fun d q wr2 => ∃ (q' : Nat) (d2 : List UInt8), q' ≤ 2 ∧ q = .int .i64 (q' : Int) ∧ d = .string (str d2) ∧ d2.length ≤ dd.length + q' ∧ wr2.ownsRow w.heap.size 62 2 u7 LF.length (filesV LF) ∧ Below w.heap.size w wr2)
          (fun _ q _ => 3 - (intOf q).toNat)
      all_goals first
        | (exact ⟨0, dd, by omega, rfl, rfl, by omega, HO.out, HB.out⟩)
        | skip
      all_goals
        clear HO HB hsc
        obtain ⟨q, d2, hq, rfl, rfl, hd2, hown, hbl⟩ := hrel
        have hszr2 := hbl.size
        obtain ⟨ua, uc, hu7, _⟩ := row_rd hown
        subst hu7
        obtain ⟨sb2, so2, e, hsc⟩ := (HS.out.later (Nat.le_refl _) hbl) k (.string (str SL[k])) (by simp [strV, hlt])
        cases e
        have HB := hid_of hbl
        have HO := hid_of hown
        clear hbl hown
        have hsl2 := HSL.out _ (List.getElem_mem hlt)
        have hcat : str d2 ++ str SL[k] = str (d2 ++ SL[k]) := by rw [str_add, str_data]
        obtain ⟨d3, hd3⟩ : ∃ x, x = d2 ++ SL[k] := ⟨_, rfl⟩
        have hl3 : d3.length = d2.length + SL[k].length := by rw [hd3, List.length_append]
        rw [← hd3] at hcat
        have hs3 := str_size d3
        have hsz2 := str_size d2
        have hszT := str_size SL[k]
        have hLl : LF.length ≤ 3 := by omega
        clear hd3
        by_cases hs0 : sn = 0
        case' neg =>
          have hs1 : 0 < sn := by omega
          have hm1 : k % sn < sn := Nat.mod_lt _ hs1
          have hm2 : (k + q) % sn < sn := Nat.mod_lt _ hs1
          obtain ⟨tb, tq, rfl, ht1⟩ := (HT.out.later HB.out).cell (k % sn) (by rw [← HSN.out]; exact hm1)
          obtain ⟨tb', tq', e, ht2⟩ := (HT.out.later HB.out).cell ((k + q) % sn) (by rw [← HSN.out]; exact hm2)
          cases e
          have hlo1 := HT.out.lo _ (List.getElem_mem (n := k % sn) (by rw [← HSN.out]; exact hm1))
          have hhi1 := HT.out.hi _ (List.getElem_mem (n := k % sn) (by rw [← HSN.out]; exact hm1))
          have eM1 : (k : Int) % (sn : Int) = ((k % sn : Nat) : Int) := by rw [Int.natCast_emod]
          have eM2 : ((k : Int) + (q : Int)) % (sn : Int) = (((k + q) % sn : Nat) : Int) := by rw [Int.natCast_emod, Int.natCast_add]
          obtain ⟨y1, hy1⟩ : ∃ y, y = strange[k % sn]'(by rw [← HSN.out]; exact hm1) := ⟨_, rfl⟩
          obtain ⟨y2, hy2⟩ : ∃ y, y = strange[(k + q) % sn]'(by rw [← HSN.out]; exact hm2) := ⟨_, rfl⟩
          rw [← hy1] at ht1 hlo1 hhi1
          rw [← hy2] at ht2
          clear hy1 hy2
          obtain ⟨m1, hM1⟩ : ∃ y, y = k % sn := ⟨_, rfl⟩
          obtain ⟨m2, hM2⟩ : ∃ y, y = (k + q) % sn := ⟨_, rfl⟩
          rw [← hM1] at ht1 eM1 hm1
          rw [← hM2] at ht2 eM2 hm2
          clear hM1 hM2
          have hpk := kpick_walk y1 3 (by omega) (by omega) hlo1 hhi1
          have hp3 := pickN_lt y1 3 (by omega)
          obtain ⟨pk, hpkE⟩ : ∃ y, y = pickN y1 3 := ⟨_, rfl⟩
          rw [← hpkE] at hpk hp3
          have HPK := hid_of hpk
          clear hpkE hpk
          by_cases hqp : q < pk
          case pos =>
            have hcv := fun W => byte_string W ((y2 % 256).toNat) (by omega) (y2 % 256) (by omega)
            obtain ⟨cb, hcb⟩ : ∃ x, x = UInt8.ofNat ((y2 % 256).toNat) := ⟨_, rfl⟩
            rw [← hcb] at hcv
            have hcat2 : str d2 ++ str [cb] = str (d2 ++ [cb]) := by rw [str_add, str_data]
            have hscb : (str [cb]).size = 1 := str_size [cb]
            clear hcb hcat hl3 hs3 hsl2 hszT
            go_wp2_with fail
            refine (HPK.out _).mono ?_
            rintro e w' ⟨rfl, rfl⟩
            go_wp2_with fail
            exact ⟨⟨q + 1, d2 ++ [cb], by omega, by go_num, rfl, by simp; omega, HO.out.alloc _, HB.out.alloc hszr2 _⟩, by simp [intOf]; omega⟩
        case' pos =>
          subst hs0
        all_goals by_cases h200 : 200 < d3.length
        all_goals try
          case neg =>
            have HFN : Hid (∀ W, W.ownsRow w.heap.size 62 2 (.slice ua LF.length uc) LF.length (filesV LF) → Below w.heap.size w W → ∃ (k' : Nat) (LF' : List FileL) (dd' : List UInt8), k' ≤ SL.length ∧ Value.int .i64 ((k : Int) + 1) = .int .i64 (k' : Int) ∧ Value.string (str d3) = .string (str dd') ∧ W.ownsRow w.heap.size 62 2 (.slice ua LF.length uc) LF'.length (filesV LF') ∧ Below w.heap.size w W ∧ 200 * LF'.length + dd'.length ≤ 10 * k' ∧ dd'.length ≤ 200 ∧ Hid (∀ f ∈ LF', f.1.length ≤ 20 ∧ f.2.length ≤ 400)) := hid_of (fun W h1 h2 => ⟨k + 1, LF, d3, by omega, by go_num, rfl, h1, h2, by omega, by omega, HLF⟩)
            go_wp2_with fail
            try
              refine (HPK.out _).mono ?_
              rintro e w' ⟨rfl, rfl⟩
              go_wp2_with fail
            first
              | exact ⟨HFN.out _ HO.out HB.out, by simp [intOf]; omega⟩
              | (go_roundw; (case rel => exact HFN.out _ HO.out HB.out); (case measure => simp [intOf]; omega))
        all_goals
          have hcv3 := fun W => byte_string W (97 + LF.length) (by omega) (97 + (LF.length : Int)) (by omega)
          obtain ⟨cb, hcb⟩ : ∃ x, x = UInt8.ofNat (97 + LF.length) := ⟨_, rfl⟩
          rw [← hcb] at hcv3
          have hcat3 : (ByteArray.mk #[108, 101, 102, 116]) ++ str [cb] = str [108, 101, 102, 116, cb] := str_add [108, 101, 102, 116] (str [cb])
          have hscb : (str [cb]).size = 1 := str_size [cb]
          have hapv : filesV (LF ++ [([108, 101, 102, 116, cb], d3)]) = filesV LF ++ [.string (str [108, 101, 102, 116, cb]), .string (str d3)] := by simp [filesV]
          have hnLF : ∀ f ∈ LF ++ [([108, 101, 102, 116, cb], d3)], f.1.length ≤ 20 ∧ f.2.length ≤ 400 := by
            intro f hf
            rcases List.mem_append.1 hf with hf | hf
            · exact HLF.out f hf
            · simp at hf; subst hf; exact ⟨by simp, by simp; omega⟩
          have HAV := hid_of hapv
          have HNL := hid_of hnLF
          clear hcb hapv hnLF
          go_wp2_with (at_builtin; refine wpList_append_own _ rfl (.tmp 69) (.tmp 79) 22 rfl w.heap.size 62 i0 (.agg #[.string ByteArray.empty, .string ByteArray.empty]) 2 32 Tryz.underlying22 hi hz0 hz1 hz2 rfl (by decide) _ _ _ rfl ((HO.out.alloc _).alloc _) _ 1 1 [.string (str [108, 101, 102, 116, cb]), .string (str d3)] rfl rfl (two_at _ _ _ _ _ (by simp)) two_ones (by unfold maxLen; omega) (by omega) (by simp; omega) ?_)
          try
            refine (HPK.out _).mono ?_
            rintro e w' ⟨rfl, hw'⟩
            rw [hw']
            clear hw' w'
            go_wp2_with (at_builtin; refine wpList_append_own _ rfl (.tmp 69) (.tmp 79) 22 rfl w.heap.size 62 i0 (.agg #[.string ByteArray.empty, .string ByteArray.empty]) 2 32 Tryz.underlying22 hi hz0 hz1 hz2 rfl (by decide) _ _ _ rfl ((HO.out.alloc _).alloc _) _ 1 1 [.string (str [108, 101, 102, 116, cb]), .string (str d3)] rfl rfl (two_at _ _ _ _ _ (by simp)) two_ones (by unfold maxLen; omega) (by omega) (by simp; omega) ?_)
          intro v6 w6 hown6 hg6 _
          have hb6 := below_step (HB.out.alloc hszr2 _) (by simp; omega) (HO.out.alloc _) hg6
          have K1 : Hid (w6.ownsRow w.heap.size 62 2 v6 (LF ++ [([108, 101, 102, 116, cb], d3)]).length (filesV (LF ++ [([108, 101, 102, 116, cb], d3)]))) := hid_of (by rw [HAV.out, List.length_append]; exact hown6)
          have K2 := hid_of hb6
          clear hown6 hg6 hb6
          go_wp2_with fail
          first
            | exact ⟨⟨k + 1, LF ++ [([108, 101, 102, 116, cb], d3)], [], by omega, by go_num, rfl, K1.out, K2.out, by simp; omega, by simp, HNL⟩, by simp [intOf]; omega⟩
            | (go_roundw; (case rel => exact ⟨k + 1, LF ++ [([108, 101, 102, 116, cb], d3)], [], by omega, by go_num, rfl, K1.out, K2.out, by simp; omega, by simp, HNL⟩); (case measure => simp [intOf]; omega))
    · obtain rfl : k = SL.length := by omega
      have hLl : LF.length ≤ 3 := by omega
      have HB := hid_of hbl
      have HO := hid_of hown
      have hfin : HandF (LF ++ [([114, 101, 115, 116], dd)]) := by
        refine ⟨by simp; omega, fun f hf => ?_⟩
        rcases List.mem_append.1 hf with hf | hf
        · exact hLF.out f hf
        · simp at hf; subst hf; exact ⟨by simp, by simp; omega⟩
      have hapv : filesV (LF ++ [([114, 101, 115, 116], dd)]) = filesV LF ++ [.string (str [114, 101, 115, 116]), .string (str dd)] := by simp [filesV]
      have HF := hid_of hfin
      have HAV := hid_of hapv
      clear hbl hown hfin hapv
      go_wp2_with (at_builtin; refine wpList_append_own _ rfl (.tmp 81) (.tmp 84) 22 rfl w.heap.size 62 i0 (.agg #[.string ByteArray.empty, .string ByteArray.empty]) 2 32 Tryz.underlying22 hi hz0 hz1 hz2 rfl (by decide) _ _ _ rfl (HO.out.alloc _) ⟨wr.heap.size, 0, none⟩ 1 1 [.string ⟨#[114, 101, 115, 116]⟩, .string (str dd)] rfl rfl ?c1 ?c2 ?c3 ?c4 ?c5 ?_)
      case c1 => exact two_at _ _ _ _ _ rfl
      case c2 => intro u hu; simp at hu; rcases hu with rfl | rfl <;> rfl
      case c3 => unfold maxLen; omega
      case c4 => omega
      case c5 => simp; omega
      intro v6 w6 hown6 hg6 _
      have hb6 := below_step HB.out hszr HO.out hg6
      have K1 := hid_of hown6
      have K2 := hid_of hb6
      clear hown6 hg6 hb6
      go_wp2_with fail
      go_ret
      refine ⟨LF ++ [([114, 101, 115, 116], dd)], _, rfl, HF.out, by simp, ?_, K2.out⟩
      rw [HAV.out, List.length_append]
      exact K1.out
end Go.Proofs.YtonjphollmdicaaGreatDoor
