import Derived.Test.YtonjphollmdicaaGreatDoorB36
namespace Go.Proofs.YtonjphollmdicaaGreatDoor
open Go.ChangeShapes Go.WideShapes Go.ChangeAt Go.RowKit

set_option maxRecDepth 100000 in
set_option maxHeartbeats 2000000 in
theorem kmade_cap (s : KSet) (a : Option Addr) (cap : Nat) (w : World) (h : KOk w s a cap) :
    Calls Tryz.prog 24 #[kV s a cap] w fun e w' => ∃ g1 c1 vp, e = .returned (.tuple #[.slice (some ⟨g1, 0, none⟩) (kFiles s).length c1, vp, .bool true]) ∧ (kFiles s).length ≤ c1 ∧ Rd w' (some ⟨g1, 0, none⟩) (filesV (kFiles s)) ∧ w'.ownsRow w.heap.size 9 1 vp (1 + (kFiles s).length + kExtra s) (strV (packetsL (kSize s) (kFiles s) (kExtra s))) ∧ Below w.heap.size w w' := by
  have hb0 : Below w.heap.size w (w.alloc (.cells #[.slice a s.D.length cap, .int .i64 s.sl, .int .i64 s.ex] 54)) := (Below.refl _ _).alloc (Nat.le_refl _) _
  have hbx0 : (w.alloc (.cells #[.slice a s.D.length cap, .int .i64 s.sl, .int .i64 s.ex] 54)).cell? ⟨w.heap.size, 0, none⟩ = some (.slice a s.D.length cap) := by simp
  have hbx1 : (w.alloc (.cells #[.slice a s.D.length cap, .int .i64 s.sl, .int .i64 s.ex] 54)).cell? ⟨w.heap.size, 1, none⟩ = some (.int .i64 s.sl) := by simp
  have hbx2 : (w.alloc (.cells #[.slice a s.D.length cap, .int .i64 s.sl, .int .i64 s.ex] 54)).cell? ⟨w.heap.size, 2, none⟩ = some (.int .i64 s.ex) := by simp
  obtain ⟨W0, hW0⟩ : ∃ W0, W0 = w.alloc (.cells #[.slice a s.D.length cap, .int .i64 s.sl, .int .i64 s.ex] 54) := ⟨_, rfl⟩
  rw [← hW0] at hb0 hbx0 hbx1 hbx2
  have hs0 : W0.heap.size = w.heap.size + 1 := by rw [hW0]; simp
  have hall : ∀ W, Below W0.heap.size W0 W → KOk W s a cap ∧ W.cell? ⟨w.heap.size, 0, none⟩ = some (.slice a s.D.length cap) ∧ W.cell? ⟨w.heap.size, 1, none⟩ = some (.int .i64 s.sl) ∧ W.cell? ⟨w.heap.size, 2, none⟩ = some (.int .i64 s.ex) := by
    intro W hW
    refine ⟨h.later (Below.next hb0 hW), ?_, ?_, ?_⟩
    · rw [hW.cell (by rw [hs0]; simp)]; exact hbx0
    · rw [hW.cell (by rw [hs0]; simp)]; exact hbx1
    · rw [hW.cell (by rw [hs0]; simp)]; exact hbx2
  have HA := hid_of hall
  have HW := hid_of hW0
  have HB0 := hid_of hb0
  obtain ⟨k1, k2, k3⟩ := kFiles_short s
  obtain ⟨z0, z1, z2, z3⟩ := kSize_facts s
  have xlt : kExtra s < 21 := pickN_lt s.ex 21 (by omega)
  have hFs := kfiles_walk s a cap W0 (hall W0 (Below.refl _ _)).1
  have HFS := hid_of hFs
  have K1 := hid_of k1
  have hgood := kSet_good s
  have HG := hid_of hgood
  unfold kV
  unfold kV at HFS
  clear hall hW0 hb0 hbx0 hbx1 hbx2 hs0 h hFs k1 hgood
  go_enter Tryz.func24, Tryz.ntmps24
  go_wp2_with fail
  rw [← HW.out]
  refine HFS.out.mono ?_
  rintro e w1 ⟨v1, rfl, hown1, hb1⟩
  obtain ⟨g1, c1, rfl, hhand⟩ := handed_of hown1 (by omega) (fun f hf => by have := K1.out f hf; omega)
  obtain ⟨_, q0, q1, q2⟩ := HA.out w1 hb1
  have hcr := fun W (hW : Below w1.heap.size w1 W) => Create_ok (kFiles s) ((kSize s : Nat) : Int) ((kExtra s : Nat) : Int) (kSize s) (kExtra s) (some ⟨g1, 0, none⟩) c1 rfl rfl z0 (by omega) z2 (by omega) z3 HG.out W ⟨hhand.rd.later (Nat.le_refl _) hW, hhand.cap1, hhand.short⟩
  have hks := fun W (hW : Below w1.heap.size w1 W) => kslice_walk s a cap W (HA.out W (Below.next hb1 hW)).1
  have hkx := fun W (hW : Below w1.heap.size w1 W) => kextra_walk s a cap W (HA.out W (Below.next hb1 hW)).1
  have hbx := fun W (hW : Below w1.heap.size w1 W) => (HA.out W (Below.next hb1 hW)).2
  unfold kV at hks hkx
  have C1 := hid_of hcr
  have C2 := hid_of hks
  have C3 := hid_of hkx
  have C4 := hid_of hbx
  have C5 := hid_of hhand.rd
  have C7 := hid_of hhand.cap1
  have C6 := hid_of (Below.next HB0.out hb1)
  obtain ⟨nf, hnf⟩ : ∃ n, n = (kFiles s).length := ⟨_, rfl⟩
  rw [← hnf] at C1 k2 k3 ⊢
  obtain ⟨sz, hsz⟩ : ∃ n, n = kSize s := ⟨_, rfl⟩
  obtain ⟨ex, hexx⟩ : ∃ n, n = kExtra s := ⟨_, rfl⟩
  rw [← hsz, ← hexx] at C1
  rw [← hsz] at C2
  rw [← hexx] at C3
  have hcur : Below w1.heap.size w1 w1 := Below.refl _ _
  have HSZ := hid_of hsz
  have HEX := hid_of hexx
  have HNF := hid_of hnf
  rw [← hexx] at xlt
  clear hcr hks hkx hbx hhand hown1 hb1 hnf hsz hexx z0 z1 z2 z3 HFS HA
  go_wp2_with fail
  go_region_with (first
    | (go_at_call 26; refine (C2.out _ ?_).mono ?_; (first | exact hcur.drew | exact hcur); rintro e w2 ⟨rfl, hb2⟩; have hcur : Below w1.heap.size w1 w2 := (by first | exact Below.next hcur.drew hb2 | exact Below.next hcur hb2); obtain ⟨q0, q1, q2⟩ := C4.out w2 hcur)
    | (go_at_call 30; refine (C3.out _ ?_).mono ?_; (first | exact hcur.drew | exact hcur); rintro e w2 ⟨rfl, hb2⟩; have hcur : Below w1.heap.size w1 w2 := (by first | exact Below.next hcur.drew hb2 | exact Below.next hcur hb2); obtain ⟨q0, q1, q2⟩ := C4.out w2 hcur)
    | (go_at_call 37; refine (C1.out _ ?_).mono ?_; (first | exact hcur.drew | exact hcur); rintro e w2 ⟨vp, rfl, hownp, hb2⟩; obtain ⟨ap, cp, rfl, _, _, _⟩ := ownsRow_rd hownp; have hcs := hcur.size; have hcur : Below w1.heap.size w1 w2 := (by first | exact Below.next hcur.drew hb2 | exact Below.next hcur hb2); obtain ⟨q0, q1, q2⟩ := C4.out w2 hcur))
  all_goals
    go_wp2_with fail
    refine (C3.out _ (by first | exact hcur | exact hcur.drew)).mono ?_
    rintro e w5 ⟨rfl, hb5⟩
    have hfin := Below.next hcur hb5
    have hownf := ownsRow_later hownp (Nat.le_refl _) hb5
    have hbase := ownsRow_base (base' := w.heap.size) (Nat.le_trans C6.out.size hcs) hownf
    go_wp2_with fail
    go_ret3
    refine ⟨g1, c1, .slice ap (1 + nf + ex) cp, ?_, C7.out, C5.out.later (Nat.le_refl _) hfin, ?_, Below.next C6.out hfin⟩
    · rw [← HNF.out]; rfl
    · rw [← HNF.out, ← HEX.out, ← HSZ.out]; exact hbase
end Go.Proofs.YtonjphollmdicaaGreatDoor
