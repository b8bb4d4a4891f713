import Derived.Test.YtonjphollmdicaaLawWhole
import Derived.Test.YtonjphollmdicaaEx
namespace Go.Proofs.Ytonjphollmdicaa
open Go.ChangeShapes Go.WideShapes Go.ChangeAt Go.RowKit

theorem body_at (k : UInt8) (set : Nat) (b : List UInt8) : ((sealL k set b).drop 14).take b.length = b := by
  unfold sealL headL
  have e : ([83, 65, 76, k] ++ numBytes set 8 ++ numBytes b.length 2).length = 14 := by simp [numBytes_len]
  rw [List.append_assoc ([83, 65, 76, k] ++ numBytes set 8 ++ numBytes b.length 2), List.drop_append_of_le_length (by rw [e]; exact Nat.le_refl _), List.drop_of_length_le (by rw [e]; exact Nat.le_refl _), List.nil_append, List.take_append_of_le_length (Nat.le_refl _), List.take_length]
theorem ex_body : extraBodyL 0 (textL (extraL (rowsL 2 exFs) 1 0)) = [0, 0, 0, 7] := by decide +kernel

set_option maxRecDepth 100000 in
theorem begun_walk (w : World) :
    Calls Try.prog 8 #[] w fun e w' => e = .returned (.bool true) ∧ Below w.heap.size w w' := by
  have hrd : Rd (w.alloc (.cells #[.string ⟨#[97]⟩, .string ⟨#[0, 1, 0, 2]⟩] 43)) (some ⟨w.heap.size, 0, none⟩) (filesV exFs) := by
    intro k u hk
    refine ⟨w.heap.size, 0, rfl, ?_⟩
    rcases k with _ | _ | k
    · simp [filesV, exFs] at hk; subst hk; simp [str]
    · simp [filesV, exFs] at hk; subst hk; simp [str]
    · simp [filesV, exFs] at hk
  have hC := Create_ok exFs 2 1 2 1 (some ⟨w.heap.size, 0, none⟩) 1 rfl rfl (by omega) (by omega) (by omega) (by omega) (by decide) (by decide +kernel) _ ⟨hrd, by simp [exFs], by simp [exFs]⟩
  have hb0 : Below w.heap.size w (w.alloc (.cells #[.string ⟨#[97]⟩, .string ⟨#[0, 1, 0, 2]⟩] 43)) := (Below.refl _ _).alloc (Nat.le_refl _) _
  have HC := hid_of hC
  have HB := hid_of hb0
  clear hC hb0 hrd
  have hpk : packetsL 2 exFs 1 = [sealL 77 (setL 2 exFs) (mainL 2 exFs), sealL 70 (setL 2 exFs) (bodyL 2 exFs 0), rPacketL 2 exFs 1 0] := rfl
  have l0 : (sealL 77 (setL 2 exFs) (mainL 2 exFs)).length = 33 := by rw [sealL_len, mainL_len]; rfl
  have l1 : (sealL 70 (setL 2 exFs) (bodyL 2 exFs 0)).length = 51 := by rw [sealL_len, bodyL_len 2 exFs 0 (by omega)]; rfl
  have l2 : (rPacketL 2 exFs 1 0).length = 26 := by unfold rPacketL extraBodyL; rw [sealL_len, List.length_append, numBytes_len, textL_len, extraL_len]
  have x0 : (str (sealL 77 (setL 2 exFs) (mainL 2 exFs))).extract 0 4 = ⟨#[83, 65, 76, 77]⟩ := by rw [str_extract]; rfl
  have x2 : (str (rPacketL 2 exFs 1 0)).extract 14 18 = ⟨#[0, 0, 0, 7]⟩ := by
    rw [str_extract]
    have := body_at 82 (setL 2 exFs) (extraBodyL 0 (textL (extraL (rowsL 2 exFs) 1 0)))
    rw [ex_body] at this
    unfold rPacketL
    rw [ex_body]
    rw [show (18 - 14) = ([0, 0, 0, 7] : List UInt8).length from rfl, this]
    rfl
  have HP := hid_of hpk
  obtain ⟨p0, hp0⟩ : ∃ x, x = sealL 77 (setL 2 exFs) (mainL 2 exFs) := ⟨_, rfl⟩
  obtain ⟨p1, hp1⟩ : ∃ x, x = sealL 70 (setL 2 exFs) (bodyL 2 exFs 0) := ⟨_, rfl⟩
  obtain ⟨p2, hp2⟩ : ∃ x, x = rPacketL 2 exFs 1 0 := ⟨_, rfl⟩
  rw [← hp0, ← hp1, ← hp2] at HP
  rw [← hp0] at l0 x0
  rw [← hp1] at l1
  rw [← hp2] at l2 x2
  have s0 := str_size p0
  have s1 := str_size p1
  have s2 := str_size p2
  rw [l0] at s0
  rw [l1] at s1
  rw [l2] at s2
  clear hpk hp0 hp1 hp2 l0 l1 l2
  have t1 : Math.mul 2 3 = 6 := by decide +kernel
  have t2 : Math.mul 32768 2 = 4107 := by decide +kernel
  have T1 := hid_of (sTimes_walk 2 3 (by omega) (by omega) w)
  have T2 := hid_of (sTimes_walk 32768 2 (by omega) (by omega) w)
  rw [t1] at T1
  rw [t2] at T2
  go_enter Try.func8, Try.ntmps8
  go_wp2_with fail
  refine T1.out.mono ?_
  rintro e w' ⟨rfl, hw'⟩
  have hw' := hw'.symm
  subst hw'
  go_wp2_with fail
  refine T2.out.mono ?_
  rintro e w' ⟨rfl, hw'⟩
  have hw' := hw'.symm
  subst hw'
  go_wp2_with fail
  refine HC.out.mono ?_
  rintro e w1 ⟨v, rfl, hown, hb1⟩
  rw [HP.out] at hown
  obtain ⟨g, c, hv⟩ : ∃ g c, v = .slice (some ⟨g, 0, none⟩) 3 c := by
    rcases hown.2 with ⟨_, h1⟩ | ⟨g, c, cur, h1, _⟩
    · simp [exFs] at h1
    · exact ⟨_, _, h1⟩
  have hown' : w1.ownsRow (w.alloc (.cells #[.string ⟨#[97]⟩, .string ⟨#[0, 1, 0, 2]⟩] 43)).heap.size 9 1 (.slice (some ⟨g, 0, none⟩) 3 c) 3 (strV [p0, p1, p2]) := by rw [← hv]; exact hown
  have c0 : w1.cell? ⟨g, 0, none⟩ = some (.string (str p0)) := by rw [hown'.cellAt 0 (by omega)]; rfl
  have c1 : w1.cell? ⟨g, 1, none⟩ = some (.string (str p1)) := by rw [hown'.cellAt 1 (by omega)]; rfl
  have c2 : w1.cell? ⟨g, 2, none⟩ = some (.string (str p2)) := by rw [hown'.cellAt 2 (by omega)]; rfl
  rw [hv]
  have hfin := hid_of (Below.next HB.out hb1)
  clear hown hown' hv hb1 HC HB HP T1 T2
  go_wp2_with fail
  go_ret
  exact ⟨rfl, hfin.out⟩
end Go.Proofs.Ytonjphollmdicaa
