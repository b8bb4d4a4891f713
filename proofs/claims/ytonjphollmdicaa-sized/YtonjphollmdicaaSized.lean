import Derived.Test.YtonjphollmdicaaKMade

import Derived.WalkSpells
import Derived.BigQuiet
import Derived.Deep.QuietTactic
namespace Go.Proofs.Ytonjphollmdicaa
open Go.ChangeShapes Go.WideShapes Go.ChangeAt Go.RowKit

/-! ### what a packet has in it -/
theorem seal_take3 (k : UInt8) (set : Nat) (b : List UInt8) : (sealL k set b).take 3 = [83, 65, 76] := rfl
theorem seal_kind (k : UInt8) (set : Nat) (b : List UInt8) : (sealL k set b)[3]?.getD 0 = k := rfl
theorem seal_set (k : UInt8) (set : Nat) (b : List UInt8) : ((sealL k set b).drop 4).take 8 = numBytes set 8 := by
  have e : sealL k set b = [83, 65, 76, k] ++ (numBytes set 8 ++ (numBytes b.length 2 ++ b ++ numBytes (hashL (headL k set b)) 8)) := by
    unfold sealL headL
    simp only [List.append_assoc]
  rw [e, List.drop_left' (by rfl), List.take_left' (numBytes_len _ _)]
theorem head_len (k : UInt8) (set : Nat) (b : List UInt8) : (headL k set b).length = 14 + b.length := by
  unfold headL
  simp only [List.length_append, numBytes_len, List.length_cons, List.length_nil]
theorem seal_head (k : UInt8) (set : Nat) (b : List UInt8) : (sealL k set b).take ((sealL k set b).length - 8) = headL k set b := by
  rw [sealL_len]
  unfold sealL
  exact List.take_left' (by rw [head_len]; omega)
theorem numBytes_at (n : Nat) : ∀ (m k : Nat), k < m → (numBytes n m)[m - 1 - k]?.getD 0 = byteAt n k := by
  intro m
  induction m with
  | zero => intro k h; omega
  | succ m ih =>
    intro k h
    simp only [numBytes]
    by_cases hk : k = m
    · subst hk
      rw [show k + 1 - 1 - k = 0 from by omega]
      rfl
    · rw [show m + 1 - 1 - k = (m - 1 - k) + 1 from by omega, List.getElem?_cons_succ]
      exact ih k (by omega)
theorem seal_hash (kd : UInt8) (set : Nat) (b : List UInt8) (k : Nat) (hk : k < 8) : (sealL kd set b)[(sealL kd set b).length - 1 - k]?.getD 0 = byteAt (hashL (headL kd set b)) k := by
  rw [sealL_len]
  have e : 22 + b.length - 1 - k = (headL kd set b).length + (8 - 1 - k) := by rw [head_len]; omega
  rw [e]
  unfold sealL
  rw [List.getElem?_append_right (by omega), Nat.add_sub_cancel_left]
  exact numBytes_at _ 8 k hk

/-- of packet i: its kind, its body -/
def kindAt (n i : Nat) : UInt8 := if i = 0 then 77 else if i ≤ n then 70 else 82
def bodyAt (size : Nat) (fs : List FileL) (i : Nat) : List UInt8 := if i = 0 then mainL size fs else if i ≤ fs.length then bodyL size fs (i - 1) else extraBodyL (i - 1 - fs.length) (textL (extraL (rowsL size fs) (size / 2) (i - 1 - fs.length)))
theorem packet_at (size : Nat) (fs : List FileL) (extra i : Nat) (h : i < 1 + fs.length + extra) : (packetsL size fs extra)[i]? = some (sealL (kindAt fs.length i) (setL size fs) (bodyAt size fs i)) := by
  unfold packetsL kindAt bodyAt
  by_cases h0 : i = 0
  · subst h0; rfl
  · rw [if_neg h0, if_neg h0]
    obtain ⟨j, rfl⟩ : ∃ j, i = j + 1 := ⟨i - 1, by omega⟩
    rw [List.getElem?_cons_succ]
    have hfl : (fPacketsL size fs).length = fs.length := by simp [fPacketsL, bodiesL]
    by_cases h1 : j + 1 ≤ fs.length
    · rw [if_pos h1, if_pos h1, List.getElem?_append_left (by omega)]
      simp [fPacketsL, bodiesL, show j < fs.length from by omega]
    · rw [if_neg h1, if_neg h1, List.getElem?_append_right (by omega), hfl]
      have hx : j - fs.length < extra := by omega
      simp [rPacketsL, hx, rPacketL]
theorem packets_len (size : Nat) (fs : List FileL) (extra : Nat) : (packetsL size fs extra).length = 1 + fs.length + extra := by
  simp [packetsL, fPacketsL, bodiesL, rPacketsL]
  omega
def bodyLen (size : Nat) (fs : List FileL) (i : Nat) : Nat := if i = 0 then 3 + 8 * fs.length else if i ≤ fs.length then 12 + (fs.getD (i - 1) ([], [])).1.length + 8 * slicesOfN (fs.getD (i - 1) ([], [])).2.length size else 2 + 2 * (size / 2)
theorem bodyAt_len (size : Nat) (fs : List FileL) (i : Nat) (h0 : 0 < size) : (bodyAt size fs i).length = bodyLen size fs i := by
  unfold bodyAt bodyLen
  split
  · exact mainL_len size fs
  · split
    · exact bodyL_len size fs (i - 1) h0
    · unfold extraBodyL; rw [List.length_append, numBytes_len, textL_len, extraL_len]

theorem below_drewN {B : Nat} {a w : World} (h : Below B a w) (n : Nat) : Below B a (w.drewN n) := ⟨h.os, h.tape, h.output, h.size, h.block⟩

theorem kExtra_le (s : KSet) : kExtra s ≤ 20 := by have := pickN_lt s.ex 21 (by omega); unfold kExtra; omega

set_option maxRecDepth 100000 in
set_option maxHeartbeats 4000000 in
theorem sized_walk (s : KSet) (a : Option Addr) (cap : Nat) (w : World) (h : KOk w s a cap) :
    Calls Try.prog 5 #[kV s a cap] w fun e w' => e = .returned (.bool true) ∧ Below w.heap.size w w' := by
  have hb0 : Below w.heap.size w (w.alloc (.cells #[.slice a s.D.length cap, .int .i64 s.sl, .int .i64 s.ex] 37)) := (Below.refl _ _).alloc (Nat.le_refl _) _
  have hbx0 : (w.alloc (.cells #[.slice a s.D.length cap, .int .i64 s.sl, .int .i64 s.ex] 37)).cell? ⟨w.heap.size, 0, none⟩ = some (.slice a s.D.length cap) := by simp
  have hbx1 : (w.alloc (.cells #[.slice a s.D.length cap, .int .i64 s.sl, .int .i64 s.ex] 37)).cell? ⟨w.heap.size, 1, none⟩ = some (.int .i64 s.sl) := by simp
  have hbx2 : (w.alloc (.cells #[.slice a s.D.length cap, .int .i64 s.sl, .int .i64 s.ex] 37)).cell? ⟨w.heap.size, 2, none⟩ = some (.int .i64 s.ex) := by simp
  obtain ⟨W0, hW0⟩ : ∃ W0, W0 = w.alloc (.cells #[.slice a s.D.length cap, .int .i64 s.sl, .int .i64 s.ex] 37) := ⟨_, rfl⟩
  rw [← hW0] at hb0 hbx0 hbx1 hbx2
  have hs0 : W0.heap.size = w.heap.size + 1 := by rw [hW0]; simp
  have hall : ∀ W, Below W0.heap.size W0 W → KOk W s a cap ∧ W.cell? ⟨w.heap.size, 0, none⟩ = some (.slice a s.D.length cap) ∧ W.cell? ⟨w.heap.size, 1, none⟩ = some (.int .i64 s.sl) ∧ W.cell? ⟨w.heap.size, 2, none⟩ = some (.int .i64 s.ex) := by
    intro W hW
    refine ⟨h.later (Below.next hb0 hW), ?_, ?_, ?_⟩
    · rw [hW.cell (by rw [hs0]; simp)]; exact hbx0
    · rw [hW.cell (by rw [hs0]; simp)]; exact hbx1
    · rw [hW.cell (by rw [hs0]; simp)]; exact hbx2
  have HA := hid_of hall
  have HW := hid_of hW0
  have HB0 := hid_of hb0
  unfold kV
  clear hall hW0 hb0 hbx0 hbx1 hbx2 hs0 h
  go_enter Try.func5, Try.ntmps5
  go_wp2_with fail
  rw [← HW.out]
  refine (kcreated_walk W0).mono ?_
  rintro e w1 ⟨ad, c0, rfl, hb1⟩
  obtain ⟨hk1, q0, q1, q2⟩ := HA.out w1 hb1
  have hM := kmade_walk s a cap w1 hk1
  unfold kV at hM
  have HM := hid_of hM
  have HB1 := hid_of hb1
  clear hM hk1 hb1
  go_wp2_with fail
  refine HM.out.mono ?_
  rintro e w2 ⟨g1, c1, vp, rfl, hrdf, hownp, hb2⟩
  have hb02 := Below.next HB1.out hb2
  obtain ⟨hk2, q0, q1, q2⟩ := HA.out w2 hb02
  obtain ⟨k1, k2, k3⟩ := kFiles_short s
  have hex := kExtra_le s
  obtain ⟨gp, cp, hvp⟩ : ∃ gp cp, vp = .slice (some ⟨gp, 0, none⟩) (1 + (kFiles s).length + kExtra s) cp := by
    rcases hownp.2 with ⟨_, h1⟩ | ⟨g, c, cur, h1, _⟩
    · omega
    · exact ⟨_, _, h1⟩
  rw [hvp] at hownp ⊢
  have hcells : ∀ i, i < 1 + (kFiles s).length + kExtra s → w2.cell? ⟨gp, i, none⟩ = some (.string (str (sealL (kindAt (kFiles s).length i) (setL (kSize s) (kFiles s)) (bodyAt (kSize s) (kFiles s) i)))) := by
    intro i hi
    rw [hownp.cellAt i (by omega)]
    simp only [strV, List.getElem?_map, packet_at _ _ _ i hi, Option.map_some]
  have hS := kslice_walk s a cap w2 hk2
  unfold kV at hS
  have hgl : gp < w2.heap.size := World.block_lt_of_cell? w2 _ (hcells 0 (by omega))
  have hnil := fun W => Lib.run_eql_slice_nil (P := Try.prog) W 28 9 (some ad) 3 c0 0 0 Try.underlying28
  have A1 := hid_of hrdf
  have A2 := hid_of hcells
  have A3 := hid_of hS
  have A4 := hid_of hb02
  have A5 := hid_of k1
  clear hrdf hcells hS hb02 hownp hvp k1 hk2 hb2 HM HB1
  go_wp2_with fail
  refine A3.out.mono ?_
  rintro e w3 ⟨rfl, hb3⟩
  obtain ⟨z0, z1, z2, z3⟩ := kSize_facts s
  have hbl := fun i => bodyAt_len (kSize s) (kFiles s) i z0
  have hcells3 : ∀ i, i < 1 + (kFiles s).length + kExtra s → w3.cell? ⟨gp, i, none⟩ = some (.string (str (sealL (kindAt (kFiles s).length i) (setL (kSize s) (kFiles s)) (bodyAt (kSize s) (kFiles s) i)))) := by
    intro i hi
    rw [hb3.cell hgl]
    exact A2.out i hi
  have hrdf3 := A1.out.later (Nat.le_refl _) hb3
  have hb03 := Below.next HB0.out (Below.next A4.out hb3)
  obtain ⟨P, hP⟩ : ∃ P : Nat → List UInt8, ∀ i, P i = sealL (kindAt (kFiles s).length i) (setL (kSize s) (kFiles s)) (bodyAt (kSize s) (kFiles s) i) := ⟨_, fun _ => rfl⟩
  have hPlen : ∀ i, (P i).length = 22 + bodyLen (kSize s) (kFiles s) i := by intro i; rw [hP, sealL_len, hbl]
  have hPc : ∀ i, i < 1 + (kFiles s).length + kExtra s → w3.cell? ⟨gp, i, none⟩ = some (.string (str (P i))) := by intro i hi; rw [hP]; exact hcells3 i hi
  have hc0 := hPc 0 (by omega)
  have hl0 : (str (P 0)).size = 25 + 8 * (kFiles s).length := by rw [str_size, hPlen]; simp [bodyLen]; omega
  obtain ⟨nf, hnf⟩ : ∃ n, n = (kFiles s).length := ⟨_, rfl⟩
  obtain ⟨ex, hexx⟩ : ∃ n, n = kExtra s := ⟨_, rfl⟩
  obtain ⟨sz, hsz⟩ : ∃ n, n = kSize s := ⟨_, rfl⟩
  have B1 := hid_of hP
  have B2 := hid_of hPlen
  have B3 := hid_of hPc
  have B4 := hid_of hrdf3
  have B5 := hid_of hb03
  rw [← hnf, ← hexx] at B3 ⊢
  rw [← hsz]
  rw [← hnf] at hl0 k2 k3
  rw [← hexx] at hex
  have N1 := hid_of hnf
  have N2 := hid_of hexx
  have N3 := hid_of hsz
  have Z0 := hid_of z0
  have hszb : sz ≤ 8 := by rw [hsz]; exact z1
  have hsz0 : 0 < sz := by rw [hsz]; exact z0
  have hsz2 : sz % 2 = 0 := by rw [hsz]; exact z2
  clear hP hPlen hPc hrdf3 hb03 hcells3 hbl hnf hexx hsz hb3 hgl z0 z1 z2 z3 A1 A2 A3 A4 HB0 hnil q0 q1 q2
  go_wp2_with fail
  go_loopw [8, 9, 10, 11, 12, 13] (fun i _ _ _ _ _ wr => ∃ k : Nat, k ≤ 1 + nf + ex ∧ i = .int .i64 (k : Int) ∧ Below w3.heap.size w3 wr)
    (fun i _ _ _ _ _ _ => 1 + nf + ex - (intOf i).toNat)
  case atStart => exact ⟨0, by omega, rfl, Below.refl _ _⟩
  case round =>
    clear hc0
    obtain ⟨i, hi, rfl, hbl⟩ := hrel
    by_cases hlt : i < 1 + nf + ex
    · have hgl : gp < w3.heap.size := World.block_lt_of_cell? w3 _ (B3.out 0 (by omega))
      have hci : wr.cell? ⟨gp, i, none⟩ = some (.string (str (P i))) := by rw [hbl.cell hgl]; exact B3.out i hlt
      have hc0 : wr.cell? ⟨gp, 0, none⟩ = some (.string (str (P 0))) := by rw [hbl.cell hgl]; exact B3.out 0 (by omega)
      have hx3 : ∀ k, (str (P k)).extract 0 3 = ByteArray.mk #[83, 65, 76] := by intro k; rw [str_extract, B1.out]; rfl
      obtain ⟨SB, hSB⟩ : ∃ SB, SB = str (numBytes (setL (kSize s) (kFiles s)) 8) := ⟨_, rfl⟩
      have hx12 : ∀ k, (str (P k)).extract 4 12 = SB := by intro k; rw [str_extract, B1.out, hSB, ← seal_set (kindAt (kFiles s).length k) (setL (kSize s) (kFiles s)) (bodyAt (kSize s) (kFiles s) k)]
      clear hSB
      have hk3 : (P i)[3]?.getD 0 = kindAt nf i := by rw [B1.out, N1.out]; rfl
      have hge : 22 ≤ (P i).length := by rw [B2.out]; omega
      have hge0 : 22 ≤ (P 0).length := by rw [B2.out]; omega
      have hix := index_str (P i) 3 3 rfl (by omega)
      rw [hk3] at hix
      have hlen : (P i).length = 22 + bodyLen sz (kFiles s) i := by rw [B2.out, N3.out]
      have hsi := str_size (P i)
      have hs0 := str_size (P 0)
      have b3 : (3 : Int) ≤ ((str (P i)).size : Int) := by omega
      have b12 : (12 : Int) ≤ ((str (P i)).size : Int) := by omega
      have b120 : (12 : Int) ≤ ((str (P 0)).size : Int) := by omega
      have D1 := hid_of hlen
      have D2 := hid_of hk3
      clear hk3 hlen
      by_cases hi0 : i = 0
      · have t1 : ¬ 0 < (i : Int) := by omega
        have t2 : ¬ (nf : Int) < (i : Int) := by omega
        have hlen : (P i).length = 22 + (3 + 8 * nf) := by rw [D1.out, hi0]; unfold bodyLen; rw [if_pos rfl, N1.out]
        have hkd : kindAt nf i = 77 := by rw [hi0]; rfl
        rw [hkd] at hix
        have hix' : ∀ W, (Instr.index 9 (.string (str (P i))) (.int .i64 3)).run Try.prog W = .ok (.int .u8 77) W := hix
        have HI := hid_of hi0
        have HKD := hid_of hkd
        obtain ⟨HD, hHD⟩ : ∃ x, x = headL (kindAt (kFiles s).length i) (setL (kSize s) (kFiles s)) (bodyAt (kSize s) (kFiles s) i) := ⟨_, rfl⟩
        have hHl : HD.length = 22 + (3 + 8 * nf) - 8 := by
          have := head_len (kindAt (kFiles s).length i) (setL (kSize s) (kFiles s)) (bodyAt (kSize s) (kFiles s) i)
          rw [← hHD] at this
          have h2 := sealL_len (kindAt (kFiles s).length i) (setL (kSize s) (kFiles s)) (bodyAt (kSize s) (kFiles s) i)
          rw [← B1.out, hlen] at h2
          omega
        have hxh : (str (P i)).extract 0 (22 + (3 + 8 * nf) - 8) = str HD := by
          rw [str_extract, ← hlen, B1.out, hHD, Nat.sub_zero, List.drop_zero, seal_head]
        obtain ⟨hv, hhv⟩ : ∃ x, x = hashL HD := ⟨_, rfl⟩
        have E1 := hid_of hHD
        have E2 := hid_of hhv
        have E3 := hid_of hHl
        have F1 := hid_of hbl
        clear hHD hhv hbl
        clear hi0 hix hkd hge hge0
        go_wp2_with fail
        go_quiet (fail)
        go_wp2_with fail
        go_quiet ((go_at_call 18; refine (khash_l HD (by omega) _).mono ?_; rintro e w' ⟨rfl, rfl⟩; exact ⟨rfl, _, rfl⟩))
        rw [← E2.out]
        go_wp2_with fail
        go_loopw [13] (fun j wr => ∃ q : Nat, q ≤ 8 ∧ j = .int .i64 (q : Int) ∧ Below w3.heap.size w3 wr)
          (fun j _ => 8 - (intOf j).toNat)
        case atStart => exact ⟨0, by omega, rfl, below_drewN (below_drewN F1.out _) _⟩
        case round =>
          obtain ⟨q, hq, rfl, hbl⟩ := hrel
          by_cases hq8 : q < 8
          · have hci8 : wr.cell? ⟨gp, i, none⟩ = some (.string (str (P i))) := by rw [hbl.cell hgl]; exact B3.out i hlt
            have hix8 : ∀ W, (Instr.index 9 (.string (str (P i))) (.int .i64 (22 + (3 + 8 * (nf : Int)) - 1 - (q : Int)))).run Try.prog W = .ok (.int .u8 ((hv : Int) / 2 ^ (8 * q) % 256)) W := by
              intro W
              have h1 := index_str (P i) ((P i).length - 1 - q) (22 + (3 + 8 * (nf : Int)) - 1 - (q : Int)) (by rw [hlen]; omega) (by rw [hlen]; omega) W
              have h2 := seal_hash (kindAt (kFiles s).length i) (setL (kSize s) (kFiles s)) (bodyAt (kSize s) (kFiles s) i) q hq8
              rw [← B1.out, ← E1.out, ← E2.out] at h2
              rw [h2, ← byteAt_spelt] at h1
              exact h1
            have HBL := hid_of hbl
            clear hbl
            go_wp2_with fail
            go_quiet (fail)
            go_wp2_with fail
            go_roundw
            case rel => exact ⟨q + 1, by omega, by go_num, below_drewN HBL.out _⟩
            case measure => simp [intOf]; omega
          · obtain rfl : q = 8 := by omega
            go_wp2_with fail
            go_roundw
            case rel => exact ⟨i + 1, by omega, by go_num, hbl⟩
            case measure => simp [intOf]; omega
      · by_cases hif : i ≤ nf
        · obtain ⟨m, rfl⟩ : ∃ m, i = m + 1 := ⟨i - 1, by omega⟩
          have hml : m < (kFiles s).length := by rw [← N1.out]; omega
          obtain ⟨bf, of, e, hcn0, hcd0⟩ := fileCells B4.out (Nat.le_refl _) hbl m hml
          cases e
          rw [Nat.zero_add] at hcn0 hcd0
          obtain ⟨nm, hnm⟩ : ∃ x, x = (kFiles s)[m].1 := ⟨_, rfl⟩
          obtain ⟨dt, hdt⟩ : ∃ x, x = (kFiles s)[m].2 := ⟨_, rfl⟩
          rw [← hnm] at hcn0
          rw [← hdt] at hcd0
          have hsh := A5.out _ (List.getElem_mem hml)
          rw [← hnm, ← hdt] at hsh
          obtain ⟨kk, hkk⟩ : ∃ x, x = slicesOfN dt.length sz := ⟨_, rfl⟩
          have hkk2 := slices_15 dt.length sz hsh.2 (by omega)
          rw [← hkk] at hkk2
          have ekk : ((dt.length : Int) + (sz : Int) - 1) / (sz : Int) = (kk : Int) := by
            rw [hkk]
            unfold slicesOfN
            rw [Int.natCast_ediv]
            congr 1
            omega
          have hsn := str_size nm
          have hsd := str_size dt
          have hlen : (P (m + 1)).length = 22 + (12 + nm.length + 8 * kk) := by
            rw [D1.out]
            unfold bodyLen
            rw [if_neg (by omega), if_pos (by rw [← N1.out]; omega), hkk, hdt, hnm]
            simp [hml]
          have hkd : kindAt nf (m + 1) = 70 := by unfold kindAt; rw [if_neg (by omega), if_pos hif]
          rw [hkd] at hix
          have hix' : ∀ W, (Instr.index 9 (.string (str (P (m + 1)))) (.int .i64 3)).run Try.prog W = .ok (.int .u8 70) W := hix
          have t1 : (m : Int) < (nf : Int) := by omega
          have hnl2 : nm.length ≤ 2 := by omega
          have hdl : dt.length ≤ 30 := hsh.2
          have G1 := hid_of hkk
          have G2 := hid_of hnm
          have G3 := hid_of hdt
          have G4 := hid_of hsh
          clear hkk hnm hdt hsh
          have HKD := hid_of hkd
          obtain ⟨HD, hHD⟩ : ∃ x, x = headL (kindAt (kFiles s).length (m + 1)) (setL (kSize s) (kFiles s)) (bodyAt (kSize s) (kFiles s) (m + 1)) := ⟨_, rfl⟩
          have hHl : HD.length = 22 + (12 + nm.length + 8 * kk) - 8 := by
            have := head_len (kindAt (kFiles s).length (m + 1)) (setL (kSize s) (kFiles s)) (bodyAt (kSize s) (kFiles s) (m + 1))
            rw [← hHD] at this
            have h2 := sealL_len (kindAt (kFiles s).length (m + 1)) (setL (kSize s) (kFiles s)) (bodyAt (kSize s) (kFiles s) (m + 1))
            rw [← B1.out, hlen] at h2
            omega
          have hxh : (str (P (m + 1))).extract 0 (22 + (12 + nm.length + 8 * kk) - 8) = str HD := by
            rw [str_extract, ← hlen, B1.out, hHD, Nat.sub_zero, List.drop_zero, seal_head]
          obtain ⟨hv, hhv⟩ : ∃ x, x = hashL HD := ⟨_, rfl⟩
          have E1 := hid_of hHD
          have E2 := hid_of hhv
          have E3 := hid_of hHl
          have F1 := hid_of hbl
          clear hHD hhv hbl
          clear hix hkd hge hge0
          go_wp2_with fail
          go_quiet (fail)
          go_wp2_with fail
          go_quiet ((go_at_call 18; refine (khash_l HD (by omega) _).mono ?_; rintro e w' ⟨rfl, rfl⟩; exact ⟨rfl, _, rfl⟩))
          rw [← E2.out]
          go_wp2_with fail
          go_loopw [13] (fun j wr => ∃ q : Nat, q ≤ 8 ∧ j = .int .i64 (q : Int) ∧ Below w3.heap.size w3 wr)
            (fun j _ => 8 - (intOf j).toNat)
          case atStart => exact ⟨0, by omega, rfl, below_drewN (below_drewN F1.out _) _⟩
          case round =>
            obtain ⟨q, hq, rfl, hbl⟩ := hrel
            by_cases hq8 : q < 8
            · have hci8 : wr.cell? ⟨gp, (m + 1), none⟩ = some (.string (str (P (m + 1)))) := by rw [hbl.cell hgl]; exact B3.out (m + 1) hlt
              have hix8 : ∀ W, (Instr.index 9 (.string (str (P (m + 1)))) (.int .i64 (22 + (12 + (nm.length : Int) + 8 * (kk : Int)) - 1 - (q : Int)))).run Try.prog W = .ok (.int .u8 ((hv : Int) / 2 ^ (8 * q) % 256)) W := by
                intro W
                have h1 := index_str (P (m + 1)) ((P (m + 1)).length - 1 - q) (22 + (12 + (nm.length : Int) + 8 * (kk : Int)) - 1 - (q : Int)) (by rw [hlen]; omega) (by rw [hlen]; omega) W
                have h2 := seal_hash (kindAt (kFiles s).length (m + 1)) (setL (kSize s) (kFiles s)) (bodyAt (kSize s) (kFiles s) (m + 1)) q hq8
                rw [← B1.out, ← E1.out, ← E2.out] at h2
                rw [h2, ← byteAt_spelt] at h1
                exact h1
              have HBL := hid_of hbl
              clear hbl
              go_wp2_with fail
              go_quiet (fail)
              go_wp2_with fail
              go_roundw
              case rel => exact ⟨q + 1, by omega, by go_num, below_drewN HBL.out _⟩
              case measure => simp [intOf]; omega
            · obtain rfl : q = 8 := by omega
              go_wp2_with fail
              go_roundw
              case rel => exact ⟨m + 1 + 1, by omega, by go_num, hbl⟩
              case measure => simp [intOf]; omega
        · have t1 : 0 < (i : Int) := by omega
          have t2 : (nf : Int) < (i : Int) := by omega
          have hlen : (P i).length = 22 + (2 + sz) := by
            rw [D1.out]
            unfold bodyLen
            rw [if_neg hi0, if_neg (by rw [← N1.out]; exact hif)]
            omega
          have hkd : kindAt nf i = 82 := by unfold kindAt; rw [if_neg hi0, if_neg hif]
          rw [hkd] at hix
          have hix' : ∀ W, (Instr.index 9 (.string (str (P i))) (.int .i64 3)).run Try.prog W = .ok (.int .u8 82) W := hix
          have HI := hid_of hi0
          have HKD := hid_of hkd
          clear hi0 hif
          obtain ⟨HD, hHD⟩ : ∃ x, x = headL (kindAt (kFiles s).length i) (setL (kSize s) (kFiles s)) (bodyAt (kSize s) (kFiles s) i) := ⟨_, rfl⟩
          have hHl : HD.length = 22 + (2 + sz) - 8 := by
            have := head_len (kindAt (kFiles s).length i) (setL (kSize s) (kFiles s)) (bodyAt (kSize s) (kFiles s) i)
            rw [← hHD] at this
            have h2 := sealL_len (kindAt (kFiles s).length i) (setL (kSize s) (kFiles s)) (bodyAt (kSize s) (kFiles s) i)
            rw [← B1.out, hlen] at h2
            omega
          have hxh : (str (P i)).extract 0 (22 + (2 + sz) - 8) = str HD := by
            rw [str_extract, ← hlen, B1.out, hHD, Nat.sub_zero, List.drop_zero, seal_head]
          obtain ⟨hv, hhv⟩ : ∃ x, x = hashL HD := ⟨_, rfl⟩
          have E1 := hid_of hHD
          have E2 := hid_of hhv
          have E3 := hid_of hHl
          have F1 := hid_of hbl
          clear hHD hhv hbl
          clear hix hkd hge hge0
          go_wp2_with fail
          go_quiet (fail)
          go_wp2_with fail
          go_quiet ((go_at_call 18; refine (khash_l HD (by omega) _).mono ?_; rintro e w' ⟨rfl, rfl⟩; exact ⟨rfl, _, rfl⟩))
          rw [← E2.out]
          go_wp2_with fail
          go_loopw [13] (fun j wr => ∃ q : Nat, q ≤ 8 ∧ j = .int .i64 (q : Int) ∧ Below w3.heap.size w3 wr)
            (fun j _ => 8 - (intOf j).toNat)
          case atStart => exact ⟨0, by omega, rfl, below_drewN (below_drewN F1.out _) _⟩
          case round =>
            obtain ⟨q, hq, rfl, hbl⟩ := hrel
            by_cases hq8 : q < 8
            · have hci8 : wr.cell? ⟨gp, i, none⟩ = some (.string (str (P i))) := by rw [hbl.cell hgl]; exact B3.out i hlt
              have hix8 : ∀ W, (Instr.index 9 (.string (str (P i))) (.int .i64 (22 + (2 + (sz : Int)) - 1 - (q : Int)))).run Try.prog W = .ok (.int .u8 ((hv : Int) / 2 ^ (8 * q) % 256)) W := by
                intro W
                have h1 := index_str (P i) ((P i).length - 1 - q) (22 + (2 + (sz : Int)) - 1 - (q : Int)) (by rw [hlen]; omega) (by rw [hlen]; omega) W
                have h2 := seal_hash (kindAt (kFiles s).length i) (setL (kSize s) (kFiles s)) (bodyAt (kSize s) (kFiles s) i) q hq8
                rw [← B1.out, ← E1.out, ← E2.out] at h2
                rw [h2, ← byteAt_spelt] at h1
                exact h1
              have HBL := hid_of hbl
              clear hbl
              go_wp2_with fail
              go_quiet (fail)
              go_wp2_with fail
              go_roundw
              case rel => exact ⟨q + 1, by omega, by go_num, below_drewN HBL.out _⟩
              case measure => simp [intOf]; omega
            · obtain rfl : q = 8 := by omega
              go_wp2_with fail
              go_roundw
              case rel => exact ⟨i + 1, by omega, by go_num, hbl⟩
              case measure => simp [intOf]; omega
    · obtain rfl : i = 1 + nf + ex := by omega
      have hfin := Below.next B5.out hbl
      go_wp2_with fail
      go_ret
      exact ⟨rfl, hfin⟩
end Go.Proofs.Ytonjphollmdicaa
