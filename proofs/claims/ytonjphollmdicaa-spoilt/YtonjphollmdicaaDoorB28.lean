import Derived.Test.YtonjphollmdicaaDoorB07
import Derived.Test.YtonjphollmdicaaDoorB15
import Derived.Test.YtonjphollmdicaaDoorB27
import Derived.Test.YtonjphollmdicaaDoorRows
import Derived.WalkKit
import Derived.ProofKit
import Derived.OpenShut
import Derived.ShutString
import Derived.ChangeOld
import Derived.Below
import Derived.LaidMore
import Derived.Stop.Joined
import Derived.Deep.SlicePairs
import Derived.Lib.SmallJoins
import Derived.Lib.LaidTab
import Derived.SliceStrings
import Derived.Test.YtonjphollmdicaaDoorCards
import Derived.Test.YtonjphollmdicaaDoorTie
import Derived.Deep.DeepHandedRow
namespace Go.Proofs.YtonjphollmdicaaDoor
open Go.ChangeShapes Go.WideShapes Go.ChangeAt Go.RowKit

theorem kExtra_le (s : KSet) : kExtra s ≤ 20 := by have := pickN_lt s.ex 21 (by omega); unfold kExtra; omega

theorem bytes_frozen (w : World) (e : TypeId) (s : ByteArray) (j : Nat) (hj : j < s.size) : (Lib.bytesWorld w e s).frozen? ⟨w.heap.size, j, none⟩ = false := by
  have h1 : s.size ≤ (Lib.bytesCells w e s).size := by
    unfold Lib.bytesCells
    rw [Array.size_append, Array.size_map]
    exact Nat.le_add_right _ _
  unfold World.frozen?
  simp only [Lib.bytesWorld_at_new]
  simp
  omega
theorem bytes_blk (w : World) (l : List UInt8) : Blk (Lib.bytesWorld w 5 (str l)) w.heap.size (bytesV l) := fun k u hk => by
  have hlt : k < l.length := by
    have := (List.getElem?_eq_some_iff.1 hk).1
    simpa [bytesV] using this
  have hs : k < (str l).size := by rw [str_size]; exact hlt
  refine ⟨?_, bytes_frozen _ _ _ k hs⟩
  rw [Lib.bytesWorld_cell w 5 (str l) k hs, ← hk]
  simp [bytesV, str, hlt]
theorem bytes_below (w : World) (e : TypeId) (s : ByteArray) : Below w.heap.size w (Lib.bytesWorld w e s) := ⟨rfl, rfl, rfl, by rw [Lib.bytesWorld_size]; omega, fun k hk => Lib.bytesWorld_at_old _ _ _ _ hk⟩

theorem wrap_small (x : Int) (h1 : 0 ≤ x) (h2 : x ≤ 1000) : IntKind.i64.wrap x = x := by rw [IntKind.wrap_i64]; omega
theorem byte_up (b : UInt8) (p : Nat) (hp : p < 255) : IntKind.u8.wrap (IntKind.i64.wrap (IntKind.i64.wrap (IntKind.i64.wrap (b.toNat : Int) + 1) + (p : Int))) = ((UInt8.ofNat (b.toNat + 1 + p)).toNat : Int) := by
  have hb := b.toNat_lt
  rw [wrap_small (b.toNat : Int) (by omega) (by omega), wrap_small ((b.toNat : Int) + 1) (by omega) (by omega), wrap_small ((b.toNat : Int) + 1 + (p : Int)) (by omega) (by omega), IntKind.wrap_u8, UInt8.toNat_ofNat']
  omega

set_option maxRecDepth 100000 in
set_option maxHeartbeats 4000000 in
theorem spoilt_walk (s : KSet) (a : Option Addr) (cap : Nat) (x1 x2 x3 : Int) (hx1 : -9223372036854775808 ≤ x1 ∧ x1 ≤ 9223372036854775807) (hx2 : -9223372036854775808 ≤ x2 ∧ x2 ≤ 9223372036854775807) (hx3 : -9223372036854775808 ≤ x3 ∧ x3 ≤ 9223372036854775807) (w : World) (hK : Kinds w) (h : KOk w s a cap) :
    Calls Tryd.prog 3 #[kV s a cap, .int .i64 x1, .int .i64 x2, .int .i64 x3] w fun e w' => e = .returned (.bool true) ∧ Below w.heap.size w w' := by
  have hb0 : Below w.heap.size w (w.alloc (.cells #[.slice a s.D.length cap, .int .i64 s.sl, .int .i64 s.ex] 24)) := (Below.refl _ _).alloc (Nat.le_refl _) _
  have hbk := Blk.new w #[.slice a s.D.length cap, .int .i64 s.sl, .int .i64 s.ex] 24
  obtain ⟨W0, hW0⟩ : ∃ W0, W0 = w.alloc (.cells #[.slice a s.D.length cap, .int .i64 s.sl, .int .i64 s.ex] 24) := ⟨_, rfl⟩
  rw [← hW0] at hb0 hbk
  have hs0 : W0.heap.size = w.heap.size + 1 := by rw [hW0]; simp
  have hall : ∀ W, Below W0.heap.size W0 W → Kinds W ∧ KOk W s a cap ∧ W.cell? ⟨w.heap.size, 0, none⟩ = some (.slice a s.D.length cap) ∧ W.cell? ⟨w.heap.size, 1, none⟩ = some (.int .i64 s.sl) ∧ W.cell? ⟨w.heap.size, 2, none⟩ = some (.int .i64 s.ex) := by
    intro W hW
    have hk := hbk.touch (Touch.of_below hW []) (by simp)
    exact ⟨hK.later (Below.next hb0 hW) hK.lt, h.later (Below.next hb0 hW), (hk 0 _ rfl).1, (hk 1 _ rfl).1, (hk 2 _ rfl).1⟩
  have HA := hid_of hall
  have HW := hid_of hW0
  have HB0 := hid_of hb0
  unfold kV
  clear hall hW0 hb0 hbk hs0 h hK
  go_enter Tryd.func3, Tryd.ntmps3
  go_wp2_with fail
  rw [← HW.out]
  refine (klooked_walk W0 (HA.out W0 (Below.refl _ _)).1).mono ?_
  rintro e w1 ⟨rfl, hb1⟩
  obtain ⟨hk1, hok1, q0, q1, q2⟩ := HA.out w1 hb1
  have hM := kmade_walk s a cap w1 hok1
  unfold kV at hM
  have HM := hid_of hM
  have HB1 := hid_of hb1
  clear hM hk1 hb1 hok1
  go_wp2_with fail
  refine HM.out.mono ?_
  rintro e w2 ⟨g1, c1, vp, rfl, hrdf, hownp, hb2⟩
  have hb02 := Below.next HB1.out hb2
  obtain ⟨hk2, hok2, q0, q1, q2⟩ := HA.out w2 hb02
  obtain ⟨k1, k2, k3⟩ := kFiles_short s
  have hex := kExtra_le s
  have hX := kextra_walk s a cap w2 hok2
  unfold kV at hX
  have HX := hid_of hX
  have HB2 := hid_of hb02
  have HP := hid_of hownp
  have HF := hid_of hrdf
  obtain ⟨gp, cp, hvp⟩ : ∃ gp cp, vp = .slice (some ⟨gp, 0, none⟩) (1 + (kFiles s).length + kExtra s) cp := by
    rcases hownp.2 with ⟨_, h1⟩ | ⟨g, c, cur, h1, _⟩
    · omega
    · exact ⟨_, _, h1⟩
  have HVP := hid_of hvp
  clear hX hk2 hok2 hb2 hb02 hownp hrdf HM HB1 hvp
  rw [HVP.out]
  go_wp2_with fail
  refine HX.out.mono ?_
  rintro e w3 ⟨rfl, hb3⟩
  have hb03 := Below.next HB2.out hb3
  obtain ⟨hk3, hok3, q0, q1, q2⟩ := HA.out w3 hb03
  have hp3 := ownsRow_later HP.out (Nat.le_refl _) hb3
  have hf3 := HF.out.later (Nat.le_refl _) hb3
  obtain ⟨z0, z1, z2, z3⟩ := kSize_facts s
  have hgd := kSet_good s
  have hvr : Rd w3 (some ⟨gp, 0, none⟩) (strV (packetsL (kSize s) (kFiles s) (kExtra s))) := by
    obtain ⟨a', c', e, hr⟩ := row_rd hp3
    rw [HVP.out] at e
    cases e
    exact hr
  have hlk := Look_walk [] (packetsL (kSize s) (kFiles s) (kExtra s)) none (some ⟨gp, 0, none⟩) 0 cp w3 hk3 (fun k u hu => by simp [filesV] at hu) hvr
  rw [look_made z3 (by omega) (by omega) z2 hex hgd (handed_packets z0 (by omega) hex hgd (by simp) (by simp)), lost_all, packets_length] at hlk
  have HLK := hid_of hlk
  have HP3 := hid_of hp3
  have HF3 := hid_of hf3
  have HB3 := hid_of hb03
  clear hlk hvr hp3 hf3 hb3 hb03 hk3 hok3 HP HF HB2 HX
  go_wp2_with fail
  refine HLK.out.mono ?_
  rintro e w4 ⟨hb4, v, rfl, sv, pv, rfl, hsv, hpv⟩
  obtain ⟨sa, sc, rfl, _⟩ := row_rd hsv
  obtain ⟨pa, pc, rfl, _⟩ := row_rd hpv
  have hb04 := Below.next HB3.out hb4
  obtain ⟨SL, hSL⟩ : ∃ x, x = (slicesL (kSize s) (kFiles s)).length := ⟨_, rfl⟩
  rw [← hSL]
  have hSLb : SL ≤ 60 := by
    have := (kCount_facts s).2
    rw [← rowsL_count (kSize s) (kFiles s) z0] at this
    unfold rowsL at this
    rw [List.length_map, ← hSL] at this
    exact this
  have HP4 := hid_of (ownsRow_later HP3.out (Nat.le_refl _) hb4)
  have HF4 := hid_of (HF3.out.later (Nat.le_refl _) hb4)
  have HB4 := hid_of hb04
  have HSL := hid_of hSL
  clear hsv hpv hb4 hb04 hSL HP3 HF3 HB3 HLK
  -- the report's block
  rw [List.length_map, List.length_map]
  dsimp only
  obtain ⟨fn, hfn⟩ : ∃ x, x = (flagsOf [] (kSize s) (dHashes ((kFiles s).map (descOf (kSize s))))).length := ⟨_, rfl⟩
  obtain ⟨nf, hnf⟩ : ∃ n, n = (kFiles s).length := ⟨_, rfl⟩
  obtain ⟨ex, hexx⟩ : ∃ n, n = kExtra s := ⟨_, rfl⟩
  obtain ⟨sz, hsz⟩ : ∃ n, n = kSize s := ⟨_, rfl⟩
  obtain ⟨W5, hW5⟩ : ∃ W5, W5 = w4.alloc (.cells #[.slice sa nf sc, .slice pa fn pc, .int .i64 (SL : Int), .int .i64 (ex : Int)] 33) := ⟨_, rfl⟩
  have hbk5 := Blk.new w4 #[.slice sa nf sc, .slice pa fn pc, .int .i64 (SL : Int), .int .i64 (ex : Int)] 33
  rw [← hW5] at hbk5
  have hb45 : Below w4.heap.size w4 W5 := by rw [hW5]; exact (Below.refl _ _).alloc (Nat.le_refl _) _
  have hb05 := Below.next HB4.out hb45
  have hrb := fun W (hW : Below W5.heap.size W5 W) => (hbk5.touch (Touch.of_below hW []) (by simp))
  have hR : ∀ W, Below W5.heap.size W5 W → (W.cell? ⟨w4.heap.size, 2, none⟩ = some (.int .i64 (SL : Int)) ∧ W.cell? ⟨w4.heap.size, 3, none⟩ = some (.int .i64 (ex : Int))) ∧ W.cell? ⟨w.heap.size, 0, none⟩ = some (.slice a s.D.length cap) ∧ W.cell? ⟨w.heap.size, 1, none⟩ = some (.int .i64 s.sl) ∧ W.cell? ⟨w.heap.size, 2, none⟩ = some (.int .i64 s.ex) := fun W hW => ⟨⟨(hrb W hW 2 _ rfl).1, (hrb W hW 3 _ rfl).1⟩, (HA.out W (Below.next hb05 hW)).2.2⟩
  have hks := fun W (hW : Below W5.heap.size W5 W) => kslice_walk s a cap W (HA.out W (Below.next hb05 hW)).2.1
  have hkc := fun W (hW : Below W5.heap.size W5 W) => kcut_walk (kFiles s) (kSize s) (some ⟨g1, 0, none⟩) c1 z0 (by omega) (by omega) (fun f hf => by have := (k1 f hf).2; omega) W (HF4.out.later (Nat.le_refl _) (Below.next hb45 hW))
  unfold kV at hks
  rw [← HSL.out] at hkc
  rw [← hsz] at hks hkc
  rw [← hnf] at hkc
  obtain ⟨⟨r2, r3⟩, q0, q1, q2⟩ := hR W5 (Below.refl _ _)
  have hcur : Below W5.heap.size W5 W5 := Below.refl _ _
  have HKS := hid_of hks
  have HKC := hid_of hkc
  have HR := hid_of hR
  have HRB := hid_of hrb
  have HB5 := hid_of hb05
  have HB45 := hid_of hb45
  have HW5 := hid_of hW5
  have HFN := hid_of hfn
  have HNF := hid_of hnf
  have HEX := hid_of hexx
  have HSZ := hid_of hsz
  have HK1 := hid_of k1
  have HZ3 := hid_of z3
  have HGD := hid_of hgd
  rw [← hfn, ← hnf, ← hexx]
  rw [← hexx] at hex
  rw [← hnf] at k2 k3
  rw [← hsz] at z0 z1 z2
  clear hks hkc hR hrb hbk5 hb45 hb05 hW5 hfn hnf hexx hsz k1 z3 hgd
  go_wp2_with fail
  rw [← HW5.out]
  have HS : Hid (∀ W, Below W5.heap.size W5 W → W.cell? ⟨w4.heap.size, 2, none⟩ = some (.int .i64 (SL : Int)) ∧ W.cell? ⟨w4.heap.size, 3, none⟩ = some (.int .i64 (ex : Int)) ∧ W.cell? ⟨w.heap.size, 0, none⟩ = some (.slice a s.D.length cap) ∧ W.cell? ⟨w.heap.size, 1, none⟩ = some (.int .i64 s.sl) ∧ W.cell? ⟨w.heap.size, 2, none⟩ = some (.int .i64 s.ex) ∧ Below W5.heap.size W5 W) := hid_of (fun W hW => ⟨(HR.out W hW).1.1, (HR.out W hW).1.2, (HR.out W hW).2.1, (HR.out W hW).2.2.1, (HR.out W hW).2.2.2, hW⟩)
  clear r2 r3 q0 q1 q2 HR
  go_region_held (fun W => W.cell? ⟨w4.heap.size, 2, none⟩ = some (.int .i64 (SL : Int)) ∧ W.cell? ⟨w4.heap.size, 3, none⟩ = some (.int .i64 (ex : Int)) ∧ W.cell? ⟨w.heap.size, 0, none⟩ = some (.slice a s.D.length cap) ∧ W.cell? ⟨w.heap.size, 1, none⟩ = some (.int .i64 s.sl) ∧ W.cell? ⟨w.heap.size, 2, none⟩ = some (.int .i64 s.ex) ∧ Below W5.heap.size W5 W)
    (first | assumption | exact HS.out _ hcur | exact HS.out _ hcur.drew | exact HS.out _ (Below.next hcb hb6))
    (first | (go_at_call 9; have hcb : Below W5.heap.size W5 W5.drew := hcur.drew; refine (HKS.out _ hcb).mono ?_; rintro e w6 ⟨rfl, hb6⟩)
           | (go_at_call 8; have hcb : Below W5.heap.size W5 w6 := Below.next hcb hb6; refine (HKC.out _ hcb).mono ?_; rintro e w7 ⟨vc, rfl, hownc, hb6⟩; obtain ⟨ac, cc, rfl, _⟩ := row_rd hownc; clear hownc))
  have hb57 : Below W5.heap.size W5 w7 := Below.next hcb hb6
  have hb47 := HB45.out.trans (hb57.mono HB45.out.size)
  have HB7 := hid_of (Below.next HB4.out hb47)
  have HP7 := hid_of (ownsRow_later HP4.out (Nat.le_refl _) hb47)
  have HRB7 := hid_of (HRB.out w7 hb57)
  have hsz7 : w4.heap.size < w7.heap.size := HRB7.out.lt (by simp)
  have hs07 : w.heap.size < w4.heap.size := by
    have h1 := HB4.out.size
    rw [HW.out] at h1
    simp at h1
    omega
  clear hb57 hb47 hb6 hcb hcur HRB HB4 HB45 HF4 HP4 HB5 HKS HKC HS
  by_cases hex0 : ex = 0
  · clear HP7 HRB7 HVP HSL HFN HNF HEX HSZ HK1 HZ3 HGD HA
    go_wp2_with fail
    go_ret
    exact ⟨rfl, Below.next HB0.out HB7.out⟩
  · obtain ⟨i0, hi, hzz0, hzz1, hzz2⟩ := info_parts Tryd.infoS
    go_wp2_with (at_builtin; refine wpList_append_own _ rfl (.tmp 60) (.tmp 61) 22 rfl w7.heap.size 9 i0 (.string ByteArray.empty) 1 16 Tryd.underlying22 hi hzz0 hzz1 hzz2 rfl (by decide) _ _ _ rfl (World.ownsRow_nil _ _ _ _) ⟨gp, 0, none⟩ (1 + nf + ex) cp (strV (packetsL (kSize s) (kFiles s) (kExtra s))) rfl ?d1 ?d2 ?d3 ?d4 ?d5 ?d6 ?_)
    case d1 => rw [Nat.mul_one, HNF.out, HEX.out, ← packets_length (kSize s) (kFiles s) (kExtra s)]; simp [strV]
    case d2 => intro j u hj; exact HP7.out.cells (g := gp) (by rw [HVP.out]; rfl) j u hj
    case d3 =>
      intro u hu
      unfold strV at hu
      obtain ⟨x, _, rfl⟩ := List.mem_map.1 hu
      rfl
    case d4 => unfold maxLen; omega
    case d5 => omega
    case d6 => exact Nat.le_refl _
    intro v8 w8 hown8 hg8 _
    have hb8 : Below w7.heap.size w7 w8 := (Below.refl _ w7).grown hg8 (Nat.le_refl _) (by intro k hk; cases hk)
    obtain ⟨g8, c8, rfl⟩ : ∃ g c, v8 = .slice (some ⟨g, 0, none⟩) (1 + nf + ex) c := by
      rcases hown8.2 with ⟨_, h1⟩ | ⟨g, c, cur, h1, _⟩
      · omega
      · exact ⟨_, _, h1⟩
    have hge8 : w7.heap.size ≤ g8 ∧ g8 < w8.heap.size := by
      have := hown8.lt g8 rfl
      exact ⟨this.1, this.2⟩
    have HB8 := hid_of (Below.next HB7.out hb8)
    have hrb8 := HRB7.out.touch (Touch.of_below hb8 []) (by simp)
    obtain ⟨kk, hkk⟩ : ∃ x, x = pickN x1 ex := ⟨_, rfl⟩
    have hkk1 : kk < ex := by rw [hkk]; exact pickN_lt x1 ex (by omega)
    have hpk := kpick_walk x1 ex (by omega) (by omega) hx1.1 hx1.2
    rw [← hkk] at hpk
    obtain ⟨R, hR⟩ : ∃ x, x = sealF (rFound (kSize s) (kFiles s) kk) := ⟨_, rfl⟩
    have hRl : R.length = 24 + sz := by
      rw [hR]
      unfold sealF
      rw [sealL_len, rF_body, (rBody_facts (kSize s) (kFiles s) kk (by rw [← HSZ.out]; exact z2) (by omega)).1, ← HSZ.out]
      omega
    have hcell : w8.cell? ⟨g8, 1 + nf + kk, none⟩ = some (.string (str R)) := by
      rw [hown8.cellAt (1 + nf + kk) (by omega)]
      simp only [strV, List.getElem?_map, packets_map]
      rw [HNF.out, made_rat (kSize s) (kFiles s) (kExtra s) kk (by rw [← HEX.out]; exact hkk1), hR]
      rfl
    have hRs : (str R).size = 24 + sz := by rw [str_size, hRl]
    have hcv := fun W => Lib.run_convert_string_bytes (P := Tryd.prog) W 9 39 5 (str R) Tryd.underlying9 Tryd.underlying39 Tryd.underlying5
    rw [hRs] at hcv
    have HO8 := hid_of hown8
    have HRB8 := hid_of hrb8
    have HR := hid_of hR
    have HPK := hid_of hpk
    have HRL := hid_of hRl
    clear hown8 hg8 hb8 hrb8 hkk hpk hR HP7 HRB7 HB7 HVP hRl
    go_wp2_with fail
    refine (HPK.out _).mono ?_
    rintro e w' ⟨rfl, hw'⟩
    rw [hw']
    clear hw' w'
    go_wp2_with fail
    have hpk2 := kpick_walk x2 (24 + sz) (by omega) (by omega) hx2.1 hx2.2
    rw [show ((24 + sz : Nat) : Int) = 24 + (sz : Int) from by omega] at hpk2
    obtain ⟨ii, hii⟩ : ∃ x, x = pickN x2 (24 + sz) := ⟨_, rfl⟩
    have hii1 : ii < 24 + sz := by rw [hii]; exact pickN_lt x2 (24 + sz) (by omega)
    rw [← hii] at hpk2
    have hbb := bytes_blk w8 R
    have hb9 := bytes_below w8 5 (str R)
    obtain ⟨W9, hW9⟩ : ∃ x, x = Lib.bytesWorld w8 5 (str R) := ⟨_, rfl⟩
    rw [← hW9] at hbb hb9 ⊢
    obtain ⟨cc9, hcc9⟩ : ∃ x, x = grownCap w8 (24 + sz) 0 5 := ⟨_, rfl⟩
    rw [← hcc9]
    obtain ⟨g9, hg9⟩ : ∃ x, x = w8.heap.size := ⟨_, rfl⟩
    rw [← hg9] at hbb ⊢
    refine (hpk2 W9).mono ?_
    rintro e w' ⟨rfl, hw'⟩
    rw [hw']
    clear hw' w' hpk2 hii hcc9 hcv
    have hRi : R[ii]? = some (R[ii]'(by rw [HRL.out]; exact hii1)) := List.getElem?_eq_getElem _
    obtain ⟨bb, hbbe⟩ : ∃ x, x = R[ii]'(by rw [HRL.out]; exact hii1) := ⟨_, rfl⟩
    rw [← hbbe] at hRi
    have hci := hbb ii (.int .u8 (bb.toNat : Int)) (by unfold bytesV; rw [List.getElem?_map, hRi]; rfl)
    have hc9 := hci.1
    have hf9 := hci.2
    obtain ⟨pp, hpp⟩ : ∃ x, x = pickN x3 255 := ⟨_, rfl⟩
    have hpp1 : pp < 255 := by rw [hpp]; exact pickN_lt x3 255 (by omega)
    have hpk3 := kpick_walk x3 255 (by omega) (by omega) hx3.1 hx3.2
    rw [← hpp] at hpk3
    have HPK3 := hid_of hpk3
    have HBB := hid_of hbb
    have HB9 := hid_of hb9
    have HG9 := hid_of hg9
    have hbn := bb.toNat_lt
    clear hpk3 hpp hbb hb9 hg9 hci hbbe hW9
    have wv : IntKind.u8.wrap (IntKind.i64.wrap (IntKind.i64.wrap (IntKind.i64.wrap (bb.toNat : Int) + 1) + (pp : Int))) = ((UInt8.ofNat (bb.toNat + 1 + pp)).toNat : Int) := byte_up bb pp hpp1
    have hvne : UInt8.ofNat (bb.toNat + 1 + pp) ≠ bb := by
      intro e
      have := congrArg UInt8.toNat e
      rw [UInt8.toNat_ofNat'] at this
      omega
    obtain ⟨vv, hvv⟩ : ∃ x, x = UInt8.ofNat (bb.toNat + 1 + pp) := ⟨_, rfl⟩
    rw [← hvv] at wv hvne
    have HVN := hid_of hvne
    clear hvv hvne
    go_wp2_with fail
    refine (fun (key : Unit → ?RestOf) => ?A : (Unit → ?RestOf) → _) (fun _ => ?B)
    case A =>
      go_region_with (first | (go_at_call 10; refine (HPK3.out _).mono ?_; rintro e w0 ⟨rfl, rfl⟩))
      all_goals exact key ()
    case B =>
      have hblk := HBB.out.set ii (.int .u8 (vv.toNat : Int))
      have hset : (bytesV R).set ii (.int .u8 (vv.toNat : Int)) = bytesV (R.set ii vv) := by unfold bytesV; rw [List.map_set]
      rw [hset] at hblk
      have ht9 : Touch [] w8 (W9.setCell ⟨g9, ii, none⟩ (.int .u8 (vv.toNat : Int))).drew := ((Touch.of_below HB9.out []).setCell (x := ⟨g9, ii, none⟩) (.inr (by rw [HG9.out]; exact Nat.le_refl _)) _).drew
      have hblk2 := hblk.drew
      obtain ⟨Wa, hWa⟩ : ∃ x, x = (W9.setCell ⟨g9, ii, none⟩ (.int .u8 (vv.toNat : Int))).drew := ⟨_, rfl⟩
      rw [← hWa] at ht9 hblk2 ⊢
      clear hWa hset hblk hc9 hf9 HBB HB9 wv HPK3
      have hcv2 : (convert 39 9 (.slice (some ⟨g9, 0, none⟩) (24 + sz) cc9)).run Tryd.prog Wa = .ok (.string (str (R.set ii vv))) Wa := by
        have h := run_convert_bytes_back (P := Tryd.prog) Wa 39 9 5 ⟨g9, 0, none⟩ cc9 (R.set ii vv) Tryd.underlying39 Tryd.underlying5 Tryd.underlying9 (fun j hj => by
          have := (hblk2 j (.int .u8 ((R.set ii vv)[j].toNat : Int)) (by unfold bytesV; rw [List.getElem?_map, List.getElem?_eq_getElem hj]; rfl)).1
          have hadd : (⟨g9, 0, none⟩ : Addr).add j = ⟨g9, j, none⟩ := by unfold Addr.add; split <;> simp_all
          rw [hadd]
          exact this)
        rw [List.length_set, HRL.out] at h
        exact h
      have ho9 := owns_touch HO8.out ht9 (by simp)
      have hfz := ho9.frozenAt (1 + nf + kk)
      have hcl : Wa.cell? ⟨g8, 1 + nf + kk, none⟩ = some (.string (str R)) := (ht9.cell (x := ⟨g8, 1 + nf + kk, none⟩) hge8.2 (by simp)).trans hcell
      have hst := (ho9.stored (1 + nf + kk) (.string (str (R.set ii vv)))).1
      have hstv : (strV (packetsL (kSize s) (kFiles s) (kExtra s))).set (1 + nf + kk) (.string (str (R.set ii vv))) = strV ((packetsL (kSize s) (kFiles s) (kExtra s)).set (1 + nf + kk) (R.set ii vv)) := by unfold strV; rw [List.map_set]
      rw [hstv] at hst
      have hrb9 := HRB8.out.touch ht9 (by simp)
      have hrb10 := hrb9.set_other (a := ⟨g8, 1 + nf + kk, none⟩) (by show g8 ≠ w4.heap.size; omega) (.string (str (R.set ii vv)))
      have ht10 : Touch [g8] w8 (Wa.setCell ⟨g8, 1 + nf + kk, none⟩ (.string (str (R.set ii vv)))) := (ht9.mono (by simp)).setCell (x := ⟨g8, 1 + nf + kk, none⟩) (.inl (by simp)) _
      have HST := hid_of hst
      have HRB10 := hid_of hrb10
      have HT10 := hid_of ht10
      clear hst hstv hrb9 hrb10 ht10 ho9 ht9 hblk2 HO8 HRB8 hcell
      have hbw10 : Below W0.heap.size W0 (Wa.setCell ⟨g8, 1 + nf + kk, none⟩ (.string (str (R.set ii vv)))) := HB8.out.trans (HT10.out.below HB8.out.size (fun x hx => by
        have h1 := HB0.out.size
        have h2 := HW.out
        have h3 : W0.heap.size = w.heap.size + 1 := by rw [h2]; simp
        simp only [List.mem_singleton] at hx
        omega))
      obtain ⟨Wb, hWb⟩ : ∃ x, x = Wa.setCell ⟨g8, 1 + nf + kk, none⟩ (.string (str (R.set ii vv))) := ⟨_, rfl⟩
      have hvr : Rd Wb (some ⟨g8, 0, none⟩) (strV ((packetsL (kSize s) (kFiles s) (kExtra s)).set (1 + nf + kk) (R.set ii vv))) := by
        obtain ⟨a', c', e, hr⟩ := row_rd HST.out
        cases e
        rw [hWb]
        exact hr
      have hRii : vv ≠ (sealF (rFound (kSize s) (kFiles s) kk))[ii]'(by rw [← HR.out, HRL.out]; exact hii1) := by
        have h1 := List.getElem?_eq_some_iff.1 hRi
        obtain ⟨_, h2⟩ := h1
        simp only [← HR.out]
        rw [h2]
        exact HVN.out
      obtain ⟨st, fl, lo, hlook⟩ := look_spoilt (size := kSize s) (fs := kFiles s) (extra := kExtra s) (k := kk) (i := ii) (v := vv) HZ3.out (by rw [← HSZ.out]; omega) (by rw [← HSZ.out]; exact z1) (by rw [← HSZ.out]; exact z2) (by rw [← HEX.out]; exact hex) HGD.out (by rw [← HEX.out]; exact hkk1) (by rw [← HR.out, HRL.out]; exact hii1) hRii
      rw [← HR.out, ← HNF.out] at hlook
      have hlk2 := Look_walk [] ((packetsL (kSize s) (kFiles s) (kExtra s)).set (1 + nf + kk) (R.set ii vv)) none (some ⟨g8, 0, none⟩) 0 c8 Wb (by rw [hWb]; exact (HA.out _ hbw10).1) (fun k u hu => by simp [filesV] at hu) hvr
      rw [hlook, List.length_set, packets_length, ← HNF.out, ← HEX.out] at hlk2
      have hrb11 := HRB10.out
      rw [← hWb] at hrb11 hbw10
      have HLK2 := hid_of hlk2
      have HBW10 := hid_of hbw10
      have HRB11 := hid_of hrb11
      have HWB := hid_of hWb
      clear hlk2 hbw10 hrb11 hWb hvr hRii hlook HRB10 HT10 HST
      go_wp2_with fail
      rw [← HWB.out]
      refine HLK2.out.mono ?_
      rintro e w11 ⟨hb11, v, rfl, sv2, pv2, rfl, hsv2, hpv2⟩
      obtain ⟨sa2, sc2, rfl, _⟩ := row_rd hsv2
      obtain ⟨pa2, pc2, rfl, _⟩ := row_rd hpv2
      have hk11 := HRB11.out.touch (Touch.of_below hb11 []) (by simp)
      have HB11 := hid_of (Below.next HBW10.out hb11)
      have e1 : ((ex - 1 : Nat) : Int) = (ex : Int) - 1 := by omega
      have y0 := (hk11 0 _ rfl).1
      have y1 := (hk11 1 _ rfl).1
      have y2 := (hk11 2 _ rfl).1
      have y3 := (hk11 3 _ rfl).1
      have u0 := (hk11 0 _ rfl).2
      have u1 := (hk11 1 _ rfl).2
      have u2 := (hk11 2 _ rfl).2
      have u3 := (hk11 3 _ rfl).2
      clear hb11 hsv2 hpv2 hk11 HLK2 HRB11
      dsimp only
      rw [e1]
      have hfin : ∀ W, W = ((((w11.setCell ⟨w4.heap.size, 0, none⟩ (.slice sa2 st.length sc2)).setCell ⟨w4.heap.size, 1, none⟩ (.slice pa2 fl.length pc2)).setCell ⟨w4.heap.size, 2, none⟩ (.int .i64 (lo : Int))).setCell ⟨w4.heap.size, 3, none⟩ (.int .i64 ((ex : Int) - 1))) → Below w.heap.size w W := by
        rintro W rfl
        exact Below.trans HB0.out ((((((HB11.out.mono (show w.heap.size ≤ W0.heap.size from HB0.out.size)).setCell (show w.heap.size ≤ (⟨w4.heap.size, 0, none⟩ : Addr).block from Nat.le_of_lt hs07) _).setCell (show w.heap.size ≤ (⟨w4.heap.size, 1, none⟩ : Addr).block from Nat.le_of_lt hs07) _).setCell (show w.heap.size ≤ (⟨w4.heap.size, 2, none⟩ : Addr).block from Nat.le_of_lt hs07) _).setCell (show w.heap.size ≤ (⟨w4.heap.size, 3, none⟩ : Addr).block from Nat.le_of_lt hs07) _))
      have HFIN := hid_of hfin
      clear hfin
      go_wp2_with fail
      first
        | (go_ret; exact ⟨rfl, HFIN.out _ rfl⟩)
        | (go_quiet (fail); go_wp2_with fail; go_ret; exact ⟨rfl, rdrewN (HFIN.out _ rfl) _⟩)
end Go.Proofs.YtonjphollmdicaaDoor
namespace Go.Proofs.YtonjphollmdicaaDoor
open Go.ChangeShapes Go.WideShapes Go.ChangeAt Go.RowKit
open Go.Joins Go.Deep

theorem Tryd.gKinds : Tryd.prog.globalNamed "salvage/volume.kinds" = some 0 := by kernel_rfl
theorem Tryd.tKinds : (Tryd.prog.globals[0]?).map (·.type) = some 100 := by kernel_rfl
theorem Tryd.cellsK : Tryd.prog.cellsOf 100 = 6 := by kernel_rfl
theorem Tryd.cellsE : Tryd.prog.cellsOf 99 = 2 := by kernel_rfl
theorem Tryd.cellsB : Tryd.prog.cellsOf 5 = 1 := by kernel_rfl
theorem Tryd.cellsR : Tryd.prog.cellsOf 98 = 1 := by kernel_rfl
/-- an array of three pairs -/
theorem open_tab3 {H : Type} {enc : TypeId × Value → H} {W : World} {fuel : Nat} {t e : TypeId} {f0 f1 : Field} {cs : List Value} {a0 b0 a1 b1 a2 b2 : DataW H} {p : List MemPlace} (ht : Tryd.prog.underlying t = some (.array 3 e)) (he : Tryd.prog.underlying e = some (.struct #[f0, f1]))
    (ce : Tryd.prog.cellsOf e = 2) (ct : Tryd.prog.cellsOf t = 6) (o0 : f0.offset = 0) (o1 : f1.offset = 1) (k0 : Tryd.prog.cellsOf f0.type = 1) (k1 : Tryd.prog.cellsOf f1.type = 1)
    (h : DataW.trod enc Tryd.prog W 0 (fun _ => true) true fuel t cs = some (.agg [.agg [a0, b0], .agg [a1, b1], .agg [a2, b2]], p)) :
    ∃ (c0 c1 c2 c3 c4 c5 : Value) (n0 n1 n2 : Nat) (q0 q1 q2 q3 q4 q5 : List MemPlace), cs = [c0, c1, c2, c3, c4, c5] ∧
      DataW.trod enc Tryd.prog W 0 (fun _ => true) true n0 f0.type [c0] = some (a0, q0) ∧ DataW.trod enc Tryd.prog W 0 (fun _ => true) true n0 f1.type [c1] = some (b0, q1) ∧
      DataW.trod enc Tryd.prog W 0 (fun _ => true) true n1 f0.type [c2] = some (a1, q2) ∧ DataW.trod enc Tryd.prog W 0 (fun _ => true) true n1 f1.type [c3] = some (b1, q3) ∧
      DataW.trod enc Tryd.prog W 0 (fun _ => true) true n2 f0.type [c4] = some (a2, q4) ∧ DataW.trod enc Tryd.prog W 0 (fun _ => true) true n2 f1.type [c5] = some (b2, q5) := by
  cases fuel with
  | zero => simp [DataW.trod] at h
  | succ fuel =>
    simp only [DataW.trod, ht, ce, ct] at h
    split at h
    · rename_i hl
      obtain ⟨xs, hm, hx⟩ := Option.map_eq_some_iff.1 h
      have hxs : xs.map (·.1) = [.agg [a0, b0], .agg [a1, b1], .agg [a2, b2]] := by
        have := congrArg Prod.fst hx
        simpa using this
      match cs, hl with
      | [c0, c1, c2, c3, c4, c5], _ =>
        obtain ⟨y0, hy0, h0⟩ := Lib.mapM_at hm 0 0 rfl
        obtain ⟨y1, hy1, h1⟩ := Lib.mapM_at hm 1 1 rfl
        obtain ⟨y2, hy2, h2⟩ := Lib.mapM_at hm 2 2 rfl
        have z0 : y0.1 = .agg [a0, b0] := by
          have : (xs.map (·.1))[0]? = some y0.1 := by simp [hy0]
          rw [hxs] at this
          simpa using this.symm
        have z1 : y1.1 = .agg [a1, b1] := by
          have : (xs.map (·.1))[1]? = some y1.1 := by simp [hy1]
          rw [hxs] at this
          simpa using this.symm
        have z2 : y2.1 = .agg [a2, b2] := by
          have : (xs.map (·.1))[2]? = some y2.1 := by simp [hy2]
          rw [hxs] at this
          simpa using this.symm
        have key : ∀ (c c' : Value) (a b : DataW H) (y : DataW H × List MemPlace), y.1 = .agg [a, b] → DataW.trod enc Tryd.prog W 0 (fun _ => true) true fuel e [c, c'] = some y → ∃ n q q', DataW.trod enc Tryd.prog W 0 (fun _ => true) true n f0.type [c] = some (a, q) ∧ DataW.trod enc Tryd.prog W 0 (fun _ => true) true n f1.type [c'] = some (b, q') := by
          intro c c' a b y hy hh
          obtain ⟨ys, n, _, hxy, _, hyl, hfl⟩ := DataW.trod_struct he hh
          match ys, hyl with
          | [u0, u1], _ =>
            have g0 := hfl 0 f0 rfl
            have g1 := hfl 1 f1 rfl
            simp [o0, o1, k0, k1] at g0 g1
            rw [hxy] at hy
            simp at hy
            obtain ⟨rfl, rfl⟩ := hy
            exact ⟨n, u0.2, u1.2, g0, g1⟩
        obtain ⟨n0, q0, q1, r0, r1⟩ := key c0 c1 a0 b0 y0 z0 (by simpa using h0)
        obtain ⟨n1, q2, q3, r2, r3⟩ := key c2 c3 a1 b1 y1 z1 (by simpa using h1)
        obtain ⟨n2, q4, q5, r4, r5⟩ := key c4 c5 a2 b2 y2 z2 (by simpa using h2)
        exact ⟨c0, c1, c2, c3, c4, c5, n0, n1, n2, q0, q1, q2, q3, q4, q5, rfl, r0, r1, r2, r3, r4, r5⟩
    · cases h
set_option maxRecDepth 100000 in
theorem kinds_of {W : World} (h : laidMetH Tryd.prog [("salvage/volume.kinds", Rows.laid_salvage_volume_kinds)] W) : Kinds W := by
  obtain ⟨g, t, cs, fuel, p, hg, ht, hv, hd⟩ := h.funcs (List.mem_singleton.2 rfl)
  obtain rfl := Option.some.inj (Tryd.gKinds.symm.trans hg)
  obtain rfl := Option.some.inj (Tryd.tKinds.symm.trans ht)
  have hd' : DataW.trod (funcToken Tryd.prog) Tryd.prog W 0 (fun _ => true) true fuel 100 cs.toList = some (.agg [.agg [.lit (.int .u8 77), .held [40, 42, 115, 97, 108, 118, 97, 103, 101, 47, 118, 111, 108, 117, 109, 101, 46, 83, 101, 116, 41, 46, 114, 101, 97, 100, 77, 97, 105, 110]], .agg [.lit (.int .u8 70), .held [40, 42, 115, 97, 108, 118, 97, 103, 101, 47, 118, 111, 108, 117, 109, 101, 46, 83, 101, 116, 41, 46, 114, 101, 97, 100, 70, 105, 108, 101]], .agg [.lit (.int .u8 82), .held [40, 42, 115, 97, 108, 118, 97, 103, 101, 47, 118, 111, 108, 117, 109, 101, 46, 83, 101, 116, 41, 46, 114, 101, 97, 100, 69, 120, 116, 114, 97]]], p) := hd
  obtain ⟨c0, c1, c2, c3, c4, c5, n0, n1, n2, q0, q1, q2, q3, q4, q5, hcs, r0, r1, r2, r3, r4, r5⟩ := open_tab3 Tryd.underlying100 Tryd.underlying99 Tryd.cellsE Tryd.cellsK rfl rfl Tryd.cellsB Tryd.cellsR hd'
  obtain ⟨z0, e0, x0, _⟩ := DataW.trod_int Tryd.underlying5 r0
  obtain ⟨z2, e2, x2, _⟩ := DataW.trod_int Tryd.underlying5 r2
  obtain ⟨z4, e4, x4, _⟩ := DataW.trod_int Tryd.underlying5 r4
  have f1 := func_of_trod (f0 := 113) Tryd.underlying98 (by kernel_rfl) r1
  have f3 := func_of_trod (f0 := 114) Tryd.underlying98 (by kernel_rfl) r3
  have f5 := func_of_trod (f0 := 115) Tryd.underlying98 (by kernel_rfl) r5
  have hcell : ∀ i, W.cell? ⟨0, i, none⟩ = cs[i]? := fun i => World.var?_cell hg hv i
  have hci : ∀ i, cs[i]? = [c0, c1, c2, c3, c4, c5][i]? := fun i => by rw [← hcs, Array.getElem?_toList]
  simp at e0 e2 e4 x0 x2 x4
  subst e0 e2 e4
  obtain ⟨rfl, _⟩ := x0
  obtain ⟨rfl, _⟩ := x2
  obtain ⟨rfl, _⟩ := x4
  exact ⟨by rw [hcell, hci]; rfl, by rw [hcell, hci, f1]; rfl, by rw [hcell, hci]; rfl, by rw [hcell, hci, f3]; rfl, by rw [hcell, hci]; rfl, by rw [hcell, hci, f5]; rfl⟩
end Go.Proofs.YtonjphollmdicaaDoor
namespace Go.Proofs.YtonjphollmdicaaDoor
open Go.ChangeShapes Go.WideShapes Go.ChangeAt Go.RowKit
open Go.Joins

theorem Tryd.cellsKSet : Tryd.prog.cellsOf 24 = 3 := by kernel_rfl
theorem Tryd.cellsStr : Tryd.prog.cellsOf 9 = 1 := by kernel_rfl
theorem rd_of {w : World} {a : Addr} {ss : List ByteArray} {len : Nat} (hl : len ≤ ss.length) (hc : ∀ i, i < ss.length → w.cell? (a.add i) = some (.string (ss.getD i ByteArray.empty))) :
    Rd w (some a) (strV ((ss.take len).map fun s => s.data.toList)) := by
  intro k u hk
  have hlt : k < len := by
    have := (List.getElem?_eq_some_iff.1 hk).1
    simp [strV] at this
    omega
  have h1 := hc k (by omega)
  obtain ⟨b, off, spot⟩ := a
  have h2 := hc 0 (by omega)
  have hspot : spot = none := by simpa [Addr.add] using World.cell?_spot h2
  subst hspot
  refine ⟨b, off, rfl, ?_⟩
  have hadd : (⟨b, off, none⟩ : Addr).add k = ⟨b, off + k, none⟩ := by unfold Addr.add; split <;> simp_all
  rw [hadd] at h1
  rw [h1]
  have hk2 : k < ss.length := by omega
  simp only [strV, List.getElem?_map] at hk
  rw [List.getElem?_take, if_pos hlt, List.getElem?_eq_getElem hk2] at hk
  simp only [Option.map_some, Option.some.injEq] at hk
  rw [← hk, ← str_of]
  simp [hk2]

section
variable {H : Type} {enc : TypeId × Value → H} {W : World}
set_option maxRecDepth 100000 in
theorem open_i64 {v : Value} {b0 : Nat} {d : DataW H} {p : List MemPlace} (hv : Value.okWide Tryd.prog W .any b0 3 v) (h : DataW.Trod enc Tryd.prog W 0 (fun _ => true) true 3 v d p) : ∃ i : Int, v = .int .i64 i ∧ (-9223372036854775808 ≤ i ∧ i ≤ 9223372036854775807) := by
  obtain ⟨i, rfl, _, _, hw⟩ := open_int Tryd.underlying3 hv h
  have b := bounds_i64 hw
  exact ⟨i, rfl, b.1, b.2⟩
set_option maxRecDepth 100000 in
theorem open_kset {v : Value} {b0 : Nat} {d : DataW H} {p : List MemPlace} (hv : Value.okWide Tryd.prog W .any b0 24 v) (h : DataW.Trod enc Tryd.prog W 0 (fun _ => true) true 24 v d p) : ∃ (s : KSet) (a : Option Addr) (cp : Nat), v = kV s a cp ∧ KOk W s a cp := by
  obtain ⟨c0, c1, c2, y0, y1, y2, n, rfl, rfl, rfl, hy0, hy1, hy2⟩ := open_agg3 Tryd.underlying24 (by kernel_rfl) Tryd.cellsKSet hv h
  obtain ⟨i1, e1, hd1, w1⟩ := DataW.trod_int Tryd.underlying3 hy1
  obtain ⟨i2, e2, hd2, w2⟩ := DataW.trod_int Tryd.underlying3 hy2
  obtain rfl : c1 = .int .i64 i1 := by simpa using e1
  obtain rfl : c2 = .int .i64 i2 := by simpa using e2
  have b1 := bounds_i64 w1
  have b2 := bounds_i64 w2
  have main : ∃ (D : List (List UInt8)) (a : Option Addr) (cp : Nat), c0 = .slice a D.length cp ∧ Rd W a (strV D) ∧ D.length ≤ 9223372036854775807 ∧ ∀ d ∈ D, d.length ≤ 9223372036854775807 := by
    rcases open_strings Tryd.underlying22 Tryd.underlying9 Tryd.cellsStr hy0 with ⟨hcs, _⟩ | ⟨a, len, cp, ss, hcs, _, hl, hm, hz, _, hcell, hws⟩
    · refine ⟨[], none, 0, by simpa using hcs, fun k u hk => by simp [strV] at hk, by simp, by simp⟩
    · have hsl : ss.length = cp := by simpa using hz
      have hll : ((ss.take len).map fun s => s.data.toList).length = len := by simp; omega
      refine ⟨(ss.take len).map fun s => s.data.toList, some a, cp, ?_, rd_of (by omega) hcell, ?_, ?_⟩
      · rw [hll]; simpa using hcs
      · rw [hll]; unfold maxLen at hm; omega
      · intro d hd
        obtain ⟨x, hx, rfl⟩ := List.mem_map.1 hd
        have := hws x (List.mem_of_mem_take hx)
        unfold maxLen at this
        rw [Array.length_toList]
        exact this
  obtain ⟨D, a, cp, rfl, hrd, hDl, hDs⟩ := main
  exact ⟨⟨D, i1, i2⟩, a, cp, rfl, ⟨hrd, hDl, hDs, b1.1, b1.2, b2.1, b2.2⟩⟩
end
end Go.Proofs.YtonjphollmdicaaDoor
namespace Go.Proofs.YtonjphollmdicaaDoor.spoilt
open Go.ChangeShapes Go.WideShapes Go.ChangeAt Go.RowKit
open Go.Joins Go.Deep
set_option linter.unusedVariables false

theorem own : ownKnob Tryd.prog.godebug = none := by kernel_rfl
theorem laidOut : laidOutB Tryd.prog = true := by kernel_rfl

noncomputable def laidWorld (os : Os) : World :=
  { World.holding Tryd.prog os ⟨#[], #[], []⟩ with heap := (World.holding Tryd.prog os ⟨#[], #[], []⟩).heap.modify 0 fun
      | .cells _ t frozen => .cells #[.int .u8 77, .func (.func 113) #[] #[], .int .u8 70, .func (.func 114) #[] #[], .int .u8 82, .func (.func 115) #[] #[]] t frozen
      | o => o }
def noArgs : Array Value := #[.agg #[.slice none 0 0, .int .i64 0, .int .i64 0], .int .i64 0, .int .i64 0, .int .i64 0]
set_option maxRecDepth 100000 in
theorem laid_met (os : Os) : laidMetH Tryd.prog Rows.spoiltRow.laid ((laidWorld os).forCall (fun _ _ => 0) ⟨#[], noArgs, []⟩).memory :=
  laidMetH_of_parts3 (fuel := 8) (laidMet_of_run' 8 (by kernel_rfl) (by kernel_rfl)) (by kernel_rfl) (by kernel_rfl)
set_option maxRecDepth 100000 in
theorem reads (os : Os) {H : Type} (enc : TypeId × Value → H) : ∃ places, DataW.whole enc Tryd.prog ((laidWorld os).forCall (fun _ _ => 0) ⟨#[], noArgs, []⟩).memory Tryd.f3.params.toList Rows.spoiltSpec.vars false noArgs.toList 8 = some ([.agg [.nil, .lit (.int .i64 0), .lit (.int .i64 0)], .lit (.int .i64 0), .lit (.int .i64 0), .lit (.int .i64 0)], [], places) :=
  ⟨[], by kernel_rfl⟩

set_option maxRecDepth 100000 in
theorem lifted (os : Os) (started : os.Started) (H : Type) (enc : TypeId × Value → H) (F : Stop.Interp) :
    ReturnsInHanded {} Tryd.checked os 3 .any ((OpenSpec.ofChange Rows.spoiltSpec).preRow enc Tryd.prog Tryd.f3 Rows.spoiltRow.domain false Rows.spoiltRow.laid) (((OpenSpec.ofChange Rows.spoiltSpec).at F).post enc Tryd.prog Tryd.f3 false true false false) := by
  obtain ⟨places, hx⟩ := reads os enc
  refine returnsInHanded_of_row (C := Tryd.checked) (s := OpenSpec.ofChange Rows.spoiltSpec) own started (by kernel_rfl) Tryd.func3
    (witness_row_at (enc := enc) (C := Tryd.checked) false (laidWorld os) noArgs rfl (by kernel_rfl) (by kernel_rfl) (by kernel_rfl)
      (OpenSpec.preRow_of_cond 8 hx (by kernel_rfl) (fun k hk => by cases hk) (by kernel_rfl) (laid_met os))) ?_
  intro W base args ds gs before hval0 hW _ _ hsz0 hL _ _
  have hval : ∀ (j : Nat) t v, Tryd.f3.params[j]? = some t → args[j]? = some v → Value.okWide Tryd.prog W .any base t v := hval0
  have hW' := hW
  obtain ⟨p, q, hA0, hV, rfl, hfz, hnd⟩ := hW
  have hA : DataW.TrodAll enc Tryd.prog W 0 (fun _ => true) true Tryd.f3.params.toList args.toList ds p := hA0
  rw [Tryd.params3] at hA hval
  obtain ⟨v0, vs0, d0, ds0, p0, q0, hargs, rfl, rfl, h0, r0⟩ := trodAll_cons hA
  obtain ⟨v1, vs1, d1, ds1, p1, q1, rfl, rfl, rfl, h1, r1⟩ := trodAll_cons r0
  obtain ⟨v2, vs2, d2, ds2, p2, q2, rfl, rfl, rfl, h2, r2⟩ := trodAll_cons r1
  obtain ⟨v3, vs3, d3, ds3, p3, q3, rfl, rfl, rfl, h3, r3⟩ := trodAll_cons r2
  obtain ⟨rfl, rfl, rfl⟩ := trodAll_nil r3
  obtain rfl : args = #[v0, v1, v2, v3] := by cases args; simp_all
  obtain ⟨rfl, rfl⟩ := trodVars_none hV
  have lt0 : ∀ x ∈ p0, x.block < W.heap.size := by obtain ⟨m, hm⟩ := h0; exact DataW.trod_lt m _ _ _ hm
  have lt1 : ∀ x ∈ p1, x.block < W.heap.size := by obtain ⟨m, hm⟩ := h1; exact DataW.trod_lt m _ _ _ hm
  have lt2 : ∀ x ∈ p2, x.block < W.heap.size := by obtain ⟨m, hm⟩ := h2; exact DataW.trod_lt m _ _ _ hm
  have lt3 : ∀ x ∈ p3, x.block < W.heap.size := by obtain ⟨m, hm⟩ := h3; exact DataW.trod_lt m _ _ _ hm
  obtain ⟨s, a, cp, hs, hok⟩ := open_kset (hval 0 24 v0 rfl rfl) h0
  obtain ⟨i1, e1, b1⟩ := open_i64 (hval 1 3 v1 rfl rfl) h1
  obtain ⟨i2, e2, b2⟩ := open_i64 (hval 2 3 v2 rfl rfl) h2
  obtain ⟨i3, e3, b3⟩ := open_i64 (hval 3 3 v3 rfl rfl) h3
  subst hs e1 e2 e3
  have hK : Kinds W := kinds_of hL
  clear hA0 hval0
  refine (spoilt_walk s a cp i1 i2 i3 b1 b2 b3 W hK hok).mono fun e W' ⟨he, bel⟩ => ?_
  subst he
  exact ⟨_, rfl, _, _, _, [], _, [], hW', trodAll_mk1 (shut_bool Tryd.underlying4 _), trodAll_cons_mk (Below.trod laidOut (by kernel_rfl) (of_decide_eq_true (by kernel_rfl)) h0 bel lt0) (trodAll_cons_mk (Below.trod laidOut (by kernel_rfl) (of_decide_eq_true (by kernel_rfl)) h1 bel lt1) (trodAll_cons_mk (Below.trod laidOut (by kernel_rfl) (of_decide_eq_true (by kernel_rfl)) h2 bel lt2) (trodAll_cons_mk (Below.trod laidOut (by kernel_rfl) (of_decide_eq_true (by kernel_rfl)) h3 bel lt3) trodAll_mk0))), rfl, bel.frame _, fun h => by cases h⟩

theorem said : Rows.SpoiltSaid :=
  OpenClaim.holds_of_cond 3 Tryd.f3 rfl rfl rfl rfl rfl rfl rfl ⟨rfl, rfl, rfl, rfl, rfl⟩ rfl rfl rfl rfl rfl (by kernel_rfl) Tryd.func3 (by kernel_rfl)
    (of_decide_eq_true (by kernel_rfl)) (by unfold Func.isWrapper; first | (rw [if_pos (by decide +kernel)]; kernel_rfl) | (rw [if_neg (by decide +kernel)]; exact ⟨rfl, rfl⟩))
    (fun os started H enc _ F => by rw [OpenClaim.pre_eq_preRow]; exact lifted os started H enc F)

theorem plain (f : FuncId) (fn : Func) (hf : Tryd.pinned.checked.prog.funcNamed "salvage/salvagekeep.Spoilt" = some f) (hfn : Tryd.pinned.checked.prog.funcs[f]? = some fn) :
    false = Tryd.pinned.checked.prog.looks [] ∧ ∀ (j : Nat) t, fn.params[j]? = some t → Tryd.pinned.checked.prog.wantsStandIn t = false := by
  obtain rfl : f = 3 := Option.some.inj ((show Tryd.prog.funcNamed "salvage/salvagekeep.Spoilt" = some 3 by kernel_rfl).symm.trans hf) |>.symm
  obtain rfl : fn = Tryd.f3 := (Option.some.inj (Tryd.func3.symm.trans hfn)).symm
  refine ⟨by kernel_rfl, fun j t ht => ?_⟩
  rw [Tryd.params3] at ht
  have hm := Array.mem_of_getElem? ht
  have key : ∀ t ∈ #[24, 3, 3, 3], Tryd.prog.wantsStandIn t = false := by
    intro t ht
    simp only [List.mem_toArray, List.mem_cons, List.not_mem_nil, or_false] at ht
    rcases ht with rfl | rfl | rfl | rfl <;> kernel_rfl
  exact key t hm
end Go.Proofs.YtonjphollmdicaaDoor.spoilt
namespace Go.Proofs.YtonjphollmdicaaDoor
open Go
/-- THE STATEMENT -/
theorem spoilt_holds : Rows.SpoiltCardSaid :=
  Claim7.holds_tied_plain_at .later [] _ _ _ _ spoilt.said (fun _ h => by cases h) (by kernel_rfl) (fun _ h => by cases h) spoilt_row_tie rfl ⟨rfl, rfl⟩ (by kernel_rfl) rfl spoilt.plain (by kernel_rfl)
#print axioms spoilt_holds
end Go.Proofs.YtonjphollmdicaaDoor
