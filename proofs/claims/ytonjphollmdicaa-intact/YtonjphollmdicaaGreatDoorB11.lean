import Derived.Test.YtonjphollmdicaaGreatDoorB03
import Derived.Test.YtonjphollmdicaaGreatDoorB09
namespace Go.Proofs.YtonjphollmdicaaGreatDoor
open Go.ChangeShapes Go.WideShapes Go.ChangeAt Go.RowKit

def bodyL (size : Nat) (fs : List FileL) (i : Nat) : List UInt8 := fileBodyL i (fs.getD i ([], [])).1 (fs.getD i ([], [])).2 (cutL (fs.getD i ([], [])).2 size)
def bodiesL (size : Nat) (fs : List FileL) : List (List UInt8) := (List.range fs.length).map (bodyL size fs)
def slicesL (size : Nat) (fs : List FileL) : List (List UInt8) := fs.flatMap fun f => cutL f.2 size
def rowsL (size : Nat) (fs : List FileL) : List (List Nat) := (slicesL size fs).map rowL

theorem cutL_len (data : List UInt8) (size : Nat) (h0 : 0 < size) : (cutL data size).length = slicesOfN data.length size ∧ ∀ t ∈ cutL data size, t.length = size := by
  refine ⟨by simp [cutL], ?_⟩
  intro t ht
  simp only [cutL, List.mem_map, List.mem_range] at ht
  obtain ⟨i, hi, rfl⟩ := ht
  have hp := pad_len data size _ h0 rfl
  have m1 : (i + 1) * size ≤ slicesOfN data.length size * size := Nat.mul_le_mul_right _ hi
  have m2 : (i + 1) * size = i * size + size := Nat.succ_mul i size
  unfold pieceL
  rw [List.length_take, List.length_drop, hp]
  omega

theorem rowsL_len (size : Nat) (fs : List FileL) (h0 : 0 < size) (hf : ∀ f ∈ fs, f.2.length ≤ 400) : (rowsL size fs).length ≤ 400 * fs.length := by
  induction fs with
  | nil => simp [rowsL, slicesL]
  | cons f fs ih =>
    have h1 := ih (fun g hg => hf g (by simp [hg]))
    have h2 := slicesOfN_le f.2.length size h0
    have h3 := hf f (by simp)
    have h4 := (cutL_len f.2 size h0).1
    simp only [rowsL, slicesL, List.flatMap_cons, List.map_append, List.length_append, List.length_map, List.length_cons] at h1 ⊢
    omega

set_option maxRecDepth 100000 in
set_option maxHeartbeats 1000000 in
theorem describe_walk (fs : List FileL) (size : Nat) (a : Option Addr) (cap : Nat) (hn : fs.length ≤ 6) (h0 : 0 < size) (h1 : size ≤ 32) (hf : ∀ f ∈ fs, f.1.length ≤ 20 ∧ f.2.length ≤ 400) (w : World) (hrd : Rd w a (filesV fs)) :
    Calls Tryz.prog 97 #[.slice a fs.length cap, .int .i64 (size : Int)] w fun e w' => ∃ vb vr, e = .returned (.tuple #[vb, vr]) ∧ w'.ownsRow w.heap.size 9 1 vb fs.length (strV (bodiesL size fs)) ∧ OwnRows w' w.heap.size vr (rowsL size fs) ∧ Below w.heap.size w w' := by
  obtain ⟨i0, hi, hz0, hz1, hz2⟩ := info_parts Tryz.infoS
  obtain ⟨i1, hj, hy0, hy1, hy2⟩ := info_parts Tryz.infoRow
  go_enter Tryz.func97, Tryz.ntmps97
  go_wp2_with (at_make; refine wpList_make_own _ rfl _ _ 23 rfl w.heap.size 9 i0 (.string ByteArray.empty) 1 Tryz.underlying23 hi hz0 hz1 .i64 .i64 _ fs.length rfl rfl rfl ?c1 ?c2 (Nat.le_refl _) ?_)
  case c1 => rw [hz2]; omega
  case c2 => unfold maxLen; omega
  intro w1 hown1 hg1
  have hb1 : Below w.heap.size w w1 := (Below.refl _ w).grown hg1 (Nat.le_refl _) (by simp)
  have hsz1 := hb1.size
  clear hg1
  have hr1 : OwnRows (w1.alloc (.cells #[] 167)) w.heap.size (.slice (some ⟨w1.heap.size, 0, none⟩) 0 0) [] := by
    refine ⟨[], World.ownsRow_lit w1 #[] 0 hsz1 (Nat.zero_le _) rfl, fun j r hj => by simp at hj⟩
  have ho1 := hown1.alloc (.cells #[] 167)
  have hb2 := hb1.alloc hsz1 (.cells #[] 167)
  have H1 := hid_of hr1
  have H2 := hid_of ho1
  have H3 := hid_of hb2
  clear hr1 ho1 hb2 hown1 hb1
  go_wp2_with fail
  go_loopw [6, 7, 8, 9, 10, 12, 19] (fun vb vr _ _ _ _ i wr => ∃ k : Nat, k ≤ fs.length ∧ i = .int .i64 (k : Int) ∧ wr.ownsRow w.heap.size 9 1 vb k (strV ((bodiesL size fs).take k)) ∧ OwnRows wr w.heap.size vr (rowsL size (fs.take k)) ∧ Below w.heap.size w wr)
    (fun _ _ _ _ _ _ i _ => fs.length - (intOf i).toNat)
  case atStart => exact ⟨0, by omega, rfl, by simpa [strV] using H2.out, by simpa [rowsL, slicesL] using H1.out, H3.out⟩
  case round =>
    clear H1 H2 H3
    obtain ⟨k, hk, rfl, hownb, hownr, hbl⟩ := hrel
    have hsz := hbl.size
    by_cases hlt : k < fs.length
    · obtain ⟨b, off, rfl, hc1, hc2⟩ := fileCells hrd (Nat.le_refl _) hbl k hlt
      have hfk := hf fs[k] (List.getElem_mem hlt)
      obtain ⟨name, data, hfe⟩ : ∃ n d, fs[k] = (n, d) := ⟨_, _, rfl⟩
      rw [hfe] at hc1 hc2 hfk
      simp only at hc1 hc2 hfk
      have HFE := hid_of hfe
      clear hfe
      obtain ⟨wo, hwo⟩ : ∃ x, x = wr := ⟨_, rfl⟩
      subst hwo
      have hWb : Below wo.heap.size wo (wo.alloc (.cells #[.string (str name), .string (str data)] 62)) := (Below.refl _ _).alloc (Nat.le_refl _) _
      have hWp := Pair.new wo (.string (str name)) (.string (str data)) 62
      obtain ⟨W, hW⟩ : ∃ W, W = wo.alloc (.cells #[.string (str name), .string (str data)] 62) := ⟨_, rfl⟩
      rw [← hW] at hWb hWp
      have hWs : W.heap.size = wo.heap.size + 1 := by rw [hW]; simp
      have hC := Cut_l data size h0 h1 (by omega) W
      obtain ⟨hcl, hcz⟩ := cutL_len data size h0
      have hcm : (cutL data size).length ≤ 400 := by rw [hcl]; exact Nat.le_trans (slicesOfN_le _ _ h0) hfk.2
      rw [← hcl] at hC
      have K1 := hid_of hWb
      have K2 := hid_of hWp
      have K3 := hid_of hW
      have K4 := hid_of hWs
      have K5 := hid_of hC
      have K6 := hid_of hcl
      have K7 := hid_of hcz
      have K8 := hid_of hownb
      have K9 := hid_of hownr
      have K10 := hid_of hbl
      have K11 := hid_of hrd
      have K12 := hid_of hf
      clear hWb hWp hW hWs hC hcl hcz hownb hownr hrd hf hbl
      go_wp2_with fail
      rw [← K3.out]
      refine K5.out.mono ?_
      rintro e w2 ⟨vS, rfl, hownS, hb2⟩
      obtain ⟨aS, cS, hvS, _, _, hrS⟩ := ownsRow_rd hownS
      have hp2 : Pair w2 wo.heap.size (.string (str name)) (.string (str data)) := ⟨by rw [hb2.cell (by rw [K4.out]; simp)]; exact K2.out.1, by rw [hb2.cell (by rw [K4.out]; simp)]; exact K2.out.2⟩
      have hq0 := hp2.1
      have hq1 := hp2.2
      have hch2 := Below.next K1.out hb2
      rw [hvS]
      have hF := FileBody_walk k name data (cutL data size) aS cS (by omega) (by omega) (by omega) (by omega) (fun t ht => by rw [K7.out t ht]; omega) w2 hrS
      have L1 := hid_of hF
      have L2 := hid_of hownS
      have L3 := hid_of hch2
      have L4 := hid_of hvS
      clear hF hownS hch2 hvS hrS hb2 hp2
      go_wp2_with fail
      refine L1.out.mono ?_
      rintro e w3 ⟨rfl, hb3⟩
      have hch3 := Below.next L3.out hb3
      have hownb3 := ownsRow_later K8.out (Nat.le_refl _) hch3
      have hownr3 := K9.out.later hch3
      have hownS3 := ownsRow_later L2.out (Nat.le_refl _) hb3
      have hbl3 : Below w.heap.size w w3 := K10.out.trans (hch3.mono (by omega))
      have hsz3 := hbl3.size
      have M1 := hid_of hch3
      have M2 := hid_of hownr3
      have M3 := hid_of hownS3
      have M4 := hid_of hbl3
      clear hch3 hownr3 hownS3 hbl3 hb3 hq0 hq1
      go_wp2_with (at_builtin; refine wpList_append_own _ rfl (.tmp 28) (.tmp 33) 23 rfl w.heap.size 9 i0 (.string ByteArray.empty) 1 16 Tryz.underlying23 hi hz0 hz1 hz2 rfl (by decide) _ _ _ rfl (hownb3.alloc _) ⟨w3.heap.size, 0, none⟩ 1 1 [.string (str (fileBodyL k name data (cutL data size)))] rfl rfl (cell_one_new _ _ _) ?d2 ?d3 ?d4 ?d5 ?_)
      case d2 => intro u hu; simp at hu; subst hu; rfl
      case d3 => unfold maxLen; omega
      case d4 => omega
      case d5 => simp; omega
      intro vb4 w4 hownb4 hg4 _
      have hbl4 := below_step M4.out hsz3 hownb3 hg4
      have hown4' : w4.ownsRow w.heap.size 9 1 vb4 (k + 1) (strV ((bodiesL size fs).take (k + 1))) := by
        have e1 : (bodiesL size fs).take (k + 1) = (bodiesL size fs).take k ++ [fileBodyL k name data (cutL data size)] := by
          rw [take_snoc _ k (by simpa [bodiesL] using hlt)]
          congr 2
          simp only [bodiesL, List.getElem_map, List.getElem_range]
          unfold bodyL
          rw [show fs.getD k ([], []) = (name, data) from by rw [← HFE.out]; simp [hlt]]
        rw [e1]
        simpa [strV] using hownb4
      have hrows4 := (M2.out.later ((Below.refl _ _).alloc (Nat.le_refl _) (.cells #[.string (str (fileBodyL k name data (cutL data size)))] 9))).kept (hownb3.alloc _) (by decide) (by decide) hg4
      have hS4 : w4.ownsRow W.heap.size 9 1 vS (cutL data size).length (strV (cutL data size)) := by
        refine (M3.out.alloc _).kept hg4 ?_
        have l1 := M3.out.lt
        have l2 := K8.out.lt
        cases hvb : vS.ownBlock with
        | none => left; rfl
        | some g =>
          right
          intro e
          have := (l1 g hvb).1
          have := (l2 g e.symm).2
          rw [K4.out] at *
          omega
      have hsz4 := hbl4.size
      have N1 := hid_of hown4'
      have N2 := hid_of hrows4
      have N3 := hid_of hS4
      have N4 := hid_of hbl4
      have hbaseS : w.heap.size ≤ W.heap.size := by rw [K4.out]; omega
      clear hown4' hrows4 hS4 hbl4 hownb4 hg4 hownb3 M1 M2 M3 M4 hc1 hc2 hsz3
      go_wp2_with fail
      go_loopw [7, 12, 37] (fun vr _ i wr => ∃ j : Nat, j ≤ (cutL data size).length ∧ i = .int .i64 (j : Int) ∧ wr.ownsRow w.heap.size 9 1 vb4 (k + 1) (strV ((bodiesL size fs).take (k + 1))) ∧ OwnRows wr w.heap.size vr (rowsL size (fs.take k) ++ ((cutL data size).take j).map rowL) ∧ wr.ownsRow W.heap.size 9 1 vS (cutL data size).length (strV (cutL data size)) ∧ Below w.heap.size w wr)
        (fun _ _ i _ => (cutL data size).length - (intOf i).toNat)
      case atStart => exact ⟨0, by omega, rfl, N1.out, by simpa using N2.out, N3.out, N4.out⟩
      case round =>
        clear N1 N2 N3 N4 hsz4
        obtain ⟨j, hjl, rfl, hob, hor, hoS, hbl⟩ := hrel
        have hsz5 := hbl.size
        by_cases hjlt : j < (cutL data size).length
        · obtain ⟨aS', cS', hvS', _, _, hrS⟩ := ownsRow_rd hoS
          rw [L4.out] at hvS'
          cases hvS'
          obtain ⟨b3, off3, rfl, hc3⟩ := hrS j (.string (str (cutL data size)[j])) (by simp [strV, hjlt])
          have htz := K7.out (cutL data size)[j] (List.getElem_mem hjlt)
          have hR := ReadRow_walk (cutL data size)[j] (by omega) wr
          have P0 := hid_of htz
          clear htz
          have P1 := hid_of hR
          have P2 := hid_of hob
          have P3 := hid_of hor
          have P4 := hid_of hoS
          have P5 := hid_of hbl
          clear hR hob hor hoS hbl hrS
          go_wp2_with fail
          refine P1.out.mono ?_
          rintro e w5 ⟨v5, rfl, hown5, hb5⟩
          have hor5 := P3.out.later hb5
          obtain ⟨vs, hv1, hv2⟩ := hor5
          have hob5 := ownsRow_later P2.out (Nat.le_refl _) hb5
          have hoS5 := ownsRow_later P4.out (Nat.le_refl _) hb5
          have hbl5 : Below w.heap.size w w5 := P5.out.trans (hb5.mono (by omega))
          have hsz6 := hbl5.size
          have hrl : (rowL (cutL data size)[j]).length = (cutL data size)[j].length / 2 := rowL_length _
          rw [← hrl] at hown5
          have hown5' := ownsRow_base (base' := w.heap.size) (by omega) hown5
          have hnl : (rowsL size (fs.take k) ++ ((cutL data size).take j).map rowL).length ≤ 100000 := by
            rw [List.length_append, List.length_map, List.length_take]
            have := rowsL_len size (fs.take k) h0 (fun f hf' => (K12.out f (List.mem_of_mem_take hf')).2)
            have h6 : (fs.take k).length ≤ 6 := by rw [List.length_take]; omega
            omega
          have Q2 := hid_of hv2
          have Q3 := hid_of hob5
          have Q4 := hid_of hoS5
          have Q5 := hid_of hbl5
          have Q6 := hid_of hown5'
          have Q7 := hid_of hrl
          clear hrl
          obtain ⟨a5, c5, hv5, _, _, _⟩ := ownsRow_rd hown5
          rw [hv5] at Q6 ⊢
          clear hv2 hob5 hoS5 hbl5 hown5 hown5' hb5 P1 P2 P3 P4 P5
          go_wp2_with (at_builtin; refine wpList_append_own _ rfl (.tmp 41) (.tmp 44) 160 rfl w.heap.size 167 i1 (.slice none 0 0) 1 24 Tryz.underlying160 hj hy0 hy1 hy2 rfl (by decide) _ _ _ rfl (hv1.alloc _) ⟨w5.heap.size, 0, none⟩ 1 1 [.slice a5 (rowL (cutL data size)[j]).length c5] rfl rfl (cell_one_new _ _ _) ?f2 ?f3 ?f4 ?f5 ?_)
          case f2 => intro u hu; simp at hu; subst hu; rfl
          case f3 => unfold maxLen; omega
          case f4 => omega
          case f5 => simp; omega
          intro v6 w6 hown6 hg6 _
          have hbl6 := below_step Q5.out hsz6 hv1 hg6
          have hal : Below w5.heap.size w5 (w5.alloc (.cells #[.slice a5 (rowL (cutL data size)[j]).length c5] 167)) := (Below.refl _ _).alloc (Nat.le_refl _) _
          have hrows6 : OwnRows w6 w.heap.size v6 (rowsL size (fs.take k) ++ ((cutL data size).take (j + 1)).map rowL) := by
            have hlen : (rowsL size (fs.take k) ++ ((cutL data size).take j).map rowL).length = (rowsL size (fs.take k)).length + j := by
              rw [List.length_append, List.length_map, List.length_take, Nat.min_eq_left hjl]
            rw [← hlen] at hown6
            have := OwnRows.append (hv1.alloc _) (fun j' r' hj' => by
              obtain ⟨u, m1, m2⟩ := Q2.out j' r' hj'
              exact ⟨u, m1, m2.alloc _⟩) (Q6.out.alloc _) hown6 hg6
            rw [take_snoc _ j hjlt, List.map_append, ← List.append_assoc]
            exact this
          have hob6 := (Q3.out.alloc _).kept hg6 (own_ne Q3.out hv1 (by decide))
          have hoS6 := (Q4.out.alloc _).kept hg6 (own_ne Q4.out hv1 (by decide))
          have R1 := hid_of hbl6
          have R2 := hid_of hrows6
          have R3 := hid_of hob6
          have R4 := hid_of hoS6
          clear hbl6 hrows6 hob6 hoS6 hown6 hg6 hv1 hal
          go_wp2_with fail
          go_roundw
          case rel => exact ⟨j + 1, by omega, by go_num, R3.out, R2.out, R4.out, R1.out⟩
          case measure => simp [intOf]; omega
        · obtain rfl : j = (cutL data size).length := by omega
          have hrows : rowsL size (fs.take k) ++ ((cutL data size).take (cutL data size).length).map rowL = rowsL size (fs.take (k + 1)) := by
            rw [List.take_length, take_snoc fs k hlt]
            unfold rowsL slicesL
            rw [List.flatMap_append, List.map_append, HFE.out]
            simp
          rw [hrows] at hor
          go_wp2_with fail
          go_roundw
          case rel => exact ⟨k + 1, by omega, by go_num, hob, hor, hbl⟩
          case measure => simp [intOf]; omega
    · obtain rfl : k = fs.length := by omega
      rw [List.take_length] at hownr
      rw [List.take_of_length_le (by simp [bodiesL])] at hownb
      go_wp2_with fail
      go_ret2
      exact ⟨_, _, rfl, hownb, hownr, hbl⟩
end Go.Proofs.YtonjphollmdicaaGreatDoor
