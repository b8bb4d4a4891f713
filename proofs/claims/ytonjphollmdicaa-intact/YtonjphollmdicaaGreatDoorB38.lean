import Derived.Test.YtonjphollmdicaaGreatDoorB37
namespace Go.Proofs.YtonjphollmdicaaGreatDoor
open Go.ChangeShapes Go.WideShapes Go.ChangeAt Go.RowKit

/-- no piece of the files, and no slice, has the hash of another slice -/
def NoClash (l : List FileL) (b : Nat) (S : List (List UInt8)) : Prop := (∀ f ∈ l, ∀ j, j < f.2.length → ∀ t ∈ S, hashL t = hashL (pieceAt f.2 b j) → t = pieceAt f.2 b j) ∧ (∀ i k (hi : i < S.length) (hk : k < i), hashL S[i] = hashL S[k] → S[i] = S[k])
def Told (p : Prop) (w : World) (e : Ending) (w' : World) : Prop := (∃ v : Bool, e = .returned (.bool v) ∧ (v = false → p)) ∧ Below w.heap.size w w'

set_option maxRecDepth 100000 in
set_option maxHeartbeats 2000000 in
theorem kclash_walk (l : List FileL) (b : Nat) (S : List (List UInt8)) (a sa : Option Addr) (c sc : Nat) (hb1 : 1 ≤ b) (hb2 : b ≤ 8) (hl : l.length ≤ 1000) (hf : ∀ f ∈ l, f.2.length ≤ 1000) (hS1 : S.length ≤ 1000) (hS2 : ∀ t ∈ S, t.length ≤ 1000) (w : World) (ha : Rd w a (filesV l)) (hs : Rd w sa (strV S)) :
    Calls Tryz.prog 27 #[.slice a l.length c, .int .i64 (b : Int), .slice sa S.length sc] w fun e w' => Told (NoClash l b S) w e w' := by
  obtain ⟨i0, hi, hz0, hz1, hz2⟩ := info_parts Tryz.info8
  have hmk : ∀ W : World, (Instr.makeSlice 67 (.int .i64 ((b : Int) - 1)) (.int .i64 ((b : Int) - 1))).run Tryz.prog W = .ok (.slice (some ⟨W.heap.size, 0, none⟩) (b - 1) (b - 1)) (W.alloc (.cells (madeCells #[.int .u8 0] (b - 1)) 5)) := fun W => by
    rw [show (b : Int) - 1 = ((b - 1 : Nat) : Int) from by omega]
    exact run_make_row' 67 5 (.int .u8 0) 1 Tryz.underlying67 Tryz.info8 rfl .i64 .i64 (b - 1) (by omega) (by omega) W
  have hcg : ∀ (V : World) (B : Nat), Blk V B (madeCells #[.int .u8 0] (b - 1)).toList → (convert 67 9 (.slice (some ⟨B, 0, none⟩) (b - 1) (b - 1))).run Tryz.prog V = .ok (.string (str (List.replicate (b - 1) 0))) V := fun V B hV => by
    have := run_convert_bytes_back V 67 9 5 ⟨B, 0, none⟩ (b - 1) (List.replicate (b - 1) 0) Tryz.underlying67 Tryz.underlying5 Tryz.underlying9 (fun j hj => by
      have hj' : j < b - 1 := by simpa using hj
      have hadd : (⟨B, 0, none⟩ : Addr).add j = ⟨B, j, none⟩ := by unfold Addr.add; split <;> simp_all
      rw [hadd]
      refine (hV j (.int .u8 0) (by rw [toList_madeCells_one, List.getElem?_replicate, if_pos hj'])).1.trans ?_
      simp)
    rw [List.length_replicate] at this
    exact this
  have hcv0 := fun W : World => hcg _ _ (Blk.new W (madeCells #[.int .u8 0] (b - 1)) 5)
  have hcv1 := fun W : World => hcg _ _ (Blk.new W (madeCells #[.int .u8 0] (b - 1)) 5).drew
  have hcv2 := fun W : World => hcg _ _ (Blk.new W (madeCells #[.int .u8 0] (b - 1)) 5).drew.drew
  have hcv3 : ∀ W : World, (convert 67 9 (.slice (some ⟨W.heap.size, 0, none⟩) (b - 1) (b - 1))).run Tryz.prog (W.drew.alloc (.cells (madeCells #[.int .u8 0] (b - 1)) 5)) = _ := fun W => hcg _ _ (Blk.new W.drew (madeCells #[.int .u8 0] (b - 1)) 5)
  clear hcg
  have HA := hid_of ha
  have HF := hid_of hf
  have HSR := hid_of hs
  have HS2 := hid_of hS2
  have hTY : ∀ w', Below w.heap.size w w' → Told (NoClash l b S) w (.returned (.bool true)) w' := fun w' h => ⟨⟨true, rfl, by simp⟩, h⟩
  have HTY := hid_of hTY
  clear ha hf hs hS2 hTY
  go_enter Tryz.func27, Tryz.ntmps27
  go_wp2_with fail
  go_loopw [7] (fun i wr => ∃ k : Nat, k ≤ l.length ∧ i = .int .i64 (k : Int) ∧ Below w.heap.size w wr ∧ Hid (∀ f ∈ l.take k, ∀ j, j < f.2.length → ∀ t ∈ S, hashL t = hashL (pieceAt f.2 b j) → t = pieceAt f.2 b j))
    (fun i _ => l.length - (intOf i).toNat)
  case atStart => exact ⟨0, by omega, rfl, Below.refl _ _, hid_of (by simp)⟩
  case round =>
    obtain ⟨k, hk, rfl, hbl, hd⟩ := hrel
    obtain ⟨Wo, rfl⟩ : ∃ x, x = wr := ⟨wr, rfl⟩
    by_cases hlt : k < l.length
    · obtain ⟨b1, o1, rfl, hc1, hc1'⟩ := fileCells HA.out (Nat.le_refl _) hbl k hlt
      have hfl := HF.out _ (List.getElem_mem hlt)
      have hstep : (∀ j, j < l[k].2.length → ∀ t ∈ S, hashL t = hashL (pieceAt l[k].2 b j) → t = pieceAt l[k].2 b j) → ∀ f ∈ l.take (k + 1), ∀ j, j < f.2.length → ∀ t ∈ S, hashL t = hashL (pieceAt f.2 b j) → t = pieceAt f.2 b j := by
        intro h f hfm
        rw [take_snoc l k hlt, List.mem_append, List.mem_singleton] at hfm
        rcases hfm with h1 | rfl
        · exact hd.out f h1
        · exact h
      have HST := hid_of hstep
      have HBL := hid_of hbl
      have hszr := hbl.size
      have g1 : (k : Int) < (l.length : Int) := by omega
      obtain ⟨x, hx⟩ : ∃ x, x = l[k].2 := ⟨_, rfl⟩
      rw [← hx] at hc1' HST hfl
      have hxs := str_size x
      clear hstep hbl hd hx
      have hcat : str x ++ str (List.replicate (b - 1) 0) = str (fillL x b) := by rw [str_add, str_data]; rfl
      have hrs : (str (List.replicate (b - 1) 0)).size = b - 1 := by rw [str_size, List.length_replicate]
      have hwr : IntKind.i64.wrap ((b : Int) - 1) = (b : Int) - 1 := by
        first | go_num | (apply wrap_i64 <;> omega) | (unfold IntKind.wrap; simp; omega) | (unfold IntKind.wrap; simp [IntKind.bits, IntKind.signed]; omega)
      have hS : ∀ W, Below Wo.heap.size Wo W → W.cell? ⟨b1, o1 + k * 2 + 1, none⟩ = some (.string (str x)) ∧ Below Wo.heap.size Wo W := fun W hW => ⟨(hW.cell (World.block_lt_of_cell? Wo _ hc1')).trans hc1', hW⟩
      have HS := hid_of hS
      clear hS
      go_wp2_with fail
      go_region_held (fun W => W.cell? ⟨b1, o1 + k * 2 + 1, none⟩ = some (.string (str x)) ∧ Below Wo.heap.size Wo W)
        (first | assumption | exact HS.out _ (Below.refl _ _).drew | exact HS.out _ (((Below.refl _ Wo).alloc (Nat.le_refl _) _).drew) | exact HS.out _ ((Below.refl _ Wo).drew.alloc (Nat.le_refl _) _))
        (fail)
      have hB1 := HS.out _ (((Below.refl _ Wo).alloc (Nat.le_refl _) (.cells (madeCells #[.int .u8 0] (b - 1)) 5)).drew)
      obtain ⟨W1, hW1⟩ : ∃ x, x = (Wo.alloc (.cells (madeCells #[.int .u8 0] (b - 1)) 5)).drew := ⟨_, rfl⟩
      rw [← hW1] at hB1 ⊢
      have hfs : (str (fillL x b)).size = x.length + (b - 1) := by rw [str_size]; simp [fillL]
      have HB1 := hid_of hB1
      clear hW1 hB1 hmk hcv0 hcv1 hcv2 hcv3 hcat hrs
      go_wp2_with fail
      go_loopw [9] (fun i W2 => ∃ j : Nat, j ≤ x.length ∧ i = .int .i64 (j : Int) ∧ Below Wo.heap.size Wo W2 ∧ Hid (∀ j', j' < j → ∀ t ∈ S, hashL t = hashL (pieceAt x b j') → t = pieceAt x b j'))
        (fun i _ => x.length - (intOf i).toNat)
      case atStart => exact ⟨0, by omega, rfl, HB1.out.2, hid_of (fun j' h => by omega)⟩
      case round =>
        obtain ⟨j, hj, rfl, hbl2, hd2⟩ := hrel
        obtain ⟨hq, _⟩ := HS.out _ hbl2
        have HBL2 := hid_of hbl2
        clear hbl2
        by_cases hlt2 : j < x.length
        · have hex : (str (fillL x b)).extract j (j + b) = str (pieceAt x b j) := by
            rw [str_extract, Nat.add_sub_cancel_left]
            rfl
          have hpl : (pieceAt x b j).length ≤ 1000000 := by unfold pieceAt; rw [List.length_take]; omega
          have hnx : (∀ t ∈ S, hashL t = hashL (pieceAt x b j) → t = pieceAt x b j) → ∀ j', j' < j + 1 → ∀ t ∈ S, hashL t = hashL (pieceAt x b j') → t = pieceAt x b j' := by
            intro h j' hj'
            rcases Nat.lt_or_ge j' j with h1 | h1
            · exact hd2.out j' h1
            · obtain rfl : j' = j := by omega
              exact h
          have HNX := hid_of hnx
          obtain ⟨p, hp⟩ : ∃ p, p = pieceAt x b j := ⟨_, rfl⟩
          rw [← hp] at hex HNX hpl
          have hkh := fun W => khash_l p hpl W
          obtain ⟨hp', hhp⟩ : ∃ n, n = hashL p := ⟨_, rfl⟩
          rw [← hhp] at hkh HNX
          have HKH := hid_of hkh
          have HHP := hid_of hhp
          clear hnx hp hd2 hkh hhp
          go_wp2_with fail
          refine (HKH.out _).mono ?_
          rintro e w' ⟨rfl, hw'⟩
          rw [hw']
          clear hw' w'
          go_wp2_with fail
          go_loopw [11] (fun i W3 => ∃ q : Nat, q ≤ S.length ∧ i = .int .i64 (q : Int) ∧ Below Wo.heap.size Wo W3 ∧ Hid (∀ t ∈ S.take q, hashL t = hp' → t = p))
            (fun i _ => S.length - (intOf i).toNat)
          case atStart => exact ⟨0, by omega, rfl, HBL2.out, hid_of (by simp)⟩
          case round =>
            obtain ⟨q, hqq, rfl, hbl3, hd3⟩ := hrel
            have hB3 := HBL.out.trans (hbl3.mono hszr)
            have HBL3 := hid_of hbl3
            by_cases hlt3 : q < S.length
            · obtain ⟨sb, so, rfl, hsc⟩ := (HSR.out.later (Nat.le_refl _) hB3) q (.string (str S[q])) (by simp [strV, hlt3])
              have htl := HS2.out _ (List.getElem_mem hlt3)
              have hnx3 : (hashL S[q] = hp' → S[q] = p) → ∀ t ∈ S.take (q + 1), hashL t = hp' → t = p := by
                intro h t ht
                rw [take_snoc S q hlt3, List.mem_append, List.mem_singleton] at ht
                rcases ht with h1 | rfl
                · exact hd3.out t h1
                · exact h
              obtain ⟨t, ht⟩ : ∃ t, t = S[q] := ⟨_, rfl⟩
              rw [← ht] at hsc htl hnx3
              have hkt := fun W => khash_l t (by omega) W
              obtain ⟨ht', hht⟩ : ∃ n, n = hashL t := ⟨_, rfl⟩
              rw [← hht] at hkt hnx3
              have HKT := hid_of hkt
              have HN3 := hid_of hnx3
              have HB3 := hid_of hB3
              clear hkt hnx3 hB3 hbl3 hd3 ht hht
              go_wp2_with fail
              refine (HKT.out _).mono ?_
              rintro e w' ⟨rfl, hw'⟩
              rw [hw']
              clear hw' w'
              by_cases e1 : ht' = hp'
              · by_cases e2 : t = p
                · have HN := hid_of (HN3.out (fun _ => e2))
                  have q1 : ((str t).toList == (str p).toList) = true := by rw [e2]; exact beq_self_eq_true _
                  have q2 : ((ht' : Int) == (hp' : Int)) = true := by rw [e1]; exact beq_self_eq_true _
                  clear HN3 HKT
                  subst e1 e2
                  go_wp2_with fail
                  try go_quiet (fail)
                  go_wp2_with fail
                  first | exact ⟨⟨q + 1, by omega, by go_num, rdrewN HBL3.out _, HN⟩, by simp [intOf]; omega⟩ | exact ⟨⟨q + 1, by omega, by go_num, HBL3.out, HN⟩, by simp [intOf]; omega⟩
                · have q1 : ((str t).toList == (str p).toList) = false := by rw [str_toList, str_toList]; exact beq_eq_false_iff_ne.2 e2
                  subst e1
                  clear HN3 HKT e2
                  go_wp2_with fail
                  try go_quiet (fail)
                  go_wp2_with fail
                  go_ret
                  first | exact HTY.out _ (rdrewN HB3.out _) | exact HTY.out _ HB3.out
              · have HN := hid_of (HN3.out (fun h => absurd h e1))
                have q2 : ((ht' : Int) == (hp' : Int)) = false := beq_eq_false_iff_ne.2 (by omega)
                clear HN3 HKT e1
                go_wp2_with fail
                try go_quiet (fail)
                go_wp2_with fail
                first | exact ⟨⟨q + 1, by omega, by go_num, rdrewN HBL3.out _, HN⟩, by simp [intOf]; omega⟩ | exact ⟨⟨q + 1, by omega, by go_num, HBL3.out, HN⟩, by simp [intOf]; omega⟩
            · obtain rfl : q = S.length := by omega
              have hd3' := hd3.out
              rw [List.take_length, HHP.out] at hd3'
              have HN := hid_of (HNX.out (by rw [HHP.out]; exact hd3'))
              clear hd3 hd3' hB3 hbl3
              go_wp2_with fail
              go_roundw
              case rel => exact ⟨j + 1, by omega, by go_num, HBL3.out, HN⟩
              case measure => simp [intOf]; omega
        · obtain rfl : j = x.length := by omega
          have HN := hid_of (HST.out hd2.out)
          clear hd2
          go_wp2_with fail
          go_roundw
          case rel => exact ⟨k + 1, by omega, by go_num, HBL.out.trans (HBL2.out.mono hszr), HN⟩
          case measure => simp [intOf]; omega
    · obtain rfl : k = l.length := by omega
      have hd' := hd.out
      rw [List.take_length] at hd'
      have HD := hid_of hd'
      have HBL := hid_of hbl
      clear hd hd' hbl hmk hcv0 hcv1 hcv2 hcv3
      go_wp2_with fail
      go_loopw [13] (fun i W2 => ∃ n : Nat, n ≤ S.length ∧ i = .int .i64 (n : Int) ∧ Below w.heap.size w W2 ∧ Hid (∀ i k (hi : i < S.length) (hk : k < i), i < n → hashL S[i] = hashL S[k] → S[i] = S[k]))
        (fun i _ => S.length - (intOf i).toNat)
      case atStart => exact ⟨0, by omega, rfl, HBL.out, hid_of (fun i k _ _ h => by omega)⟩
      case round =>
        obtain ⟨n, hn, rfl, hbl2, hd2⟩ := hrel
        have HBL2 := hid_of hbl2
        by_cases hlt2 : n < S.length
        · have hT := HS2.out _ (List.getElem_mem hlt2)
          have hnx : (∀ k (hk : k < S.length), k < n → hashL S[n] = hashL S[k] → S[n] = S[k]) → ∀ i k (hi : i < S.length) (hk : k < i), i < n + 1 → hashL S[i] = hashL S[k] → S[i] = S[k] := by
            intro h i k hi hk hin
            rcases Nat.lt_or_ge i n with h1 | h1
            · exact hd2.out i k hi hk h1
            · obtain rfl : i = n := by omega
              exact h k (by omega) hk
          have HNX := hid_of hnx
          clear hnx hd2 hbl2
          go_wp2_with fail
          go_loopw [14] (fun i W3 => ∃ q : Nat, q ≤ n ∧ i = .int .i64 (q : Int) ∧ Below w.heap.size w W3 ∧ Hid (∀ k (hk : k < S.length), k < q → hashL S[n] = hashL S[k] → S[n] = S[k]))
            (fun i _ => n - (intOf i).toNat)
          case atStart => exact ⟨0, by omega, rfl, HBL2.out, hid_of (fun k _ h => by omega)⟩
          case round =>
            obtain ⟨q, hqq, rfl, hbl3, hd3⟩ := hrel
            have HBL3 := hid_of hbl3
            by_cases hlt3 : q < n
            · obtain ⟨sb, so, rfl, hsc⟩ := (HSR.out.later (Nat.le_refl _) hbl3) n (.string (str S[n])) (by simp [strV, hlt2])
              obtain ⟨sb', so', e, hsd⟩ := (HSR.out.later (Nat.le_refl _) hbl3) q (.string (str (S[q]'(by omega)))) (by simp [strV, show q < S.length by omega])
              cases e
              have htq := HS2.out _ (List.getElem_mem (show q < S.length by omega))
              have hnx3 : (hashL S[n] = hashL (S[q]'(by omega)) → S[n] = S[q]'(by omega)) → ∀ k (hk : k < S.length), k < q + 1 → hashL S[n] = hashL S[k] → S[n] = S[k] := by
                intro h k hk hkq
                rcases Nat.lt_or_ge k q with h1 | h1
                · exact hd3.out k hk h1
                · obtain rfl : k = q := by omega
                  exact h
              have hk1 := fun W => khash_l S[n] (by omega) W
              have hk2 := fun W => khash_l (S[q]'(by omega)) (by omega) W
              have HN3 := hid_of hnx3
              obtain ⟨t, ht⟩ : ∃ t, t = S[n] := ⟨_, rfl⟩
              obtain ⟨p, hp⟩ : ∃ t, t = S[q]'(by omega) := ⟨_, rfl⟩
              rw [← ht] at hsc hk1
              rw [← hp] at hsd hk2
              have hgo3 : (hashL t = hashL p → t = p) → Hid (∀ k (hk : k < S.length), k < q + 1 → hashL S[n] = hashL S[k] → S[n] = S[k]) := by
                intro h
                exact hid_of (HN3.out (by rw [← ht, ← hp]; exact h))
              have HG := hid_of hgo3
              obtain ⟨ht', hht⟩ : ∃ n, n = hashL t := ⟨_, rfl⟩
              obtain ⟨hp', hhp⟩ : ∃ n, n = hashL p := ⟨_, rfl⟩
              rw [← hht] at hk1 HG
              rw [← hhp] at hk2 HG
              have HK1 := hid_of hk1
              have HK2 := hid_of hk2
              clear hk1 hk2 hnx3 hbl3 hd3 ht hp hht hhp HN3 hgo3 hT htq
              go_wp2_with fail
              refine (HK1.out _).mono ?_
              rintro e w' ⟨rfl, hw'⟩
              rw [hw']
              clear hw' w'
              go_wp2_with fail
              refine (HK2.out _).mono ?_
              rintro e w' ⟨rfl, hw'⟩
              rw [hw']
              clear hw' w'
              by_cases e1 : ht' = hp'
              · by_cases e2 : t = p
                · have HN := HG.out (fun _ => e2)
                  clear HG HK1 HK2
                  subst e1 e2
                  go_wp2_with fail
                  try go_quiet (fail)
                  go_wp2_with fail
                  first | exact ⟨⟨q + 1, by omega, by go_num, rdrewN HBL3.out _, HN⟩, by simp [intOf]; omega⟩ | exact ⟨⟨q + 1, by omega, by go_num, HBL3.out, HN⟩, by simp [intOf]; omega⟩
                · have q1 : ((str t).toList == (str p).toList) = false := by rw [str_toList, str_toList]; exact beq_eq_false_iff_ne.2 e2
                  subst e1
                  clear HG HK1 HK2 e2
                  go_wp2_with fail
                  try go_quiet (fail)
                  go_wp2_with fail
                  go_ret
                  first | exact HTY.out _ (rdrewN HBL3.out _) | exact HTY.out _ HBL3.out
              · have HN := HG.out (fun h => absurd h e1)
                have q2 : ((ht' : Int) == (hp' : Int)) = false := beq_eq_false_iff_ne.2 (by omega)
                clear HG HK1 HK2 e1
                go_wp2_with fail
                try go_quiet (fail)
                go_wp2_with fail
                first | exact ⟨⟨q + 1, by omega, by go_num, rdrewN HBL3.out _, HN⟩, by simp [intOf]; omega⟩ | exact ⟨⟨q + 1, by omega, by go_num, HBL3.out, HN⟩, by simp [intOf]; omega⟩
            · obtain rfl : q = n := by omega
              have HN := hid_of (HNX.out hd3.out)
              clear hd3 hbl3
              go_wp2_with fail
              go_roundw
              case rel => exact ⟨q + 1, by omega, by go_num, HBL3.out, HN⟩
              case measure => simp [intOf]; omega
        · have HN : Hid (NoClash l b S) := hid_of ⟨HD.out, fun i k hi hk => hd2.out i k hi hk (by omega)⟩
          clear hd2 hbl2
          go_wp2_with fail
          go_ret
          exact ⟨⟨false, rfl, fun _ => HN.out⟩, HBL2.out⟩
end Go.Proofs.YtonjphollmdicaaGreatDoor
namespace Go.Proofs.YtonjphollmdicaaGreatDoor

/-! a set that is whole; one file of it that is gone, or another one -/
theorem few_packets (size : Nat) (fs : List FileL) (extra : Nat) : (packetsL size fs extra).take (1 + fs.length) = packetsL size fs 0 := by
  rw [packets_map, packets_map, ← List.map_take]
  congr 1
  unfold madeFound
  rw [Nat.add_comm, List.take_succ_cons, List.take_left' (by simp)]
  simp
theorem name_at {fs : List FileL} {size : Nat} (hg : goodSet fs size = true) {i j : Nat} (hi : i < fs.length) (hj : j < i) : fs[j].1 ≠ fs[i].1 := by
  obtain ⟨_, _, _, _, _, h⟩ := set_file hg
  have h := h i hi
  intro e
  unfold hasNameL at h
  rw [List.any_eq_false] at h
  have hm : fs[j] ∈ fs.take i := List.mem_iff_getElem.2 ⟨j, by rw [List.length_take]; omega, by rw [List.getElem_take]⟩
  exact h _ hm (beq_iff_eq.2 e)
theorem find_front {l r : List FileL} {x : FileL} {n : List UInt8} (h : ∀ y ∈ l, y.1 ≠ n) (hx : x.1 = n) : (l ++ x :: r).find? (fun f => f.1 == n) = some x := by
  rw [List.find?_append, List.find?_eq_none.2 (fun y hy => by simpa using h y hy), List.find?_cons, beq_iff_eq.2 hx]
  rfl
theorem take_names {fs : List FileL} {size : Nat} (hg : goodSet fs size = true) {i : Nat} (hi : i < fs.length) : ∀ y ∈ fs.take i, y.1 ≠ fs[i].1 := by
  intro y hy
  obtain ⟨j, hj, rfl⟩ := List.mem_iff_getElem.1 hy
  rw [List.length_take] at hj
  rw [List.getElem_take]
  exact name_at hg hi (by omega)
theorem drop_names {fs : List FileL} {size : Nat} (hg : goodSet fs size = true) {i : Nat} (hi : i < fs.length) : ∀ y ∈ fs.drop (i + 1), y.1 ≠ fs[i].1 := by
  intro y hy
  obtain ⟨j, hj, rfl⟩ := List.mem_iff_getElem.1 hy
  rw [List.length_drop] at hj
  rw [List.getElem_drop]
  exact (name_at hg (i := i + 1 + j) (j := i) (by omega) (by omega)).symm
theorem state_own {fs : List FileL} {size : Nat} (hg : goodSet fs size = true) {i : Nat} (hi : i < fs.length) : descState fs (descOf size fs[i]) = 1 := by
  unfold descState stateL
  have e := find_front (r := fs.drop (i + 1)) (take_names hg hi) (rfl : fs[i].1 = fs[i].1)
  rw [← List.drop_eq_getElem_cons hi, List.take_append_drop] at e
  have e1 : (descOf size fs[i]).name = fs[i].1 := rfl
  have e2 : (descOf size fs[i]).long = fs[i].2.length := by unfold descOf; with_reducible rfl
  have e3 : (descOf size fs[i]).hash = hashL fs[i].2 := by unfold descOf; with_reducible rfl
  rw [e1, e2, e3, e]
  exact if_pos ⟨rfl, rfl⟩
theorem state_gone {fs : List FileL} {size : Nat} (hg : goodSet fs size = true) {i : Nat} (hi : i < fs.length) : descState (fs.take i ++ fs.drop (i + 1)) (descOf size fs[i]) = 3 := by
  unfold descState stateL
  have e1 : (descOf size fs[i]).name = fs[i].1 := rfl
  rw [e1, List.find?_eq_none.2 (fun y hy => ?_)]
  rcases List.mem_append.1 hy with h | h
  · simpa using take_names hg hi y h
  · simpa using drop_names hg hi y h
theorem state_other {fs : List FileL} {size : Nat} (hg : goodSet fs size = true) {i : Nat} (hi : i < fs.length) (d : List UInt8) : descState (fs.take i ++ (fs[i].1, d) :: fs.drop (i + 1)) (descOf size fs[i]) = if d.length = fs[i].2.length ∧ hashL d = hashL fs[i].2 then 1 else 2 := by
  unfold descState stateL
  have e := find_front (r := fs.drop (i + 1)) (x := (fs[i].1, d)) (take_names hg hi) rfl
  have e1 : (descOf size fs[i]).name = fs[i].1 := rfl
  have e2 : (descOf size fs[i]).long = fs[i].2.length := by unfold descOf; with_reducible rfl
  have e3 : (descOf size fs[i]).hash = hashL fs[i].2 := by unfold descOf; with_reducible rfl
  rw [e1, e2, e3, e]
theorem states_own {fs : List FileL} {size : Nat} (hg : goodSet fs size = true) : (fs.map (descOf size)).map (descState fs) = List.replicate fs.length 1 := by
  refine List.ext_getElem (by simp) (fun i h1 h2 => ?_)
  rw [List.getElem_map, List.getElem_map, List.getElem_replicate]
  exact state_own hg (by simpa using h1)
/-- a slice is a piece -/
theorem cut_piece (data : List UInt8) (size i : Nat) (h0 : 0 < size) (hi : i < slicesOfN data.length size) : i * size < data.length ∧ pieceL (padL data size) size i = pieceAt data size (i * size) := by
  have hlt : i * size < data.length := by
    unfold slicesOfN at hi
    have h := (Nat.le_div_iff_mul_le h0).1 (Nat.succ_le_of_lt hi)
    rw [Nat.succ_mul] at h
    omega
  refine ⟨hlt, ?_⟩
  have hpl := pad_len data size _ h0 rfl
  have hle : i * size + size ≤ (padL data size).length := by
    rw [hpl, ← Nat.succ_mul]
    exact Nat.mul_le_mul_right _ hi
  unfold pieceL pieceAt
  unfold padL at hle ⊢
  unfold fillL
  rw [List.length_append, List.length_replicate] at hle
  generalize slicesOfN data.length size * size - data.length = p at hle ⊢
  generalize i * size = a at hlt hle ⊢
  refine List.ext_getElem ?_ (fun m h1 h2 => ?_)
  · rw [List.length_take, List.length_take, List.length_drop, List.length_drop, List.length_append, List.length_append, List.length_replicate, List.length_replicate]
    omega
  · rw [List.getElem_take, List.getElem_take, List.getElem_drop, List.getElem_drop]
    by_cases c : a + m < data.length
    · rw [List.getElem_append_left c, List.getElem_append_left c]
    · rw [List.getElem_append_right (by omega), List.getElem_append_right (by omega), List.getElem_replicate, List.getElem_replicate]
theorem first_some {l : List FileL} {b h : Nat} {p : List UInt8} (hp : firstPiece l b h = some p) : ∃ f ∈ l, ∃ j, j < f.2.length ∧ p = pieceAt f.2 b j ∧ hashL p = h := by
  unfold firstPiece at hp
  obtain ⟨f, hf, hp⟩ := List.exists_of_findSome?_eq_some hp
  unfold pieceIn at hp
  obtain ⟨j, hj, hp⟩ := List.exists_of_findSome?_eq_some hp
  split at hp
  · rename_i hh
    cases hp
    exact ⟨f, hf, j, List.mem_range.1 (List.mem_of_mem_drop hj), rfl, hh⟩
  · cases hp
theorem first_isSome {l : List FileL} {b : Nat} {f : FileL} (hf : f ∈ l) {j : Nat} (hj : j < f.2.length) : (firstPiece l b (hashL (pieceAt f.2 b j))).isSome = true := by
  rw [Option.isSome_iff_ne_none]
  intro e
  unfold firstPiece at e
  rw [List.findSome?_eq_none_iff] at e
  have e := e f hf
  unfold pieceIn at e
  rw [List.findSome?_eq_none_iff] at e
  have e := e j (by rw [List.drop_zero]; exact List.mem_range.2 hj)
  rw [if_pos rfl] at e
  cases e
theorem lost_none (fs : List FileL) (size : Nat) (h0 : 0 < size) : lostN fs size ((slicesL size fs).map hashL) = 0 := by
  unfold lostN
  rw [List.filter_eq_nil_iff.2 (fun h hh => ?_)]
  · rfl
  · obtain ⟨t, ht, rfl⟩ := List.mem_map.1 hh
    unfold slicesL at ht
    obtain ⟨f, hf, ht⟩ := List.mem_flatMap.1 ht
    unfold cutL at ht
    obtain ⟨i, hi, rfl⟩ := List.mem_map.1 ht
    obtain ⟨h1, h2⟩ := cut_piece f.2 size i h0 (List.mem_range.1 hi)
    rw [h2]
    have := first_isSome (b := size) hf h1
    intro hn
    rw [Option.isNone_iff_eq_none] at hn
    rw [hn] at this
    cases this
theorem noclash_first {l : List FileL} {b : Nat} {S : List (List UInt8)} (h : NoClash l b S) {t : List UInt8} (ht : t ∈ S) (p : List UInt8) (hp : firstPiece l b (hashL t) = some p) : p = t := by
  obtain ⟨f, hf, j, hj, rfl, e⟩ := first_some hp
  exact (h.1 f hf j hj t ht e.symm).symm
theorem there_first {l : List FileL} {b : Nat} {S : List (List UInt8)} (h : NoClash l b S) {t : List UInt8} (ht : t ∈ S) : thereL l b t = (firstPiece l b (hashL t)).isSome := by
  rw [Bool.eq_iff_iff]
  constructor
  · intro hh
    unfold thereL at hh
    rw [List.any_eq_true] at hh
    obtain ⟨f, hf, hh⟩ := hh
    rw [List.any_eq_true] at hh
    obtain ⟨j, hj, e⟩ := hh
    rw [← beq_iff_eq.1 e]
    exact first_isSome hf (List.mem_range.1 hj)
  · intro hh
    obtain ⟨p, hp⟩ := Option.isSome_iff_exists.1 hh
    have e := noclash_first h ht p hp
    obtain ⟨f, hf, j, hj, e2, _⟩ := first_some hp
    unfold thereL
    rw [List.any_eq_true]
    refine ⟨f, hf, ?_⟩
    rw [List.any_eq_true]
    exact ⟨j, List.mem_range.2 hj, beq_iff_eq.2 (by rw [← e2, e])⟩
/-- how many slices are not there -/
def lostT (l : List FileL) (b : Nat) (S : List (List UInt8)) : Nat := (S.filter fun t => !thereL l b t).length
theorem lostT_snoc (l : List FileL) (b : Nat) (S : List (List UInt8)) (t : List UInt8) : lostT l b (S ++ [t]) = lostT l b S + if thereL l b t then 0 else 1 := by
  unfold lostT
  rw [List.filter_append, List.length_append]
  cases h : thereL l b t <;> simp [h]
theorem lostT_le (l : List FileL) (b : Nat) (S : List (List UInt8)) : lostT l b S ≤ S.length := List.length_filter_le _ _
theorem lostT_eq {l : List FileL} {b : Nat} {S : List (List UInt8)} (h : NoClash l b S) : lostT l b S = lostN l b (S.map hashL) := by
  unfold lostT lostN
  rw [List.filter_map, List.length_map]
  congr 1
  refine List.filter_congr (fun t ht => ?_)
  rw [there_first h ht]
  show (!(firstPiece l b (hashL t)).isSome) = (firstPiece l b (hashL t)).isNone
  cases firstPiece l b (hashL t) <;> rfl
/-- a whole set comes back -/
theorem repair_whole {size : Nat} {fs : List FileL} (hs : sliceSize (size : Int) = true) (h2 : 2 ≤ size) (h32 : size ≤ 32) (hev : size % 2 = 0) (hg : goodSet fs size = true) (hno : NoClash fs size (slicesL size fs)) : repairL fs (packetsL size fs 0) = .inl fs := by
  have e := find_packets (extra := 0) (by omega : 0 < size) h32 hg
  obtain ⟨hff, _, h6, _⟩ := set_file hg
  rw [repair_left (vs := packetsL size fs 0) (handed := fs) (extra := 0) hs h2 h32 hev (by omega) hg (by rw [e]; exact left_made _ _ _) (by rw [e]; exact m_made _ _ _) (fun i hi => by rw [e]; exact f_made _ _ _ hi) (fun _ => true) (fun j hj => by omega) (handed_packets (by omega) h32 (by omega) hg (by omega) (fun f hf => (hff f hf).2.2)) (fun t ht p hp => noclash_first hno ht p hp), lost_none fs size (by omega)]
  rfl
theorem look_whole {size : Nat} {fs : List FileL} (hs : sliceSize (size : Int) = true) (h2 : 2 ≤ size) (h32 : size ≤ 32) (hev : size % 2 = 0) (hg : goodSet fs size = true) : ∃ fl, fl.length = (slicesL size fs).length ∧ lookP fs (packetsL size fs 0) = .inl ⟨List.replicate fs.length 1, fl, 0, 0⟩ := by
  obtain ⟨hff, _, h6, _⟩ := set_file hg
  refine ⟨flagsOf fs size (dHashes (fs.map (descOf size))), ?_, ?_⟩
  · rw [hashes_made]
    simp [flagsOf]
  · rw [look_made hs h2 h32 hev (by omega) hg (handed_packets (by omega) h32 (by omega) hg (by omega) (fun f hf => (hff f hf).2.2)), states_own hg]
    conv => lhs; rw [hashes_made, lost_none fs size (by omega)]
    rw [hashes_made]
end Go.Proofs.YtonjphollmdicaaGreatDoor
