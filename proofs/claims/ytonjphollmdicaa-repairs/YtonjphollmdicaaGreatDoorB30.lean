import Derived.Test.YtonjphollmdicaaGreatDoorB29
import Derived.Deep.OwnRows
namespace Go.Proofs.YtonjphollmdicaaGreatDoor
open Go.ChangeShapes Go.WideShapes Go.ChangeAt Go.RowKit
def Res3 (w W : World) : Prop := (W.cell? ⟨w.heap.size, 0, none⟩ = some (.int .u8 0) ∧ W.cell? ⟨w.heap.size, 1, none⟩ = some (.int .u64 0) ∧ W.cell? ⟨w.heap.size, 2, none⟩ = some (.string ⟨#[]⟩)) ∧
 (W.frozen? ⟨w.heap.size, 0, none⟩ = false ∧ W.frozen? ⟨w.heap.size, 1, none⟩ = false ∧ W.frozen? ⟨w.heap.size, 2, none⟩ = false) ∧ Below w.heap.size w W
theorem Res3.start (w : World) : Res3 w (w.alloc (.cells #[.int .u8 0, .int .u64 0, .string ⟨#[]⟩] 148)) :=
 ⟨⟨by simp, by simp, by simp⟩, ⟨by simp, by simp, by simp⟩, (Below.refl _ _).alloc (Nat.le_refl _) _⟩
set_option maxRecDepth 100000 in
set_option maxHeartbeats 2000000 in
theorem rchief_walk (l : List FoundL) (a : Option Addr) (cap : Nat) (hn : l.length ≤ 1000000000) (hl : ∀ f ∈ l, f.body.length ≤ 1000000) (w : World) (hrd : Rd w a (foundsV l)) :
  Calls Tryz.prog 86 #[.slice a l.length cap] w fun e w' => e = .returned (match chiefL l with | some f => .tuple #[foundV f, .bool true] | none => .tuple #[foundV noFound, .bool false]) ∧ Below w.heap.size w w' := by
 have HRD := hid_of hrd
 have HL := hid_of hl
 clear hrd hl
 obtain ⟨R, hR⟩ : ∃ R, R = (match chiefL l with | some f => Value.tuple #[foundV f, .bool true] | none => Value.tuple #[foundV noFound, .bool false]) := ⟨_, rfl⟩
 rw [← hR]
 have HR := hid_of hR
 clear hR
 go_enter Tryz.func86, Tryz.ntmps86
 go_wp2_with fail
 go_loopw [4, 5, 6, 7] (fun i _ _ _ W => ∃ k : Nat, k ≤ l.length ∧ i = .int .i64 (k : Int) ∧ Hid (chiefL l = chiefL (l.drop k)) ∧ Res3 w W)
  (fun i _ _ _ _ => l.length - (intOf i).toNat)
 case atStart => exact ⟨0, by omega, rfl, hid_of rfl, Res3.start w⟩
 case round =>
  obtain ⟨k, hk, rfl, HC, hal⟩ := hrel
  obtain ⟨⟨r0, r1, r2⟩, ⟨z0, z1, z2⟩, hbw⟩ := hal
  have HBW := hid_of hbw
  have hal : Res3 w wr := ⟨⟨r0, r1, r2⟩, ⟨z0, z1, z2⟩, hbw⟩
  by_cases hlt : k < l.length
  ·obtain ⟨b, off, rfl, c0, c1, c2⟩ := founds_get HRD.out k hlt
   have hlb : b < w.heap.size := World.block_lt_of_cell? w _ c0
   have d0 : wr.cell? ⟨b, off + k * 3, none⟩ = some (.int .u8 (l[k].kind.toNat : Int)) := by rw [hbw.cell hlb]; exact c0
   have d1 : wr.cell? ⟨b, off + k * 3 + 1, none⟩ = some (.int .u64 (l[k].set : Int)) := by rw [hbw.cell hlb]; exact c1
   have d2 : wr.cell? ⟨b, off + k * 3 + 2, none⟩ = some (.string (str l[k].body)) := by rw [hbw.cell hlb]; exact c2
   have hbl := HL.out l[k] (List.getElem_mem hlt)
   have hdrop : chiefL (l.drop k) = if isChief l[k] then some l[k] else chiefL (l.drop (k + 1)) := by
    rw [List.drop_eq_getElem_cons hlt]
    unfold chiefL
    rw [List.find?_cons]
    cases isChief l[k] <;> rfl
   obtain ⟨f, hf⟩ : ∃ f, f = l[k] := ⟨_, rfl⟩
   rw [← hf] at d0 d1 d2 hbl hdrop
   have HD := hid_of hdrop
   have HA := hid_of hal
   clear hf hdrop hal hbw c0 c1 c2
   have hbs := str_size f.body
   obtain ⟨m, hm⟩ : ∃ m, m = f.body.length := ⟨_, rfl⟩
   rw [← hm] at hbs hbl
   by_cases q1 : f.kind = 77
   ·have e1 : ((f.kind.toNat : Int) != 77) = false := by rw [q1]; rfl
    by_cases q2 : 3 ≤ m
    ·have e2 : ¬ ((m : Int) < 3) := by omega
     have ex2 : (str f.body).extract 0 2 = str (f.body.take 2) := by rw [str_extract]; rfl
     have ix2 := index_str f.body 2 2 rfl (by omega)
     have hg2 : f.body[2]?.getD 0 = f.body.getD 2 0 := by simp
     rw [hg2] at ix2
     have hN := hid_of (rnumber_walk (f.body.take 2) (by rw [List.length_take]; omega) wr)
     have hH := hid_of (rHash_l f.body (by omega) wr)
     have h64 := numL_two (f.body.take 2) (by rw [List.length_take]; omega)
     have wn : IntKind.i64.wrap ((numL (f.body.take 2) : Nat) : Int) = ((numL (f.body.take 2) : Nat) : Int) := by rw [IntKind.wrap_i64]; omega
     have hSz := hid_of (rsize_walk ((numL (f.body.take 2) : Nat) : Int) wr)
     obtain ⟨x, hx⟩ : ∃ x, x = f.body.getD 2 0 := ⟨_, rfl⟩
     rw [← hx] at ix2
     have hxl := x.toNat_lt
     obtain ⟨n2, hn2⟩ : ∃ x, x = numL (f.body.take 2) := ⟨_, rfl⟩
     rw [← hn2] at hN wn hSz
     obtain ⟨t2, ht2⟩ : ∃ x, x = f.body.take 2 := ⟨_, rfl⟩
     rw [← ht2] at ex2 hN
     obtain ⟨hv, hhv⟩ : ∃ x, x = hashL f.body := ⟨_, rfl⟩
     rw [← hhv] at hH
     have w8 : IntKind.i64.wrap (8 * (x.toNat : Int)) = 8 * (x.toNat : Int) := by rw [IntKind.wrap_i64]; omega
     have w38 : IntKind.i64.wrap (3 + 8 * (x.toNat : Int)) = 3 + 8 * (x.toNat : Int) := by rw [IntKind.wrap_i64]; omega
     have wx : IntKind.i64.wrap (x.toNat : Int) = (x.toNat : Int) := by rw [IntKind.wrap_i64]; omega
     have hall : isChief f = (sliceSize (n2 : Int) && (hv == f.set) && decide (1 ≤ x.toNat) && decide (x.toNat ≤ 6) && decide (m = 3 + 8 * x.toNat)) := by
      unfold isChief
      rw [q1, ← hm, decide_eq_true q2, ← hx, hn2, hhv]
      rfl
     have HALL := hid_of hall
     have HX := hid_of hx
     clear hall hx hn2 ht2 hhv h64 hg2 hm
     go_wp2_with fail
     refine hN.out.mono ?_
     rintro e w' ⟨rfl, hw'⟩
     have hw' := hw'.symm
     subst hw'
     go_wp2_with fail
     refine hSz.out.mono ?_
     rintro e w' ⟨rfl, hw'⟩
     have hw' := hw'.symm
     subst hw'
     go_wp2_with fail
     refine hH.out.mono ?_
     rintro e w' ⟨rfl, hw'⟩
     have hw' := hw'.symm
     subst hw'
     by_cases b1 : sliceSize (n2 : Int) = true
     ·by_cases b2 : hv = f.set
      ·have g2 : ((hv : Int) == (f.set : Int)) = true := by simp [b2]
       by_cases b3 : 1 ≤ x.toNat
       ·have g3 : (1 : Int) ≤ (x.toNat : Int) := by omega
        by_cases b4 : x.toNat ≤ 6
        ·have g4 : (x.toNat : Int) ≤ 6 := by omega
         by_cases b5 : m = 3 + 8 * x.toNat
         ·have g5 : ((m : Int) == 3 + 8 * (x.toNat : Int)) = true := by simp; omega
          have hyes : isChief f = true := by rw [HALL.out]; simp [b1, b2, b3, b4, b5]
          have HY : Hid (chiefL l = some f) := hid_of (by rw [HC.out, HD.out, hyes]; rfl)
          clear HD HC hyes HALL b5 b2
          go_wp2_with fail
          refine bodyPost_ret (v := .tuple #[.agg #[.int .u8 77, .int .u64 (f.set : Int), .string (str f.body)], .bool true]) (by simp [results, Tryz.results86, go_sem, *]) rfl ?_
          exact ⟨by rw [HR.out, HY.out]; simp only [foundV, q1]; rfl, ((HBW.out.setCell (Nat.le_refl _) _).setCell (Nat.le_refl _) _).setCell (Nat.le_refl _) _⟩
         ·have g5 : ((m : Int) == 3 + 8 * (x.toNat : Int)) = false := by simp; omega
          have hno : isChief f = false := by rw [HALL.out]; simp [b5]
          have H1 : Hid (chiefL l = chiefL (l.drop (k + 1))) := hid_of (by rw [HC.out, HD.out, hno]; rfl)
          clear HD HC hno HALL HR
          go_wp2_with fail
          exact ⟨⟨k + 1, by omega, by go_num, H1, HA.out⟩, by simp [intOf]; omega⟩
        ·have g4 : ¬ ((x.toNat : Int) ≤ 6) := by omega
         have hno : isChief f = false := by rw [HALL.out]; simp [b4]
         have H1 : Hid (chiefL l = chiefL (l.drop (k + 1))) := hid_of (by rw [HC.out, HD.out, hno]; rfl)
         clear HD HC hno HALL HR
         go_wp2_with fail
         exact ⟨⟨k + 1, by omega, by go_num, H1, HA.out⟩, by simp [intOf]; omega⟩
       ·have g3 : ¬ ((1 : Int) ≤ (x.toNat : Int)) := by omega
        have hno : isChief f = false := by rw [HALL.out]; simp [b3]
        have H1 : Hid (chiefL l = chiefL (l.drop (k + 1))) := hid_of (by rw [HC.out, HD.out, hno]; rfl)
        clear HD HC hno HALL HR
        go_wp2_with fail
        exact ⟨⟨k + 1, by omega, by go_num, H1, HA.out⟩, by simp [intOf]; omega⟩
      ·have g2 : ((hv : Int) == (f.set : Int)) = false := by simp; omega
       have hno : isChief f = false := by rw [HALL.out]; simp [b2]
       have H1 : Hid (chiefL l = chiefL (l.drop (k + 1))) := hid_of (by rw [HC.out, HD.out, hno]; rfl)
       clear HD HC hno HALL HR
       go_wp2_with fail
       exact ⟨⟨k + 1, by omega, by go_num, H1, HA.out⟩, by simp [intOf]; omega⟩
     ·have b1' : sliceSize (n2 : Int) = false := by simpa using b1
      have hno : isChief f = false := by rw [HALL.out]; simp [b1']
      have H1 : Hid (chiefL l = chiefL (l.drop (k + 1))) := hid_of (by rw [HC.out, HD.out, hno]; rfl)
      clear HD HC hno HALL HR
      go_wp2_with fail
      exact ⟨⟨k + 1, by omega, by go_num, H1, HA.out⟩, by simp [intOf]; omega⟩
    ·have e2 : (m : Int) < 3 := by omega
     have hno : isChief f = false := by
      unfold isChief
      rw [← hm, decide_eq_false q2]
      simp
     have H1 : Hid (chiefL l = chiefL (l.drop (k + 1))) := hid_of (by rw [HC.out, HD.out, hno]; rfl)
     clear HD HC hno
     go_wp2_with fail
     exact ⟨⟨k + 1, by omega, by go_num, H1, HA.out⟩, by simp [intOf]; omega⟩
   ·have e1 : ((f.kind.toNat : Int) != 77) = true := by
     simp only [bne_iff_ne, ne_eq]
     intro e
     exact q1 (UInt8.toNat_inj.1 (by simpa using (by exact_mod_cast e : f.kind.toNat = 77)))
    have hno : isChief f = false := by
     unfold isChief
     rw [beq_eq_false_iff_ne.2 q1]
     rfl
    have H1 : Hid (chiefL l = chiefL (l.drop (k + 1))) := hid_of (by rw [HC.out, HD.out, hno]; rfl)
    clear HD HC hno q1
    go_wp2_with fail
    exact ⟨⟨k + 1, by omega, by go_num, H1, HA.out⟩, by simp [intOf]; omega⟩
  ·obtain rfl : l.length = k := by omega
   have hnone : chiefL l = none := by rw [HC.out, List.drop_length]; rfl
   have HNO := hid_of hnone
   clear hal hnone hbw
   go_wp2_with fail
   refine bodyPost_ret (v := .tuple #[.agg #[.int .u8 0, .int .u64 0, .string ⟨#[]⟩], .bool false]) (by simp [results, Tryz.results86, go_sem, *]) rfl ?_
   exact ⟨by rw [HR.out, HNO.out]; rfl, ((HBW.out.setCell (Nat.le_refl _) _).setCell (Nat.le_refl _) _).setCell (Nat.le_refl _) _⟩
end Go.Proofs.YtonjphollmdicaaGreatDoor
namespace Go.Proofs.YtonjphollmdicaaGreatDoor
open Go.ChangeShapes Go.WideShapes Go.ChangeAt Go.RowKit
theorem slice_in (len size k i : Nat) (h0 : 0 < size) (hi : i = k * size) : (i < len → k < slicesOfN len size) ∧ (¬ i < len → k ≤ slicesOfN len size → k = slicesOfN len size) := by
 have h1 := slices_ge len size h0
 have h2 := slices_lt len size
 refine ⟨fun h => ?_, fun h hk => ?_⟩
 ·rcases Nat.lt_or_ge k (slicesOfN len size) with h' | h'
  ·exact h'
  ·have := Nat.mul_le_mul_right size h'
   omega
 ·rcases Nat.lt_or_ge k (slicesOfN len size) with h' | h'
  ·have := Nat.mul_le_mul_right size (show k + 1 ≤ slicesOfN len size from h')
   rw [Nat.succ_mul] at this
   omega
  ·omega
theorem cut_at (data : List UInt8) (size k i : Nat) (h0 : 0 < size) (hi : i = k * size) (hlt : i < data.length) :
  (cutL data size).take (k + 1) = (cutL data size).take k ++ [if i + size ≤ data.length then (data.drop i).take size else data.drop i ++ List.replicate (i + size - data.length) 0] := by
 have hk := (slice_in data.length size k i h0 hi).1 hlt
 have hl : k < (cutL data size).length := by rw [(cutL_len data size h0).1]; exact hk
 rw [take_snoc _ k hl]
 congr 2
 have e : (cutL data size)[k] = pieceL (padL data size) size k := by simp [cutL]
 rw [e]
 unfold pieceL padL
 rw [← hi, List.drop_append_of_le_length (by omega)]
 have hm : (k + 1) * size ≤ slicesOfN data.length size * size := Nat.mul_le_mul_right _ hk
 rw [Nat.succ_mul, ← hi] at hm
 split
 ·rw [List.take_append_of_le_length (by rw [List.length_drop]; omega)]
 ·rw [List.take_append, List.take_of_length_le (by rw [List.length_drop]; omega), List.length_drop, List.take_replicate]
  congr 2
  omega
theorem conv_made (m : Nat) (hm : m ≤ 1000) (W : World) : (convert 67 9 (.slice (some ⟨W.heap.size, 0, none⟩) m m)).run Tryz.prog (W.alloc (.cells (madeCells #[.int .u8 0] m) 5)) = .ok (.string (str (List.replicate m 0))) (W.alloc (.cells (madeCells #[.int .u8 0] m) 5)) ∧
  (convert 67 9 (.slice (some ⟨W.heap.size, 0, none⟩) m m)).run Tryz.prog (W.alloc (.cells (madeCells #[.int .u8 0] m) 5)).drew = .ok (.string (str (List.replicate m 0))) (W.alloc (.cells (madeCells #[.int .u8 0] m) 5)).drew := by
 have h : (W.alloc (.cells (madeCells #[.int .u8 0] m) 5)).ownsRow W.heap.size 5 1 (.slice (some ⟨W.heap.size, 0, none⟩) m m) m (bytesV (List.replicate m 0)) := by
  refine ⟨by simp [bytesV], .inr ⟨W.heap.size, m, _, rfl, Nat.le_refl _, heap_alloc_new W _, Nat.le_refl _, by unfold maxLen; omega, by simp [size_madeCells], ?_⟩⟩
  rw [toList_madeCells_one, List.take_of_length_le (by simp)]
  simp [bytesV]
 exact ⟨owned_string h, owned_string (w := (W.alloc (.cells (madeCells #[.int .u8 0] m) 5)).drew) h⟩
set_option maxRecDepth 100000 in
theorem rSlices_walk (data : List UInt8) (size : Nat) (h0 : 0 < size) (h1 : size ≤ 32) (hd : data.length ≤ 400) (w : World) :
  Calls Tryz.prog 104 #[.string (str data), .int .i64 (size : Int)] w fun e w' => ∃ v', e = .returned v' ∧ w'.ownsRow w.heap.size 9 1 v' (slicesOfN data.length size) (strV (cutL data size)) ∧ Below w.heap.size w w' := by
 obtain ⟨i0, hi, hz0, hz1, hz2⟩ := info_parts Tryz.infoS
 have hsd : (str data).size = data.length := str_size data
 have hnl := slicesOfN_le data.length size h0
 obtain ⟨n, hn⟩ : ∃ n, n = slicesOfN data.length size := ⟨_, rfl⟩
 have HSI := hid_of (fun k i hi => slice_in data.length size k i h0 hi)
 have HCA := hid_of (fun k i hi => cut_at data size k i h0 hi)
 rw [← hn] at HSI hnl ⊢
 have HN := hid_of hn
 clear hn
 go_enter Tryz.func104, Tryz.ntmps104
 go_wp2_with fail
 go_loopw [5, 6, 7] (fun l i _ wr => ∃ k i' : Nat, k ≤ n ∧ i' ≤ 432 ∧ Hid (i' = k * size) ∧ i = .int .i64 (i' : Int) ∧ wr.ownsRow w.heap.size 9 1 l k (strV ((cutL data size).take k)) ∧ Below w.heap.size w wr)
  (fun _ i _ _ => data.length - (intOf i).toNat)
 case atStart => exact ⟨0, 0, by omega, by omega, hid_of (by simp), rfl, World.ownsRow_nil _ _ _ _, Below.refl _ _⟩
 case round =>
  obtain ⟨k, i', hk, hi', hik, rfl, hownr, hbl⟩ := hrel
  have hsz := hbl.size
  by_cases hlt : i' < data.length
  ·have hkn := (HSI.out k i' hik.out).1 hlt
   have hcut := HCA.out k i' hik.out hlt
   have hik' : i' + size = (k + 1) * size := by rw [hik.out, Nat.succ_mul]
   have HIK := hid_of hik'
   have HB := hid_of hbl
   have HO := hid_of hownr
   clear hik' hbl hownr
   by_cases hin : i' + size ≤ data.length
   ·rw [if_pos hin] at hcut
    have eex : (str data).extract i' (i' + size) = str ((data.drop i').take size) := by rw [str_extract, Nat.add_sub_cancel_left]
    obtain ⟨p, hp⟩ : ∃ p, p = (data.drop i').take size := ⟨_, rfl⟩
    rw [← hp] at hcut eex
    have HC := hid_of hcut
    clear hcut hp
    go_wp2_with (at_builtin; refine wpList_append_own _ rfl (.tmp 39) (.tmp 41) 23 rfl w.heap.size 9 i0 (.string ByteArray.empty) 1 16 Tryz.underlying23 hi hz0 hz1 hz2 rfl (by decide) _ _ _ rfl (HO.out.alloc _) ⟨wr.heap.size, 0, none⟩ 1 1 [.string (str p)] rfl rfl (cell_one_new _ _ _) ?d2 ?d3 ?d4 ?d5 ?_)
    case d2 => intro u hu; simp at hu; subst hu; rfl
    case d3 => unfold maxLen; omega
    case d4 => omega
    case d5 => simp; omega
    intro v2 w2 hown2 hg2 _
    have hbl2 := below_step HB.out hsz HO.out hg2
    go_wp2_with fail
    refine ⟨⟨k + 1, i' + size, by omega, by omega, HIK, by go_num, ?_, hbl2⟩, by simp [intOf]; omega⟩
    rw [HC.out, strV_append]
    exact hown2
   ·rw [if_neg hin] at hcut
    have eex : (str data).extract i' data.length = str (data.drop i') := by rw [str_extract, List.take_of_length_le (by rw [List.length_drop]; omega)]
    have e2 : str (data.drop i') ++ str (List.replicate (i' + size - data.length) 0) = str (data.drop i' ++ List.replicate (i' + size - data.length) 0) := strs _ _
    obtain ⟨m, hm⟩ : ∃ m, m = i' + size - data.length := ⟨_, rfl⟩
    rw [← hm] at hcut e2
    have em : (i' : Int) + (size : Int) - (data.length : Int) = (m : Int) := by omega
    have hmk := fun W => run_make_row' (P := Tryz.prog) 67 5 (.int .u8 0) 1 Tryz.underlying67 Tryz.info8 rfl .i64 .i64 m (by omega) (by omega) W
    have hcv := fun W => (conv_made m (by omega) W).1
    have hcv' := fun W => (conv_made m (by omega) W).2
    have hle : i' ≤ data.length := by omega
    have z1 : (str (data.drop i')).size ≤ 400 := by rw [str_size, List.length_drop]; omega
    have z2 : (str (List.replicate m 0)).size ≤ 1000 := by rw [str_size, List.length_replicate]; omega
    obtain ⟨p, hp⟩ : ∃ p, p = data.drop i' ++ List.replicate m 0 := ⟨_, rfl⟩
    obtain ⟨d0, hd0⟩ : ∃ p, p = data.drop i' := ⟨_, rfl⟩
    rw [← hp] at hcut e2
    rw [← hd0] at z1 e2 eex
    have HC := hid_of hcut
    clear hcut hp hd0 hm
    go_wp2_with fail
    go_region
    have HO1 : Hid ((wr.alloc (.cells (madeCells #[.int .u8 0] m) 5)).drew.ownsRow w.heap.size 9 1 _ k (strV ((cutL data size).take k))) := hid_of (HO.out.alloc (.cells (madeCells #[.int .u8 0] m) 5))
    have HB1 : Hid (Below w.heap.size w (wr.alloc (.cells (madeCells #[.int .u8 0] m) 5)).drew) := hid_of (HB.out.alloc hsz _).drew
    have hsz1 : w.heap.size ≤ (wr.alloc (.cells (madeCells #[.int .u8 0] m) 5)).drew.heap.size := HB1.out.size
    obtain ⟨W1, hW1⟩ : ∃ W1, W1 = (wr.alloc (.cells (madeCells #[.int .u8 0] m) 5)).drew := ⟨_, rfl⟩
    rw [← hW1] at HO1 HB1 hsz1 ⊢
    clear hW1 hcv hcv' hmk
    go_wp2_with (at_builtin; refine wpList_append_own _ rfl (.tmp 39) (.tmp 41) 23 rfl w.heap.size 9 i0 (.string ByteArray.empty) 1 16 Tryz.underlying23 hi hz0 hz1 hz2 rfl (by decide) _ _ _ rfl (HO1.out.alloc _) ⟨W1.heap.size, 0, none⟩ 1 1 [.string (str p)] rfl rfl (cell_one_new _ _ _) ?d2 ?d3 ?d4 ?d5 ?_)
    case d2 => intro u hu; simp at hu; subst hu; rfl
    case d3 => unfold maxLen; omega
    case d4 => omega
    case d5 => simp; omega
    intro v2 w2 hown2 hg2 _
    have hbl2 := below_step HB1.out hsz1 HO1.out hg2
    go_wp2_with fail
    refine ⟨⟨k + 1, i' + size, by omega, by omega, HIK, by go_num, ?_, hbl2⟩, by simp [intOf]; omega⟩
    rw [HC.out, strV_append]
    exact hown2
  ·have hkn := (HSI.out k i' hik.out).2 hlt hk
   subst hkn
   have hall : (cutL data size).take k = cutL data size := List.take_of_length_le (by rw [(cutL_len data size h0).1, ← HN.out]; exact Nat.le_refl _)
   rw [hall] at hownr
   go_wp2_with fail
   go_ret
   exact ⟨_, rfl, hownr, hbl⟩
theorem rall_walk (fs : List FileL) (size : Nat) (a : Option Addr) (cap : Nat) (h0 : 0 < size) (h1 : size ≤ 32) (hn : fs.length ≤ 6) (hf : ∀ f ∈ fs, f.2.length ≤ 400) (w : World) (hrd : Rd w a (filesV fs)) :
  Calls Tryz.prog 67 #[.slice a fs.length cap, .int .i64 (size : Int)] w fun e w' => ∃ v', e = .returned v' ∧ w'.ownsRow w.heap.size 9 1 v' (countL fs size) (strV (slicesL size fs)) ∧ Below w.heap.size w w' :=
 rall_of (fun data size h0 h1 hd w => rSlices_walk data size h0 h1 hd w) fs size a cap h0 h1 hn hf w hrd
end Go.Proofs.YtonjphollmdicaaGreatDoor
namespace Go.Proofs.YtonjphollmdicaaGreatDoor
open Go.ChangeShapes Go.WideShapes Go.ChangeAt Go.RowKit
def noForm : Value := .tuple #[.agg #[.string ⟨#[]⟩, .int .i64 0, .int .u64 0, .slice none 0 0], .bool false]
set_option maxRecDepth 100000 in
theorem form_no1 (s : List UInt8) (m : Nat) (b : Int) (hm : m < 2) (hss : (str s).size = m) (w : World) :
    Calls Tryz.prog 115 #[.string (str s), .int .i64 b] w fun e w' => e = .returned noForm ∧ Below w.heap.size w w' := by
  have a1 : (m : Int) < 2 := by omega
  go_enter Tryz.func115, Tryz.ntmps115
  go_wp2_with fail
  refine bodyPost_ret (v := .tuple #[.agg #[.string ⟨#[]⟩, .int .i64 0, .int .u64 0, .slice none 0 0], .bool false]) (by simp [results, Tryz.results115, go_sem]) rfl ?_
  exact ⟨rfl, (Below.refl _ _).alloc (Nat.le_refl _) _⟩
set_option maxRecDepth 100000 in
theorem form_no2 (s : List UInt8) (m n : Nat) (b : Int) (hm1 : m ≤ 1000000) (hm : 2 ≤ m) (hss : (str s).size = m) (hn : n < 256) (ix1 : ∀ W : World, (Instr.index 9 (.string (str s)) (.int .i64 1)).run Tryz.prog W = .ok (.int .u8 (n : Int)) W) (h : n < 1 ∨ 20 < n ∨ m < 12 + n) (w : World) :
    Calls Tryz.prog 115 #[.string (str s), .int .i64 b] w fun e w' => e = .returned noForm ∧ Below w.heap.size w w' := by
  have a1 : ¬ ((m : Int) < 2) := by omega
  have wn : IntKind.i64.wrap (n : Int) = (n : Int) := by rw [IntKind.wrap_i64]; omega
  have w12 : IntKind.i64.wrap (12 + (n : Int)) = 12 + (n : Int) := by rw [IntKind.wrap_i64]; omega
  by_cases h1 : n < 1
  · have a2 : (n : Int) < 1 := by omega
    clear h
    go_enter Tryz.func115, Tryz.ntmps115
    go_wp2_with fail
    refine bodyPost_ret (v := .tuple #[.agg #[.string ⟨#[]⟩, .int .i64 0, .int .u64 0, .slice none 0 0], .bool false]) (by simp [results, Tryz.results115, go_sem]) rfl ?_
    exact ⟨rfl, (Below.refl _ _).alloc (Nat.le_refl _) _⟩
  · have a2 : ¬ ((n : Int) < 1) := by omega
    by_cases h2 : 20 < n
    · have a3 : (20 : Int) < (n : Int) := by omega
      clear h
      go_enter Tryz.func115, Tryz.ntmps115
      go_wp2_with fail
      refine bodyPost_ret (v := .tuple #[.agg #[.string ⟨#[]⟩, .int .i64 0, .int .u64 0, .slice none 0 0], .bool false]) (by simp [results, Tryz.results115, go_sem]) rfl ?_
      exact ⟨rfl, (Below.refl _ _).alloc (Nat.le_refl _) _⟩
    · have a3 : ¬ ((20 : Int) < (n : Int)) := by omega
      have a4 : (m : Int) < 12 + (n : Int) := by omega
      clear h
      go_enter Tryz.func115, Tryz.ntmps115
      go_wp2_with fail
      refine bodyPost_ret (v := .tuple #[.agg #[.string ⟨#[]⟩, .int .i64 0, .int .u64 0, .slice none 0 0], .bool false]) (by simp [results, Tryz.results115, go_sem]) rfl ?_
      exact ⟨rfl, (Below.refl _ _).alloc (Nat.le_refl _) _⟩
structure FormIn (s : List UInt8) (m n b L H : Nat) (t1 t2 t3 : List UInt8) : Prop where
  hm1 : m ≤ 1000000
  hss : (str s).size = m
  ix1 : ∀ W : World, (Instr.index 9 (.string (str s)) (.int .i64 1)).run Tryz.prog W = .ok (.int .u8 (n : Int)) W
  hn1 : 1 ≤ n
  hn2 : n ≤ 20
  hmn : 12 + n ≤ m
  hb0 : 0 < b
  hb1 : b ≤ 32
  hL : L < 65536
  ex1 : (str s).extract 2 (2 + n) = str t1
  ex2 : (str s).extract (2 + n) (4 + n) = str t2
  ex3 : (str s).extract (4 + n) (12 + n) = str t3
  num2 : ∀ W : World, Calls Tryz.prog 87 #[.string (str t2)] W fun e w' => e = .returned (.int .u64 (L : Int)) ∧ w' = W
  num3 : ∀ W : World, Calls Tryz.prog 87 #[.string (str t3)] W fun e w' => e = .returned (.int .u64 (H : Int)) ∧ w' = W
set_option maxRecDepth 100000 in
set_option maxHeartbeats 2000000 in
theorem form_no3 (s : List UInt8) (m n b L H : Nat) (t1 t2 t3 : List UInt8) (h : FormIn s m n b L H t1 t2 t3) (hc : 400 < L ∨ m ≠ 12 + n + 8 * slicesOfN L b) (w : World) :
    Calls Tryz.prog 115 #[.string (str s), .int .i64 (b : Int)] w fun e w' => e = .returned noForm ∧ Below w.heap.size w w' := by
  obtain ⟨hm1, hss, ix1, hn1, hn2, hmn, hb0, hb1, hL, ex1, ex2, ex3, num2, num3⟩ := h
  have N2 := hid_of num2
  have N3 := hid_of num3
  clear num2 num3
  have a1 : ¬ ((m : Int) < 2) := by omega
  have a2 : ¬ ((n : Int) < 1) := by omega
  have a3 : ¬ ((20 : Int) < (n : Int)) := by omega
  have a4 : ¬ ((m : Int) < 12 + (n : Int)) := by omega
  have wn : IntKind.i64.wrap (n : Int) = (n : Int) := by rw [IntKind.wrap_i64]; omega
  have wL : IntKind.i64.wrap (L : Int) = (L : Int) := by rw [IntKind.wrap_i64]; omega
  have w2 : IntKind.i64.wrap (2 + (n : Int)) = 2 + (n : Int) := by rw [IntKind.wrap_i64]; omega
  have w4 : IntKind.i64.wrap (4 + (n : Int)) = 4 + (n : Int) := by rw [IntKind.wrap_i64]; omega
  have w12 : IntKind.i64.wrap (12 + (n : Int)) = 12 + (n : Int) := by rw [IntKind.wrap_i64]; omega
  have g1 : (0 : Int) ≤ 2 + (n : Int) := by omega
  have g2 : (2 : Int) ≤ 2 + (n : Int) := by omega
  have g3 : 2 + (n : Int) ≤ (m : Int) := by omega
  have g4 : 2 + (n : Int) ≤ 4 + (n : Int) := by omega
  have g5 : 4 + (n : Int) ≤ (m : Int) := by omega
  have g6 : 4 + (n : Int) ≤ 12 + (n : Int) := by omega
  have g7 : 12 + (n : Int) ≤ (m : Int) := by omega
  have g8 : (0 : Int) ≤ 4 + (n : Int) := by omega
  have n2 : (2 + (n : Int)).toNat = 2 + n := by omega
  have n4 : (4 + (n : Int)).toNat = 4 + n := by omega
  have n12 : (12 + (n : Int)).toNat = 12 + n := by omega
  have hB : Below w.heap.size w (w.alloc (.cells #[.string ⟨#[]⟩, .int .i64 0, .int .u64 0, .slice none 0 0] 101)) := (Below.refl _ _).alloc (Nat.le_refl _) _
  obtain ⟨k, hk⟩ : ∃ k, k = slicesOfN L b := ⟨_, rfl⟩
  have hkl := slicesOfN_le L b hb0
  have ek : ((L : Int) + (b : Int) - 1) / (b : Int) = (k : Int) := by
    rw [hk]
    unfold slicesOfN
    rw [Int.natCast_ediv]
    congr 1
    omega
  rw [← hk] at hkl hc
  have HK := hid_of hk
  clear hk
  have wLb : IntKind.i64.wrap ((L : Int) + (b : Int)) = (L : Int) + (b : Int) := by rw [IntKind.wrap_i64]; omega
  have wLb1 : IntKind.i64.wrap ((L : Int) + (b : Int) - 1) = (L : Int) + (b : Int) - 1 := by rw [IntKind.wrap_i64]; omega
  have wk : IntKind.i64.wrap (k : Int) = (k : Int) := by rw [IntKind.wrap_i64]; omega
  have w8 : IntKind.i64.wrap (8 * (k : Int)) = 8 * (k : Int) := by rw [IntKind.wrap_i64]; omega
  have w128 : IntKind.i64.wrap (12 + (n : Int) + 8 * (k : Int)) = 12 + (n : Int) + 8 * (k : Int) := by rw [IntKind.wrap_i64]; omega
  have hbz : ¬ (b : Int) = 0 := by omega
  by_cases h4 : 400 < L
  · have a5 : (400 : Int) < (L : Int) := by omega
    clear hc
    go_enter Tryz.func115, Tryz.ntmps115
    go_wp2_with fail
    go_region_held3 (fun W => Below w.heap.size w W) (first | assumption | exact hB.drew | exact (hB.alloc hB.size _).drew)
      (first | (go_at_call 87; first | with_reducible refine (N2.out _).mono ?_ | with_reducible refine (N3.out _).mono ?_
                rintro e w' ⟨rfl, rfl⟩))
    all_goals
      clear g1 g2 g3 g4 g5 g6 g7 g8 n2 n4 n12 w2 w4 ix1 ex1 ex2 ex3 N2 N3 a1 a2 a3 a4 wn wL hmn hn1 hn2 hm1
      go_wp2_with fail
      refine bodyPost_ret (v := .tuple #[.agg #[.string ⟨#[]⟩, .int .i64 0, .int .u64 0, .slice none 0 0], .bool false]) (by simp [results, Tryz.results115, go_sem]) rfl ?_
      exact ⟨rfl, (hB.alloc hB.size _).drew⟩
  · have a5 : ¬ ((400 : Int) < (L : Int)) := by omega
    have a6 : ((m : Int) != 12 + (n : Int) + 8 * (k : Int)) = true := by simp; omega
    clear hc
    go_enter Tryz.func115, Tryz.ntmps115
    go_wp2_with fail
    go_region_held3 (fun W => Below w.heap.size w W) (first | assumption | exact hB.drew | exact (hB.alloc hB.size _).drew)
      (first | (go_at_call 87; first | with_reducible refine (N2.out _).mono ?_ | with_reducible refine (N3.out _).mono ?_
                rintro e w' ⟨rfl, rfl⟩))
    all_goals
      clear g1 g2 g3 g4 g5 g6 g7 g8 n2 n4 n12 w2 w4 ix1 ex1 ex2 ex3 N2 N3 a1 a2 a3 a4 wn wL hmn hn1 hn2 hm1
      go_wp2_with fail
      refine bodyPost_ret (v := .tuple #[.agg #[.string ⟨#[]⟩, .int .i64 0, .int .u64 0, .slice none 0 0], .bool false]) (by simp [results, Tryz.results115, go_sem]) rfl ?_
      exact ⟨rfl, (hB.alloc hB.size _).drew⟩
end Go.Proofs.YtonjphollmdicaaGreatDoor
namespace Go.Proofs.YtonjphollmdicaaGreatDoor
open Go.ChangeShapes Go.WideShapes Go.ChangeAt Go.RowKit
theorem keep2 {w0 W W' : World} {B : Nat} {a b : Addr} {x y : Value} (h : W.cell? a = some x ∧ W.cell? b = some y ∧ Below B w0 W) (hB : B ≤ w0.heap.size) (hb : Below W.heap.size W W') : W'.cell? a = some x ∧ W'.cell? b = some y ∧ Below B w0 W' := by
  obtain ⟨h1, h2, h3⟩ := h
  have hs := h3.size
  exact ⟨by rw [hb.cell (World.block_lt_of_cell? W _ h1)]; exact h1, by rw [hb.cell (World.block_lt_of_cell? W _ h2)]; exact h2, h3.trans (hb.mono (by omega))⟩
set_option maxRecDepth 100000 in
set_option maxHeartbeats 4000000 in
theorem rfileBody_walk (i : Nat) (f : FileL) (size : Nat) (hi : i ≤ 100) (hf1 : f.1.length ≤ 100) (hf2 : f.2.length ≤ 400) (h0 : 0 < size) (h1 : size ≤ 32) (w : World) :
    Calls Tryz.prog 69 #[.int .i64 (i : Int), .agg #[.string (str f.1), .string (str f.2)], .int .i64 (size : Int)] w fun e w' => e = .returned (.string (str (fileBodyL i f.1 f.2 (cutL f.2 size)))) ∧ Below w.heap.size w w' := by
  obtain ⟨name, data⟩ := f
  simp only at hf1 hf2 ⊢
  have n1 := str_size name
  have n2 := str_size data
  have c1 : (w.alloc (.cells #[.string (str name), .string (str data)] 62)).cell? ⟨w.heap.size, 0, none⟩ = some (.string (str name)) := by simp
  have c2 : (w.alloc (.cells #[.string (str name), .string (str data)] 62)).cell? ⟨w.heap.size, 1, none⟩ = some (.string (str data)) := by simp
  have hb0 : Below w.heap.size w (w.alloc (.cells #[.string (str name), .string (str data)] 62)) := (Below.refl _ _).alloc (Nat.le_refl _) _
  have H1 : Hid (∀ W : World, Calls Tryz.prog 68 #[.int .u64 (i : Int), .int .i64 1] W fun e w' => e = .returned (.string (str (numBytes i 1))) ∧ Below W.heap.size W w') := hid_of (fun W => rBytes_walk 1 i W (by omega) (by unfold P64; omega))
  have H2 : Hid (∀ W : World, Calls Tryz.prog 68 #[.int .u64 (name.length : Int), .int .i64 1] W fun e w' => e = .returned (.string (str (numBytes name.length 1))) ∧ Below W.heap.size W w') := hid_of (fun W => rBytes_walk 1 name.length W (by omega) (by unfold P64; omega))
  have H3 : Hid (∀ W : World, Calls Tryz.prog 68 #[.int .u64 (data.length : Int), .int .i64 2] W fun e w' => e = .returned (.string (str (numBytes data.length 2))) ∧ Below W.heap.size W w') := hid_of (fun W => rBytes_walk 2 data.length W (by omega) (by unfold P64; omega))
  have H4 : Hid (∀ W : World, Calls Tryz.prog 68 #[.int .u64 ((hashL data : Nat) : Int), .int .i64 8] W fun e w' => e = .returned (.string (str (numBytes (hashL data) 8))) ∧ Below W.heap.size W w') := hid_of (fun W => rBytes_walk 8 (hashL data) W (by omega) (hashL_lt data))
  have H5 := hid_of (fun W => rHash_l data (by omega) W)
  have wi : IntKind.u64.wrap (i : Int) = (i : Int) := by rw [IntKind.wrap_u64]; omega
  have wn : IntKind.u64.wrap (name.length : Int) = (name.length : Int) := by rw [IntKind.wrap_u64]; omega
  have wd : IntKind.u64.wrap (data.length : Int) = (data.length : Int) := by rw [IntKind.wrap_u64]; omega
  have s1 : (str (numBytes i 1)).size = 1 := by rw [str_size, numBytes_len]
  have s2 : (str (numBytes name.length 1)).size = 1 := by rw [str_size, numBytes_len]
  have s3 : (str (numBytes data.length 2)).size = 2 := by rw [str_size, numBytes_len]
  have s4 : (str (numBytes (hashL data) 8)).size = 8 := by rw [str_size, numBytes_len]
  obtain ⟨p1, hp1⟩ : ∃ p, p = numBytes i 1 ++ numBytes name.length 1 := ⟨_, rfl⟩
  have e1 : str (numBytes i 1) ++ str (numBytes name.length 1) = str p1 := by rw [hp1]; exact strs _ _
  have z1 : (str p1).size = 2 := by rw [str_size, hp1]; simp [numBytes_len]
  obtain ⟨p2, hp2⟩ : ∃ p, p = p1 ++ name := ⟨_, rfl⟩
  have e2 : str p1 ++ str name = str p2 := by rw [hp2]; exact strs _ _
  have z2 : (str p2).size = 2 + name.length := by rw [str_size, hp2, hp1]; simp [numBytes_len]; omega
  obtain ⟨p3, hp3⟩ : ∃ p, p = p2 ++ numBytes data.length 2 := ⟨_, rfl⟩
  have e3 : str p2 ++ str (numBytes data.length 2) = str p3 := by rw [hp3]; exact strs _ _
  have z3 : (str p3).size = 4 + name.length := by rw [str_size, hp3, hp2, hp1]; simp [numBytes_len]; omega
  obtain ⟨p4, hp4⟩ : ∃ p, p = p3 ++ numBytes (hashL data) 8 := ⟨_, rfl⟩
  have e4 : str p3 ++ str (numBytes (hashL data) 8) = str p4 := by rw [hp4]; exact strs _ _
  have hhead : p4 = fileHeadL i name data := by rw [hp4, hp3, hp2, hp1]; rfl
  have HH := hid_of hhead
  obtain ⟨hv, hhv⟩ : ∃ x, x = hashL data := ⟨_, rfl⟩
  rw [← hhv] at H4 H5 s4 e4
  clear hhead hp1 hp2 hp3 hp4 hhv
  have q2 : ¬ 9223372036854775807 < 2 + name.length := by omega
  have q3 : ¬ 9223372036854775807 < 2 + name.length + 2 := by omega
  have q4 : ¬ 9223372036854775807 < 4 + name.length + 8 := by omega
  have r2 : ¬ 9223372036854775805 < name.length := by omega
  have r3 : ¬ 9223372036854775803 < name.length := by omega
  have r4 : ¬ 9223372036854775795 < name.length := by omega
  have q3' : ¬ 9223372036854775805 < 2 + name.length := by omega
  have q4' : ¬ 9223372036854775799 < 4 + name.length := by omega
  go_enter Tryz.func69, Tryz.ntmps69
  go_wp2_with fail
  go_region_held (fun W => W.cell? ⟨w.heap.size, 0, none⟩ = some (.string (str name)) ∧ W.cell? ⟨w.heap.size, 1, none⟩ = some (.string (str data)) ∧ Below w.heap.size w W)
    (first | assumption | (refine keep2 ?_ (Nat.le_refl _) hb; assumption) | exact ⟨c1, c2, hb0⟩ | exact ⟨c1, c2, hb0.drew⟩)
    (first | (go_at_call 68; first | with_reducible refine (H1.out _).mono ?_ | with_reducible refine (H2.out _).mono ?_ | with_reducible refine (H3.out _).mono ?_ | with_reducible refine (H4.out _).mono ?_
              rintro e w' ⟨rfl, hb⟩)
           | (go_at_call 49; refine (H5.out _).mono ?_; rintro e w' ⟨rfl, rfl⟩))
  obtain ⟨d1, d2, d3⟩ : w'.cell? ⟨w.heap.size, 0, none⟩ = some (.string (str name)) ∧ w'.cell? ⟨w.heap.size, 1, none⟩ = some (.string (str data)) ∧ Below w.heap.size w w' := by assumption
  have hw' := d3.size
  have D3 := hid_of d3
  have hLen : (fileBodyL i name data (cutL data size)).length ≤ 4000 := by
    unfold fileBodyL
    rw [List.length_append, hashesL_len, List.length_map, (cutL_len data size h0).1, ← HH.out]
    have := slicesOfN_le data.length size h0
    have hz : (str p4).size = 12 + name.length := by rw [← e4, ByteArray.size_append, z3, s4]; omega
    rw [str_size] at hz
    omega
  have hss : ∀ t ∈ cutL data size, t.length ≤ 1000 := fun t ht => by rw [(cutL_len data size h0).2 t ht]; omega
  have hcl : (cutL data size).length ≤ 400 := by rw [(cutL_len data size h0).1]; have := slicesOfN_le data.length size h0; omega
  have hcs := (cutL_len data size h0).1
  have hz4 : (str p4).size ≤ 400 := by rw [← e4, ByteArray.size_append, z3, s4]; omega
  clear c1 c2 hb0 H1 H2 H3 H4 H5 wi wn wd s1 s2 s3 s4 e1 e2 e3 e4 z1 z2 z3 q2 q3 q4 r2 r3 r4 q3' q4' d1 d3
  go_wp2_with fail
  refine (rSlices_walk data size h0 h1 hf2 w').mono ?_
  rintro e w2 ⟨v2, rfl, hown2, hb2⟩
  rw [← hcs] at hown2
  obtain ⟨ss, hse⟩ : ∃ x, x = cutL data size := ⟨_, rfl⟩
  rw [← hse] at hown2 hss hcl hLen
  have HSE := hid_of hse
  obtain ⟨av, cv, rfl, _, _, hrd⟩ := ownsRow_rd hown2
  have hbl2 : Below w.heap.size w w2 := D3.out.trans (hb2.mono hw')
  have HB2 := hid_of hbl2
  have HRD := hid_of hrd
  have hsz2 : w.heap.size ≤ w2.heap.size := hbl2.size
  clear hown2 hb2 hbl2 D3 d2 hcs hse hrd
  go_wp2_with fail
  go_loopw [7, 9] (fun s i wr => ∃ k : Nat, k ≤ ss.length ∧ s = .string (str (p4 ++ hashesL ((ss.take k).map hashL))) ∧ i = .int .i64 (k : Int) ∧ Below w2.heap.size w2 wr)
    (fun _ i _ => ss.length - (intOf i).toNat)
  case atStart => exact ⟨0, by omega, by simp [hashesL], rfl, Below.refl _ _⟩
  case round =>
    obtain ⟨k, hk, rfl, rfl, hbl⟩ := hrel
    have hsz := hbl.size
    have hps : p4.length ≤ 400 := by rw [← str_size]; exact hz4
    by_cases hlt : k < ss.length
    · obtain ⟨b, off, rfl, hc⟩ := (HRD.out.later (Nat.le_refl _) hbl) k (.string (str ss[k])) (by simp [strV, hlt])
      have htl := hss ss[k] (List.getElem_mem hlt)
      have hl0 : (str (p4 ++ hashesL ((ss.take k).map hashL))).size ≤ 4000 := by
        rw [str_size, List.length_append, hashesL_len, List.length_map, List.length_take]
        omega
      have e1 : str (p4 ++ hashesL ((ss.take k).map hashL)) ++ str (numBytes (hashL ss[k]) 8) = str (p4 ++ hashesL ((ss.take (k + 1)).map hashL)) := by
        rw [strs, take_snoc ss k hlt, List.map_append, List.map_cons, List.map_nil, hashesL_snoc, List.append_assoc]
      have hl8 : (str (numBytes (hashL ss[k]) 8)).size = 8 := by rw [str_size, numBytes_len]
      have H1 := hid_of (fun W => rHash_l ss[k] (by omega) W)
      have H2 := hid_of (fun W => rBytes_walk 8 (hashL ss[k]) W (by omega) (hashL_lt _))
      obtain ⟨t, ht⟩ : ∃ x, x = ss[k] := ⟨_, rfl⟩
      rw [← ht] at hc htl e1 hl8 H1 H2
      obtain ⟨hv, hhv⟩ : ∃ x, x = hashL t := ⟨_, rfl⟩
      rw [← hhv] at e1 hl8 H1 H2
      have E1 := hid_of e1
      obtain ⟨s0, hs0⟩ : ∃ x, x = p4 ++ hashesL ((ss.take k).map hashL) := ⟨_, rfl⟩
      rw [← hs0] at E1 hl0 ⊢
      have HB := hid_of hbl
      clear ht hhv hs0 e1 hbl
      go_wp2_with fail
      refine (H1.out wr).mono ?_
      rintro e w3 ⟨rfl, rfl⟩
      go_wp2_with fail
      refine (H2.out _).mono ?_
      rintro e w3 ⟨rfl, hb3⟩
      go_wp2_with fail
      exact ⟨⟨k + 1, by omega, by rw [E1.out], by go_num, HB.out.trans (hb3.mono hsz)⟩, by simp [intOf]; omega⟩
    · obtain rfl : k = ss.length := by omega
      have hfin : p4 ++ hashesL ((ss.take ss.length).map hashL) = fileBodyL i name data (cutL data size) := by
        rw [List.take_length, HH.out, HSE.out]
        rfl
      have HFIN := hid_of hfin
      have HBL := hid_of hbl
      clear hfin hbl
      obtain ⟨s0, hs0⟩ : ∃ x, x = p4 ++ hashesL ((ss.take ss.length).map hashL) := ⟨_, rfl⟩
      rw [← hs0] at HFIN ⊢
      clear hs0
      go_wp2_with fail
      go_ret
      refine ⟨?_, HB2.out.trans (HBL.out.mono hsz2)⟩
      rw [← HFIN.out]
      rfl
end Go.Proofs.YtonjphollmdicaaGreatDoor
