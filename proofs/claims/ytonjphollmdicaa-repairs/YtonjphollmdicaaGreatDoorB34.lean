import Derived.Test.YtonjphollmdicaaGreatDoorB29
import Derived.Test.YtonjphollmdicaaGreatDoorB30
import Derived.Test.YtonjphollmdicaaGreatDoorB33
namespace Go.Proofs.YtonjphollmdicaaGreatDoor
open Go.ChangeShapes Go.WideShapes Go.ChangeAt Go.RowKit
theorem pieceIn_step (b hash : Nat) (data : List UInt8) (j : Nat) (h : j < data.length) : pieceIn b hash data j = if hashL (pieceAt data b j) = hash then some (pieceAt data b j) else pieceIn b hash data (j + 1) := by
 unfold pieceIn
 rw [List.drop_eq_getElem_cons (by simpa using h), List.findSome?_cons]
 simp only [List.getElem_range]
 split <;> split <;> simp_all
theorem pieceIn_end (b hash : Nat) (data : List UInt8) : pieceIn b hash data data.length = none := by
 unfold pieceIn
 rw [List.drop_of_length_le (by simp)]
 rfl
theorem firstPiece_step (fs : List FileL) (b hash k : Nat) (h : k < fs.length) : firstPiece (fs.drop k) b hash = match pieceIn b hash fs[k].2 0 with | some p => some p | none => firstPiece (fs.drop (k + 1)) b hash := by
 rw [List.drop_eq_getElem_cons h]
 unfold firstPiece
 rw [List.findSome?_cons]
 cases pieceIn b hash fs[k].2 0 <;> rfl
def pieceV (p : Option (List UInt8)) : Value := match p with
 | some t => .tuple #[.string (str t), .bool true]
 | none => .tuple #[.string ⟨#[]⟩, .bool false]
set_option maxRecDepth 100000 in
set_option maxHeartbeats 2000000 in
theorem rpiece_walk (fs : List FileL) (b hash : Nat) (a : Option Addr) (cap : Nat) (hb2 : 2 ≤ b) (hb1 : b ≤ 32) (hn : fs.length ≤ 1000) (hf : ∀ f ∈ fs, f.2.length ≤ 400) (w : World) (hrd : Rd w a (filesV fs)) :
  Calls Tryz.prog 45 #[.slice a fs.length cap, .int .i64 (b : Int), .int .u64 (hash : Int)] w fun e w' => e = .returned (pieceV (firstPiece fs b hash)) ∧ Below w.heap.size w w' := by
 have HRD := hid_of hrd
 have HF := hid_of hf
 clear hrd hf
 obtain ⟨R, hR⟩ : ∃ R, R = firstPiece fs b hash := ⟨_, rfl⟩
 rw [← hR]
 have HR0 := hid_of hR
 clear hR
 go_enter Tryz.func45, Tryz.ntmps45
 go_wp2_with fail
 go_loopw [8, 9, 10, 11] (fun i _ _ _ W => ∃ k : Nat, k ≤ fs.length ∧ i = .int .i64 (k : Int) ∧ Hid (R = firstPiece (fs.drop k) b hash) ∧ Below w.heap.size w W)
  (fun i _ _ _ _ => fs.length - (intOf i).toNat)
 case atStart => exact ⟨0, by omega, rfl, HR0, Below.refl _ _⟩
 case round =>
  clear HR0
  obtain ⟨k, hk, rfl, HC, hbl⟩ := hrel
  by_cases hlt : k < fs.length
  ·obtain ⟨bb, off, rfl, _, c1⟩ := fileCells HRD.out (Nat.le_refl _) hbl k hlt
   have hfl := HF.out fs[k] (List.getElem_mem hlt)
   have hst := firstPiece_step fs b hash k hlt
   obtain ⟨data, hd⟩ : ∃ d, d = fs[k].2 := ⟨_, rfl⟩
   rw [← hd] at c1 hfl hst
   have HST := hid_of hst
   have HB := hid_of hbl
   have hsz := hbl.size
   clear hd hst hbl
   have hds := str_size data
   obtain ⟨m, hm⟩ : ∃ m, m = b - 1 := ⟨_, rfl⟩
   have em : (b : Int) - 1 = (m : Int) := by omega
   have hm1 : m ≤ 31 := by omega
   have hlb : bb < wr.heap.size := World.block_lt_of_cell? wr _ c1
   have c1' : ∀ o, (wr.alloc o).cell? ⟨bb, off + k * 2 + 1, none⟩ = some (.string (str data)) := fun o => by rw [cell_alloc_old hlb]; exact c1
   have wm2 : IntKind.i64.wrap (m : Int) = (m : Int) := by rw [IntKind.wrap_i64]; omega
   have wm : IntKind.i64.wrap ((b : Int) - 1) = (m : Int) := by rw [IntKind.wrap_i64]; omega
   have hmk := fun W => run_make_row' (P := Tryz.prog) 67 5 (.int .u8 0) 1 Tryz.underlying67 Tryz.info8 rfl .i64 .i64 m (by omega) (by omega) W
   have hcv := fun W => (conv_made m (by omega) W).1
   have hcv' := fun W => (conv_made m (by omega) W).2
   have z2 : (str (List.replicate m 0)).size = m := by rw [str_size, List.length_replicate]
   have e2 : str data ++ str (List.replicate m 0) = str (fillL data b) := by rw [strs, fillL, hm]
   have HM := hid_of hm
   obtain ⟨ln, hln⟩ : ∃ x, x = data.length := ⟨_, rfl⟩
   rw [← hln] at hds hfl
   have HLN := hid_of hln
   clear hm hln
   go_wp2_with fail
   go_region
   have hb3 : Below w.heap.size w (wr.alloc (.cells (madeCells #[.int .u8 0] m) 5)).drew := (HB.out.alloc hsz _).drew
   obtain ⟨W1, hW1⟩ : ∃ X, X = (wr.alloc (.cells (madeCells #[.int .u8 0] m) 5)).drew := ⟨_, rfl⟩
   rw [← hW1] at hb3 ⊢
   have HB3 := hid_of hb3
   have hlw : bb < w.heap.size := by
    obtain ⟨b9, o9, e9, hc9⟩ := HRD.out 0 (.string (str (fs[0]'(by omega)).1)) (by
     have := (filesV_get fs 0 (by omega)).1
     simpa using this)
    cases e9
    exact World.block_lt_of_cell? w _ hc9
   have hcw : Hid (∀ W, Below w.heap.size w W → W.cell? ⟨bb, off + k * 2 + 1, none⟩ = some (.string (str data))) := hid_of (fun W hW => by
    rw [hW.cell hlw, ← HB.out.cell hlw]; exact c1)
   have hsf : (str (fillL data b)).size = ln + m := by rw [str_size, fillL, List.length_append, List.length_replicate, HLN.out, HM.out]
   have hbm : m + 1 = b := by have := HM.out; omega
   clear hW1 hb3 hmk hcv hcv' c1 c1' hds z2 e2 em wm wm2 HB hsz hlb
   go_wp2_with fail
   go_loopw [10, 11] (fun at' _ W => ∃ j : Nat, j ≤ ln ∧ at' = .int .i64 (j : Int) ∧ Hid (pieceIn b hash data 0 = pieceIn b hash data j) ∧ Below w.heap.size w W)
    (fun at' _ _ => ln - (intOf at').toNat)
   case atStart => exact ⟨0, by omega, rfl, hid_of rfl, HB3.out⟩
   case round =>
    clear HB3
    obtain ⟨j, hj, rfl, HP, hbl⟩ := hrel
    have d1 := hcw.out wr hbl
    have hds := str_size data
    rw [← HLN.out] at hds
    by_cases hjl : j < ln
    ·have hstep := pieceIn_step b hash data j (by rw [← HLN.out]; exact hjl)
     have ex : (str (fillL data b)).extract j (j + b) = str (pieceAt data b j) := by rw [str_extract, Nat.add_sub_cancel_left]; rfl
     have hH := hid_of (rHash_l (pieceAt data b j) (by unfold pieceAt; rw [List.length_take]; omega) wr)
     have wj : IntKind.i64.wrap ((j : Int) + (b : Int)) = (j : Int) + (b : Int) := by rw [IntKind.wrap_i64]; omega
     have g1 : (0 : Int) ≤ (j : Int) := by omega
     have g2 : (j : Int) ≤ (j : Int) + (b : Int) := by omega
     have g3 : (j : Int) + (b : Int) ≤ ((ln + m : Nat) : Int) := by omega
     have g4 : ((j : Int) + (b : Int)).toNat = j + b := by omega
     have HSP := hid_of hstep
     have HB4 := hid_of hbl
     obtain ⟨p, hp⟩ : ∃ p, p = pieceAt data b j := ⟨_, rfl⟩
     rw [← hp] at ex hH HSP
     obtain ⟨hv, hhv⟩ : ∃ x, x = hashL p := ⟨_, rfl⟩
     rw [← hhv] at hH HSP
     clear hstep hp hhv hbl
     by_cases q : hv = hash
     ·have e1 : ((hv : Int) == (hash : Int)) = true := by simp [q]
      have HRR : Hid (R = some p) := hid_of (by rw [HC.out, HST.out, HP.out, HSP.out, if_pos q])
      clear HSP HP HC HST q
      go_wp2_with fail
      refine hH.out.mono ?_
      rintro e w' ⟨rfl, hw'⟩
      have hw' := hw'.symm
      subst hw'
      go_wp2_with fail
      go_ret2
      exact ⟨by rw [HRR.out]; rfl, HB4.out⟩
     ·have e1 : ((hv : Int) == (hash : Int)) = false := by simp; omega
      have HP2 : Hid (pieceIn b hash data 0 = pieceIn b hash data (j + 1)) := hid_of (by rw [HP.out, HSP.out, if_neg q])
      clear HSP HP q
      go_wp2_with fail
      refine hH.out.mono ?_
      rintro e w' ⟨rfl, hw'⟩
      have hw' := hw'.symm
      subst hw'
      go_wp2_with fail
      exact ⟨⟨j + 1, by omega, by go_num, HP2, HB4.out⟩, by simp [intOf]; omega⟩
    ·obtain rfl : ln = j := by omega
     have H1 : Hid (R = firstPiece (fs.drop (k + 1)) b hash) := hid_of (by rw [HC.out, HST.out, HP.out, HLN.out, pieceIn_end])
     have HB4 := hid_of hbl
     clear hbl HP HC HST
     go_wp2_with fail
     exact ⟨⟨k + 1, by omega, by go_num, H1, HB4.out⟩, by simp [intOf]; omega⟩
  ·obtain rfl : fs.length = k := by omega
   have hR : R = none := by rw [HC.out, List.drop_length]; rfl
   have HRR := hid_of hR
   have HB := hid_of hbl
   clear hR HC hbl
   go_wp2_with fail
   go_ret2
   exact ⟨by rw [HRR.out]; rfl, HB.out⟩
end Go.Proofs.YtonjphollmdicaaGreatDoor
namespace Go.Proofs.YtonjphollmdicaaGreatDoor
open Go.ChangeShapes Go.WideShapes Go.ChangeAt Go.RowKit
def spareL : List UInt8 := [115, 112, 97, 114, 101]
def spareF : FileL := (spareL, spareL)
theorem lspare_walk (w : World) :
  Calls Tryz.prog 40 #[] w fun e w' => e = .returned (.agg #[.string (str spareL), .string (str spareL)]) ∧ Below w.heap.size w w' := by
 go_enter Tryz.func40, Tryz.ntmps40
 go_wp2_with fail
 refine bodyPost_ret (v := .agg #[.string (str spareL), .string (str spareL)]) (by simp [results, Tryz.results40, go_sem]; rfl) rfl ?_
 exact ⟨rfl, (Below.refl _ _).alloc (Nat.le_refl _) _⟩
theorem lnum_walk (n : Int) (w : World) :
  Calls Tryz.prog 19 #[.int .i64 n] w fun e w' => e = .returned (.int .i64 n) ∧ w' = w := by
 go_enter Tryz.func19, Tryz.ntmps19
 go_wp2_with fail
 go_ret
 exact ⟨rfl, rfl⟩
theorem lsameFile_walk (f g : FileL) (w : World) :
  Calls Tryz.prog 46 #[.agg #[.string (str f.1), .string (str f.2)], .agg #[.string (str g.1), .string (str g.2)]] w fun e w' => e = .returned (.bool (f == g)) ∧ Below w.heap.size w w' := by
 have hB : Below w.heap.size w ((w.alloc (Obj.cells #[Value.string (str f.1), Value.string (str f.2)] 62)).alloc (Obj.cells #[Value.string (str g.1), Value.string (str g.2)] 62)) :=
  ((Below.refl _ _).alloc (Nat.le_refl _) _).alloc (by simp) _
 have HB := hid_of hB
 clear hB
 go_enter Tryz.func46, Tryz.ntmps46
 go_wp2_with fail
 ·have he : (str f.1).toList = (str g.1).toList := by assumption
  rw [str_toList, str_toList] at he
  go_ret
  refine ⟨?_, HB.out⟩
  rw [show (f == g) = ((str f.2).toList == (str g.2).toList) from by
   rw [str_toList, str_toList]
   obtain ⟨f1, f2⟩ := f
   obtain ⟨g1, g2⟩ := g
   simp only at he
   subst he
   show (f1 == f1 && f2 == g2) = _
   simp]
  rfl
 ·have he : ¬ (str f.1).toList = (str g.1).toList := by assumption
  rw [str_toList, str_toList] at he
  go_ret
  refine ⟨?_, HB.out⟩
  rw [show (f == g) = false from by
   rw [beq_eq_false_iff_ne]
   intro e
   exact he (by rw [e])]
  rfl
theorem filesV_append (a b : List FileL) : filesV (a ++ b) = filesV a ++ filesV b := by simp [filesV]
theorem filesV_one (fs : List FileL) : ∀ u ∈ filesV fs, u.oneCell' = true := by
 intro u hu
 simp only [filesV, List.mem_flatMap] at hu
 obtain ⟨f, _, hf⟩ := hu
 rcases List.mem_cons.1 hf with rfl | hf
 ·rfl
 ·simp at hf; subst hf; rfl
def lentL (fs : List FileL) (k : Nat) : List FileL := fs ++ List.replicate k spareF
theorem Tryz.infoFl : (Tryz.prog.info? 62).map (fun i => (i.zero, i.size, i.bytes)) = some (some (.agg #[.string ByteArray.empty, .string ByteArray.empty]), 2, 32) := by kernel_rfl
theorem lent_news {w : World} {ad : Addr} {fs : List FileL} (hrd : Rd w (some ad) (filesV fs)) : ∀ j u, (filesV fs)[j]? = some u → w.cell? (ad.add j) = some u := by
 intro j u hj
 obtain ⟨b, off, e, hc⟩ := hrd j u hj
 cases e
 have hadd : (⟨b, off, none⟩ : Addr).add j = ⟨b, off + j, none⟩ := by unfold Addr.add; split <;> simp_all
 rw [hadd]
 exact hc
theorem spare_one : ∀ u ∈ [Value.string (str spareL), Value.string (str spareL)], u.oneCell' = true := by
 intro u hu
 rcases List.mem_cons.1 hu with rfl | hu
 ·rfl
 ·rcases List.mem_cons.1 hu with rfl | hu
  ·rfl
  ·cases hu
theorem lentL_succ (fs : List FileL) (k : Nat) : filesV (lentL fs (k + 1)) = filesV (lentL fs k) ++ [.string (str spareL), .string (str spareL)] := by
 unfold lentL
 rw [List.replicate_succ', ← List.append_assoc, filesV_append]
 rfl
def Lent (w : World) (base : Nat) (v : Value) (fs : List FileL) : Prop :=
 ∃ g c, v = .slice (some ⟨g, 0, none⟩) fs.length c ∧ fs.length + 8 ≤ c ∧ w.ownsRow base 62 2 (.slice (some ⟨g, 0, none⟩) (fs.length + 8) c) (fs.length + 8) (filesV (lentL fs 8))
set_option maxRecDepth 100000 in
set_option maxHeartbeats 1000000 in
theorem lentFiles_some (fs : List FileL) (ad : Addr) (cap : Nat) (hn : fs.length + 8 ≤ 4398046511104) (w : World) (hrd : Rd w (some ad) (filesV fs)) :
  Calls Tryz.prog 11 #[.slice (some ad) fs.length cap] w fun e w' => ∃ v, e = .returned v ∧ Lent w' w.heap.size v fs ∧ Below w.heap.size w w' := by
 obtain ⟨i0, hi, hz0, hz1, hz2⟩ := info_parts Tryz.infoFl
 have hown0 := World.ownsRow_nil w w.heap.size 62 2
 have HRD := hid_of hrd
 have HBD : Hid (∀ k, k < 8 → (fs.length + k + 1) * 32 ≤ 140737488355328) := hid_of (fun k hk => Nat.mul_le_mul_right 32 (show fs.length + k + 1 ≤ 4398046511104 by omega))
 have HML : Hid (∀ k, k < 8 → fs.length + k + 1 ≤ maxLen) := hid_of (by intro k hk; unfold maxLen; omega)
 have hml : fs.length ≤ maxLen := by unfold maxLen; omega
 have hbd : fs.length * 32 ≤ 140737488355328 := Nat.mul_le_mul_right 32 (show fs.length ≤ 4398046511104 by omega)
 have HL0 : Hid (filesV fs = filesV (lentL fs 0)) := hid_of (by simp [lentL])
 clear hrd hn
 go_enter Tryz.func11, Tryz.ntmps11
 go_wp2_with (at_builtin; refine wpList_append_own _ rfl (.tmp 6) (.tmp 7) 22 rfl w.heap.size 62 i0 (.agg #[.string ByteArray.empty, .string ByteArray.empty]) 2 32 Tryz.underlying22 hi hz0 hz1 hz2 rfl (by decide) _ _ _ rfl hown0 ad fs.length cap (filesV fs) rfl ?d1 ?d0 ?d2 ?d3 ?d4 ?d5 ?_)
 case d1 => rw [filesV_length, Nat.mul_comm]
 case d0 => exact lent_news HRD.out
 case d2 => exact filesV_one fs
 case d3 => rw [Nat.zero_add]; exact hml
 case d4 => rw [Nat.zero_add]; exact hbd
 case d5 => omega
 intro v1 w1 hown1 hg1 hnil
 clear hnil
 have hb1 := below_grown (Below.refl w.heap.size w) (Nat.le_refl _) hown0 hg1
 have HO1 := hid_of hown1
 have HB1 := hid_of hb1
 clear hown1 hb1 hg1 hown0
 go_wp2_with fail
 go_loopw [3, 4, 5] (fun l i _ wr => ∃ k : Nat, k ≤ 8 ∧ i = .int .i64 (k : Int) ∧ wr.ownsRow w.heap.size 62 2 l (fs.length + k) (filesV (lentL fs k)) ∧ Below w.heap.size w wr)
  (fun _ i _ _ => 8 - (intOf i).toNat)
 case atStart => exact ⟨0, Nat.zero_le _, rfl, HL0.out ▸ HO1.out, HB1.out⟩
 case round =>
  clear HO1 HB1
  obtain ⟨k, hk, rfl, hownr, hbl⟩ := hrel
  have hsz := hbl.size
  have HO := hid_of hownr
  have HB := hid_of hbl
  by_cases hlt : k < 8
  ·clear hownr hbl
   go_wp2_with fail
   refine (lspare_walk _).mono ?_
   rintro e w2 ⟨rfl, hb2⟩
   have hown2 := ownsRow_later HO.out (Nat.le_refl _) hb2
   have hbl2 : Below w.heap.size w w2 := HB.out.trans (hb2.mono hsz)
   have hsz2 := hbl2.size
   have HO2 := hid_of hown2
   have HB2 := hid_of hbl2
   clear hown2 hbl2 hb2 HO HB
   go_wp2_with (at_builtin; refine wpList_append_own _ rfl (.tmp 14) (.tmp 16) 22 rfl w.heap.size 62 i0 (.agg #[.string ByteArray.empty, .string ByteArray.empty]) 2 32 Tryz.underlying22 hi hz0 hz1 hz2 rfl (by decide) _ _ _ rfl ((HO2.out.alloc _).alloc _) ⟨w2.heap.size + 1, 0, none⟩ 1 1 [.string (str spareL), .string (str spareL)] rfl rfl ?c1 ?c2 ?c3 ?c4 ?c5 ?_)
   case c1 =>
    have := two_new (w2.alloc (.cells #[.string (str spareL), .string (str spareL)] 62)) (.string (str spareL)) (.string (str spareL)) 62
    simpa using this
   case c2 => exact spare_one
   case c3 => exact HML.out k hlt
   case c4 => exact HBD.out k hlt
   case c5 => simp; omega
   intro v6 w6 hown6 hg6 hnil
   clear hnil
   have hb6 := below_step (HB2.out.alloc hsz2 _) (by simp; omega) (HO2.out.alloc _) hg6
   rw [← lentL_succ] at hown6
   have K1 := hid_of hown6
   have K2 := hid_of hb6
   clear hown6 hg6 hb6
   go_wp2_with fail
   exact ⟨⟨k + 1, by omega, by go_num, K1.out, K2.out⟩, by simp [intOf]; omega⟩
  ·obtain rfl : k = 8 := by omega
   rcases hownr.2 with ⟨_, h0⟩ | ⟨g, c, cur, rfl, hg, _, hc, _⟩
   ·omega
   ·clear hownr hbl
    go_wp2_with fail
    go_ret
    exact ⟨_, rfl, ⟨g, c, rfl, hc, HO.out⟩, HB.out⟩
set_option maxRecDepth 100000 in
set_option maxHeartbeats 1000000 in
theorem lentFiles_none (w : World) :
  Calls Tryz.prog 11 #[.slice none 0 0] w fun e w' => ∃ v, e = .returned v ∧ Lent w' w.heap.size v [] ∧ Below w.heap.size w w' := by
 obtain ⟨i0, hi, hz0, hz1, hz2⟩ := info_parts Tryz.infoFl
 have hown0 := World.ownsRow_nil w w.heap.size 62 2
 go_enter Tryz.func11, Tryz.ntmps11
 go_wp2_with (at_builtin; refine wpList_append_own_none rfl (.tmp 6) (.tmp 7) 22 rfl w.heap.size 62 i0 2 Tryz.underlying22 hi _ _ _ rfl hown0 rfl ?_)
 go_loopw [3, 4, 5] (fun l i _ wr => ∃ k : Nat, k ≤ 8 ∧ i = .int .i64 (k : Int) ∧ wr.ownsRow w.heap.size 62 2 l k (filesV (lentL [] k)) ∧ Below w.heap.size w wr)
  (fun _ i _ _ => 8 - (intOf i).toNat)
 case atStart => exact ⟨0, by omega, rfl, hown0, Below.refl _ _⟩
 case round =>
  clear hown0
  obtain ⟨k, hk, rfl, hownr, hbl⟩ := hrel
  have hsz := hbl.size
  have HO := hid_of hownr
  have HB := hid_of hbl
  by_cases hlt : k < 8
  ·clear hownr hbl
   go_wp2_with fail
   refine (lspare_walk _).mono ?_
   rintro e w2 ⟨rfl, hb2⟩
   have hown2 := ownsRow_later HO.out (Nat.le_refl _) hb2
   have hbl2 : Below w.heap.size w w2 := HB.out.trans (hb2.mono hsz)
   have hsz2 := hbl2.size
   have HO2 := hid_of hown2
   have HB2 := hid_of hbl2
   clear hown2 hbl2 hb2 HO HB
   go_wp2_with (at_builtin; refine wpList_append_own _ rfl (.tmp 14) (.tmp 16) 22 rfl w.heap.size 62 i0 (.agg #[.string ByteArray.empty, .string ByteArray.empty]) 2 32 Tryz.underlying22 hi hz0 hz1 hz2 rfl (by decide) _ _ _ rfl ((HO2.out.alloc _).alloc _) ⟨w2.heap.size + 1, 0, none⟩ 1 1 [.string (str spareL), .string (str spareL)] rfl rfl ?c1 ?c2 ?c3 ?c4 ?c5 ?_)
   case c1 =>
    have := two_new (w2.alloc (.cells #[.string (str spareL), .string (str spareL)] 62)) (.string (str spareL)) (.string (str spareL)) 62
    simpa using this
   case c2 => exact spare_one
   case c3 => unfold maxLen; omega
   case c4 => omega
   case c5 => simp; omega
   intro v6 w6 hown6 hg6 _
   have hb6 := below_step (HB2.out.alloc hsz2 _) (by simp; omega) (HO2.out.alloc _) hg6
   rw [← lentL_succ] at hown6
   have K1 := hid_of hown6
   have K2 := hid_of hb6
   clear hown6 hg6 hb6
   go_wp2_with fail
   exact ⟨⟨k + 1, by omega, by go_num, K1.out, K2.out⟩, by simp [intOf]; omega⟩
  ·obtain rfl : k = 8 := by omega
   rcases hownr.2 with ⟨_, h0⟩ | ⟨g, c, cur, rfl, hg, _, hc, _⟩
   ·omega
   ·clear hownr hbl
    go_wp2_with fail
    go_ret
    exact ⟨_, rfl, ⟨g, c, rfl, hc, HO.out⟩, HB.out⟩
theorem lentFiles_walk (fs : List FileL) (a : Option Addr) (cap : Nat) (ha : a = none → cap = 0) (hn : fs.length + 8 ≤ 4398046511104) (w : World) (hrd : Rd w a (filesV fs)) :
  Calls Tryz.prog 11 #[.slice a fs.length cap] w fun e w' => ∃ v, e = .returned v ∧ Lent w' w.heap.size v fs ∧ Below w.heap.size w w' := by
 cases a with
 | some ad => exact lentFiles_some fs ad cap hn w hrd
 | none =>
  cases fs with
  | nil => rw [ha rfl]; exact lentFiles_none w
  | cons f fs =>
   obtain ⟨b, off, e, _⟩ := hrd 0 (.string (str f.1)) (by simp [filesV])
   cases e
end Go.Proofs.YtonjphollmdicaaGreatDoor
