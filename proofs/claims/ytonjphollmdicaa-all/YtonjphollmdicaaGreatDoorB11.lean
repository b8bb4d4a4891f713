import Derived.Test.YtonjphollmdicaaGreatDoorB00
import Derived.Test.YtonjphollmdicaaGreatDoorB10
import Derived.Deep.OwnRows
set_option maxRecDepth 100000
set_option maxHeartbeats 4000000
set_option linter.unusedSimpArgs false
namespace Go.Proofs.YtonjphollmdicaaGreatDoor
open Go.ChangeShapes Go.WideShapes Go.ChangeAt Go.RowKit
theorem Nf (len size k i : Nat) (h0 : 0 < size) (hi : i = k * size) : (i < len → k < Aj len size) ∧ (¬ i < len → k ≤ Aj len size → k = Aj len size) := by
 have h1 := Ff len size h0
 have h2 := Lf len size
 refine ⟨fun h => ?_, fun h hk => ?_⟩
 ·rcases Nat.lt_or_ge k (Aj len size) with h' | h'
  ·exact h'
  ·have := Nat.mul_le_mul_right size h'
   omega
 ·rcases Nat.lt_or_ge k (Aj len size) with h' | h'
  ·have := Nat.mul_le_mul_right size (show k + 1 ≤ Aj len size from h')
   rw [Nat.succ_mul] at this
   omega
  ·omega
theorem Sx (data : List UInt8) (size k i : Nat) (h0 : 0 < size) (hi : i = k * size) (hlt : i < data.length) :
  (C8 data size).take (k + 1) = (C8 data size).take k ++ [if i + size ≤ data.length then (data.drop i).take size else data.drop i ++ List.replicate (i + size - data.length) 0] := by
 have hk := (Nf data.length size k i h0 hi).1 hlt
 have hl : k < (C8 data size).length := by rw [(CJ data size h0).1]; exact hk
 rw [Ap _ k hl]
 congr 2
 have e : (C8 data size)[k] = Ek (LX data size) size k := by simp [C8]
 rw [e]
 unfold Ek LX
 rw [← hi, List.drop_append_of_le_length (by omega)]
 have hm : (k + 1) * size ≤ Aj data.length size * size := Nat.mul_le_mul_right _ hk
 rw [Nat.succ_mul, ← hi] at hm
 split
 ·rw [List.take_append_of_le_length (by rw [List.length_drop]; omega)]
 ·rw [List.take_append, List.take_of_length_le (by rw [List.length_drop]; omega), List.length_drop, List.take_replicate]
  congr 2
  omega
theorem Gl (m : Nat) (hm : m ≤ 1000) (W : World) : (convert 67 9 (.slice (some ⟨W.heap.size, 0, none⟩) m m)).run Tryz.prog (W.alloc (.cells (madeCells #[.int .u8 0] m) 5)) = .ok (.string (str (List.replicate m 0))) (W.alloc (.cells (madeCells #[.int .u8 0] m) 5)) ∧
  (convert 67 9 (.slice (some ⟨W.heap.size, 0, none⟩) m m)).run Tryz.prog (W.alloc (.cells (madeCells #[.int .u8 0] m) 5)).drew = .ok (.string (str (List.replicate m 0))) (W.alloc (.cells (madeCells #[.int .u8 0] m) 5)).drew := by
 have h : (W.alloc (.cells (madeCells #[.int .u8 0] m) 5)).ownsRow W.heap.size 5 1 (.slice (some ⟨W.heap.size, 0, none⟩) m m) m (Bw (List.replicate m 0)) := by
  refine ⟨by simp [Bw], .inr ⟨W.heap.size, m, _, rfl, Nat.le_refl _, heap_alloc_new W _, Nat.le_refl _, by unfold maxLen; omega, by simp [size_madeCells], ?_⟩⟩
  rw [toList_madeCells_one, List.take_of_length_le (by simp)]
  simp [Bw]
 exact ⟨Cd h, Cd (w := (W.alloc (.cells (madeCells #[.int .u8 0] m) 5)).drew) h⟩
theorem GX (data : List UInt8) (size : Nat) (h0 : 0 < size) (h1 : size ≤ 32) (hd : data.length ≤ 400) (w : World) :
  Calls Tryz.prog 104 #[.string (str data), .int .i64 (size : Int)] w fun e w' => ∃ v', e = .returned v' ∧ w'.ownsRow w.heap.size 9 1 v' (Aj data.length size) (AM (C8 data size)) ∧ Below w.heap.size w w' := by
 obtain ⟨i0, hi, hz0, hz1, hz2⟩ := info_parts Tryz.infoS
 have hsd : (str data).size = data.length := Ae data
 have hnl := Bu data.length size h0
 obtain ⟨n, hn⟩ : ∃ n, n = Aj data.length size := ⟨_, rfl⟩
 have HSI := Aa (fun k i hi => Nf data.length size k i h0 hi)
 have HCA := Aa (fun k i hi => Sx data size k i h0 hi)
 rw [← hn] at HSI hnl ⊢
 have HN := Aa hn
 clear hn
 go_enter Tryz.func104, Tryz.ntmps104
 go_wp2_with fail
 go_loopw [5, 6, 7] (fun l i _ wr => ∃ k i' : Nat, k ≤ n ∧ i' ≤ 432 ∧ Hid (i' = k * size) ∧ i = .int .i64 (i' : Int) ∧ wr.ownsRow w.heap.size 9 1 l k (AM ((C8 data size).take k)) ∧ Below w.heap.size w wr)
  (fun _ i _ _ => data.length - (intOf i).toNat)
 case atStart => exact ⟨0, 0, by omega, by omega, Aa (by simp), rfl, World.ownsRow_nil _ _ _ _, Below.refl _ _⟩
 case round =>
  obtain ⟨k, i', hk, hi', hik, rfl, hownr, hbl⟩ := hrel
  have hsz := hbl.size
  by_cases hlt : i' < data.length
  ·have hkn := (HSI.out k i' hik.out).1 hlt
   have hcut := HCA.out k i' hik.out hlt
   have hik' : i' + size = (k + 1) * size := by rw [hik.out, Nat.succ_mul]
   have HIK := Aa hik'
   have HB := Aa hbl
   have HO := Aa hownr
   clear hik' hbl hownr
   by_cases hin : i' + size ≤ data.length
   ·rw [if_pos hin] at hcut
    have eex : (str data).extract i' (i' + size) = str ((data.drop i').take size) := by rw [AB, Nat.add_sub_cancel_left]
    obtain ⟨p, hp⟩ : ∃ p, p = (data.drop i').take size := ⟨_, rfl⟩
    rw [← hp] at hcut eex
    have HC := Aa hcut
    clear hcut hp
    go_wp2_with (at_builtin; refine wpList_append_own _ rfl (.tmp 39) (.tmp 41) 23 rfl w.heap.size 9 i0 (.string ByteArray.empty) 1 16 Tryz.underlying23 hi hz0 hz1 hz2 rfl (by decide) _ _ _ rfl (HO.out.alloc _) ⟨wr.heap.size, 0, none⟩ 1 1 [.string (str p)] rfl rfl (cell_one_new _ _ _) ?d2 ?d3 ?d4 ?d5 ?_)
    case d2 => intro u hu; simp at hu; subst hu; rfl
    case d3 => unfold maxLen; omega
    case d4 => omega
    case d5 => simp; omega
    intro v2 w2 hown2 hg2 _
    have hbl2 := Az HB.out hsz HO.out hg2
    go_wp2_with fail
    refine ⟨⟨k + 1, i' + size, by omega, by omega, HIK, by go_num, ?_, hbl2⟩, by simp [intOf]; omega⟩
    rw [HC.out, Cg]
    exact hown2
   ·rw [if_neg hin] at hcut
    have eex : (str data).extract i' data.length = str (data.drop i') := by rw [AB, List.take_of_length_le (by rw [List.length_drop]; omega)]
    have e2 : str (data.drop i') ++ str (List.replicate (i' + size - data.length) 0) = str (data.drop i' ++ List.replicate (i' + size - data.length) 0) := KE _ _
    obtain ⟨m, hm⟩ : ∃ m, m = i' + size - data.length := ⟨_, rfl⟩
    rw [← hm] at hcut e2
    have em : (i' : Int) + (size : Int) - (data.length : Int) = (m : Int) := by omega
    have hmk := fun W => run_make_row' (P := Tryz.prog) 67 5 (.int .u8 0) 1 Tryz.underlying67 Tryz.info8 rfl .i64 .i64 m (by omega) (by omega) W
    have hcv := fun W => (Gl m (by omega) W).1
    have hcv' := fun W => (Gl m (by omega) W).2
    have hle : i' ≤ data.length := by omega
    have z1 : (str (data.drop i')).size ≤ 400 := by rw [Ae, List.length_drop]; omega
    have z2 : (str (List.replicate m 0)).size ≤ 1000 := by rw [Ae, List.length_replicate]; omega
    obtain ⟨p, hp⟩ : ∃ p, p = data.drop i' ++ List.replicate m 0 := ⟨_, rfl⟩
    obtain ⟨d0, hd0⟩ : ∃ p, p = data.drop i' := ⟨_, rfl⟩
    rw [← hp] at hcut e2
    rw [← hd0] at z1 e2 eex
    have HC := Aa hcut
    clear hcut hp hd0 hm
    go_wp2_with fail
    go_region
    have HO1 : Hid ((wr.alloc (.cells (madeCells #[.int .u8 0] m) 5)).drew.ownsRow w.heap.size 9 1 _ k (AM ((C8 data size).take k))) := Aa (HO.out.alloc (.cells (madeCells #[.int .u8 0] m) 5))
    have HB1 : Hid (Below w.heap.size w (wr.alloc (.cells (madeCells #[.int .u8 0] m) 5)).drew) := Aa (HB.out.alloc hsz _).drew
    have hsz1 : w.heap.size ≤ (wr.alloc (.cells (madeCells #[.int .u8 0] m) 5)).drew.heap.size := HB1.out.size
    obtain ⟨W1, hW1⟩ : ∃ W1, W1 = (wr.alloc (.cells (madeCells #[.int .u8 0] m) 5)).drew := ⟨_, rfl⟩
    rw [← hW1] at HO1 HB1 hsz1 ⊢
    clear hW1 hcv hcv' hmk
    go_wp2_with (at_builtin; refine wpList_append_own _ rfl (.tmp 39) (.tmp 41) 23 rfl w.heap.size 9 i0 (.string ByteArray.empty) 1 16 Tryz.underlying23 hi hz0 hz1 hz2 rfl (by decide) _ _ _ rfl (HO1.out.alloc _) ⟨W1.heap.size, 0, none⟩ 1 1 [.string (str p)] rfl rfl (cell_one_new _ _ _) ?d2 ?d3 ?d4 ?d5 ?_)
    case d2 => intro u hu; simp at hu; subst hu; rfl
    case d3 => unfold maxLen; omega
    case d4 => omega
    case d5 => simp; omega
    intro v2 w2 hown2 hg2 _
    have hbl2 := Az HB1.out hsz1 HO1.out hg2
    go_wp2_with fail
    refine ⟨⟨k + 1, i' + size, by omega, by omega, HIK, by go_num, ?_, hbl2⟩, by simp [intOf]; omega⟩
    rw [HC.out, Cg]
    exact hown2
  ·have hkn := (HSI.out k i' hik.out).2 hlt hk
   subst hkn
   have hall : (C8 data size).take k = C8 data size := List.take_of_length_le (by rw [(CJ data size h0).1, ← HN.out]; exact Nat.le_refl _)
   rw [hall] at hownr
   go_wp2_with fail
   go_ret
   exact ⟨_, rfl, hownr, hbl⟩
theorem Lr (fs : List Ak) (size : Nat) (a : Option Addr) (cap : Nat) (h0 : 0 < size) (h1 : size ≤ 32) (hn : fs.length ≤ 6) (hf : ∀ f ∈ fs, f.2.length ≤ 400) (w : World) (hrd : Rd w a (As fs)) :
  Calls Tryz.prog 67 #[.slice a fs.length cap, .int .i64 (size : Int)] w fun e w' => ∃ v', e = .returned v' ∧ w'.ownsRow w.heap.size 9 1 v' (BM fs size) (AM (Ca size fs)) ∧ Below w.heap.size w w' :=
 Sm (fun data size h0 h1 hd w => GX data size h0 h1 hd w) fs size a cap h0 h1 hn hf w hrd
theorem SR {w0 W W' : World} {B : Nat} {a b : Addr} {x y : Value} (h : W.cell? a = some x ∧ W.cell? b = some y ∧ Below B w0 W) (hB : B ≤ w0.heap.size) (hb : Below W.heap.size W W') : W'.cell? a = some x ∧ W'.cell? b = some y ∧ Below B w0 W' := by
  obtain ⟨h1, h2, h3⟩ := h
  have hs := h3.size
  exact ⟨by rw [hb.cell (World.block_lt_of_cell? W _ h1)]; exact h1, by rw [hb.cell (World.block_lt_of_cell? W _ h2)]; exact h2, h3.trans (hb.mono (by omega))⟩
theorem I4 (i : Nat) (f : Ak) (size : Nat) (hi : i ≤ 100) (hf1 : f.1.length ≤ 100) (hf2 : f.2.length ≤ 400) (h0 : 0 < size) (h1 : size ≤ 32) (w : World) :
    Calls Tryz.prog 69 #[.int .i64 (i : Int), .agg #[.string (str f.1), .string (str f.2)], .int .i64 (size : Int)] w fun e w' => e = .returned (.string (str (Co i f.1 f.2 (C8 f.2 size)))) ∧ Below w.heap.size w w' := by
  obtain ⟨name, data⟩ := f
  simp only at hf1 hf2 ⊢
  have n1 := Ae name
  have n2 := Ae data
  have c1 : (w.alloc (.cells #[.string (str name), .string (str data)] 62)).cell? ⟨w.heap.size, 0, none⟩ = some (.string (str name)) := by simp
  have c2 : (w.alloc (.cells #[.string (str name), .string (str data)] 62)).cell? ⟨w.heap.size, 1, none⟩ = some (.string (str data)) := by simp
  have hb0 : Below w.heap.size w (w.alloc (.cells #[.string (str name), .string (str data)] 62)) := (Below.refl _ _).alloc (Nat.le_refl _) _
  have H1 : Hid (∀ W : World, Calls Tryz.prog 68 #[.int .u64 (i : Int), .int .i64 1] W fun e w' => e = .returned (.string (str (Af i 1))) ∧ Below W.heap.size W w') := Aa (fun W => Br 1 i W (by omega) (by unfold P64; omega))
  have H2 : Hid (∀ W : World, Calls Tryz.prog 68 #[.int .u64 (name.length : Int), .int .i64 1] W fun e w' => e = .returned (.string (str (Af name.length 1))) ∧ Below W.heap.size W w') := Aa (fun W => Br 1 name.length W (by omega) (by unfold P64; omega))
  have H3 : Hid (∀ W : World, Calls Tryz.prog 68 #[.int .u64 (data.length : Int), .int .i64 2] W fun e w' => e = .returned (.string (str (Af data.length 2))) ∧ Below W.heap.size W w') := Aa (fun W => Br 2 data.length W (by omega) (by unfold P64; omega))
  have H4 : Hid (∀ W : World, Calls Tryz.prog 68 #[.int .u64 ((AC data : Nat) : Int), .int .i64 8] W fun e w' => e = .returned (.string (str (Af (AC data) 8))) ∧ Below W.heap.size W w') := Aa (fun W => Br 8 (AC data) W (by omega) (Fy data))
  have H5 := Aa (fun W => DS data (by omega) W)
  have wi : IntKind.u64.wrap (i : Int) = (i : Int) := by rw [IntKind.wrap_u64]; omega
  have wn : IntKind.u64.wrap (name.length : Int) = (name.length : Int) := by rw [IntKind.wrap_u64]; omega
  have wd : IntKind.u64.wrap (data.length : Int) = (data.length : Int) := by rw [IntKind.wrap_u64]; omega
  have s1 : (str (Af i 1)).size = 1 := by rw [Ae, Ao]
  have s2 : (str (Af name.length 1)).size = 1 := by rw [Ae, Ao]
  have s3 : (str (Af data.length 2)).size = 2 := by rw [Ae, Ao]
  have s4 : (str (Af (AC data) 8)).size = 8 := by rw [Ae, Ao]
  obtain ⟨p1, hp1⟩ : ∃ p, p = Af i 1 ++ Af name.length 1 := ⟨_, rfl⟩
  have e1 : str (Af i 1) ++ str (Af name.length 1) = str p1 := by rw [hp1]; exact KE _ _
  have z1 : (str p1).size = 2 := by rw [Ae, hp1]; simp [Ao]
  obtain ⟨p2, hp2⟩ : ∃ p, p = p1 ++ name := ⟨_, rfl⟩
  have e2 : str p1 ++ str name = str p2 := by rw [hp2]; exact KE _ _
  have z2 : (str p2).size = 2 + name.length := by rw [Ae, hp2, hp1]; simp [Ao]; omega
  obtain ⟨p3, hp3⟩ : ∃ p, p = p2 ++ Af data.length 2 := ⟨_, rfl⟩
  have e3 : str p2 ++ str (Af data.length 2) = str p3 := by rw [hp3]; exact KE _ _
  have z3 : (str p3).size = 4 + name.length := by rw [Ae, hp3, hp2, hp1]; simp [Ao]; omega
  obtain ⟨p4, hp4⟩ : ∃ p, p = p3 ++ Af (AC data) 8 := ⟨_, rfl⟩
  have e4 : str p3 ++ str (Af (AC data) 8) = str p4 := by rw [hp4]; exact KE _ _
  have hhead : p4 = DX i name data := by rw [hp4, hp3, hp2, hp1]; rfl
  have HH := Aa hhead
  obtain ⟨hv, hhv⟩ : ∃ x, x = AC data := ⟨_, rfl⟩
  rw [← hhv] at H4 H5 s4 e4
  clear hhead hp1 hp2 hp3 hp4 hhv
  have q2 : ¬ 9223372036854775807 < 2 + name.length := by omega
  have q3 : ¬ 9223372036854775807 < 2 + name.length + 2 := by omega
  have q4 : ¬ 9223372036854775807 < 4 + name.length + 8 := by omega
  have r2 : ¬ 9223372036854775805 < name.length := by omega
  have r3 : ¬ 9223372036854775803 < name.length := by omega
  have r4 : ¬ 9223372036854775795 < name.length := by omega
  have q3' : ¬ 9223372036854775805 < 2 + name.length := by omega
  have q4' : ¬ 9223372036854775799 < 4 + name.length := by omega
  go_enter Tryz.func69, Tryz.ntmps69
  go_wp2_with fail
  go_region_held (fun W => W.cell? ⟨w.heap.size, 0, none⟩ = some (.string (str name)) ∧ W.cell? ⟨w.heap.size, 1, none⟩ = some (.string (str data)) ∧ Below w.heap.size w W)
    (first | assumption | (refine SR ?_ (Nat.le_refl _) hb; assumption) | exact ⟨c1, c2, hb0⟩ | exact ⟨c1, c2, hb0.drew⟩)
    (first | (go_at_call 68; first | with_reducible refine (H1.out _).mono ?_ | with_reducible refine (H2.out _).mono ?_ | with_reducible refine (H3.out _).mono ?_ | with_reducible refine (H4.out _).mono ?_
              rintro e w' ⟨rfl, hb⟩)
           | (go_at_call 49; refine (H5.out _).mono ?_; rintro e w' ⟨rfl, rfl⟩))
  obtain ⟨d1, d2, d3⟩ : w'.cell? ⟨w.heap.size, 0, none⟩ = some (.string (str name)) ∧ w'.cell? ⟨w.heap.size, 1, none⟩ = some (.string (str data)) ∧ Below w.heap.size w w' := by assumption
  have hw' := d3.size
  have D3 := Aa d3
  have hLen : (Co i name data (C8 data size)).length ≤ 4000 := by
    unfold Co
    rw [List.length_append, CV, List.length_map, (CJ data size h0).1, ← HH.out]
    have := Bu data.length size h0
    have hz : (str p4).size = 12 + name.length := by rw [← e4, ByteArray.size_append, z3, s4]; omega
    rw [Ae] at hz
    omega
  have hss : ∀ t ∈ C8 data size, t.length ≤ 1000 := fun t ht => by rw [(CJ data size h0).2 t ht]; omega
  have hcl : (C8 data size).length ≤ 400 := by rw [(CJ data size h0).1]; have := Bu data.length size h0; omega
  have hcs := (CJ data size h0).1
  have hz4 : (str p4).size ≤ 400 := by rw [← e4, ByteArray.size_append, z3, s4]; omega
  clear c1 c2 hb0 H1 H2 H3 H4 H5 wi wn wd s1 s2 s3 s4 e1 e2 e3 e4 z1 z2 z3 q2 q3 q4 r2 r3 r4 q3' q4' d1 d3
  go_wp2_with fail
  refine (GX data size h0 h1 hf2 w').mono ?_
  rintro e w2 ⟨v2, rfl, hown2, hb2⟩
  rw [← hcs] at hown2
  obtain ⟨ss, hse⟩ : ∃ x, x = C8 data size := ⟨_, rfl⟩
  rw [← hse] at hown2 hss hcl hLen
  have HSE := Aa hse
  obtain ⟨av, cv, rfl, _, _, hrd⟩ := Aw hown2
  have hbl2 : Below w.heap.size w w2 := D3.out.trans (hb2.mono hw')
  have HB2 := Aa hbl2
  have HRD := Aa hrd
  have hsz2 : w.heap.size ≤ w2.heap.size := hbl2.size
  clear hown2 hb2 hbl2 D3 d2 hcs hse hrd
  go_wp2_with fail
  go_loopw [7, 9] (fun s i wr => ∃ k : Nat, k ≤ ss.length ∧ s = .string (str (p4 ++ Bi ((ss.take k).map AC))) ∧ i = .int .i64 (k : Int) ∧ Below w2.heap.size w2 wr)
    (fun _ i _ => ss.length - (intOf i).toNat)
  case atStart => exact ⟨0, by omega, by simp [Bi], rfl, Below.refl _ _⟩
  case round =>
    obtain ⟨k, hk, rfl, rfl, hbl⟩ := hrel
    have hsz := hbl.size
    have hps : p4.length ≤ 400 := by rw [← Ae]; exact hz4
    by_cases hlt : k < ss.length
    · obtain ⟨b, off, rfl, hc⟩ := (HRD.out.later (Nat.le_refl _) hbl) k (.string (str ss[k])) (by simp [AM, hlt])
      have htl := hss ss[k] (List.getElem_mem hlt)
      have hl0 : (str (p4 ++ Bi ((ss.take k).map AC))).size ≤ 4000 := by
        rw [Ae, List.length_append, CV, List.length_map, List.length_take]
        omega
      have e1 : str (p4 ++ Bi ((ss.take k).map AC)) ++ str (Af (AC ss[k]) 8) = str (p4 ++ Bi ((ss.take (k + 1)).map AC)) := by
        rw [KE, Ap ss k hlt, List.map_append, List.map_cons, List.map_nil, Fl, List.append_assoc]
      have hl8 : (str (Af (AC ss[k]) 8)).size = 8 := by rw [Ae, Ao]
      have H1 := Aa (fun W => DS ss[k] (by omega) W)
      have H2 := Aa (fun W => Br 8 (AC ss[k]) W (by omega) (Fy _))
      obtain ⟨t, ht⟩ : ∃ x, x = ss[k] := ⟨_, rfl⟩
      rw [← ht] at hc htl e1 hl8 H1 H2
      obtain ⟨hv, hhv⟩ : ∃ x, x = AC t := ⟨_, rfl⟩
      rw [← hhv] at e1 hl8 H1 H2
      have E1 := Aa e1
      obtain ⟨s0, hs0⟩ : ∃ x, x = p4 ++ Bi ((ss.take k).map AC) := ⟨_, rfl⟩
      rw [← hs0] at E1 hl0 ⊢
      have HB := Aa hbl
      clear ht hhv hs0 e1 hbl
      go_wp2_with fail
      refine (H1.out wr).mono ?_
      rintro e w3 ⟨rfl, rfl⟩
      go_wp2_with fail
      refine (H2.out _).mono ?_
      rintro e w3 ⟨rfl, hb3⟩
      go_wp2_with fail
      exact ⟨⟨k + 1, by omega, by rw [E1.out], by go_num, HB.out.trans (hb3.mono hsz)⟩, by simp [intOf]; omega⟩
    · obtain rfl : k = ss.length := by omega
      have hfin : p4 ++ Bi ((ss.take ss.length).map AC) = Co i name data (C8 data size) := by
        rw [List.take_length, HH.out, HSE.out]
        rfl
      have HFIN := Aa hfin
      have HBL := Aa hbl
      clear hfin hbl
      obtain ⟨s0, hs0⟩ : ∃ x, x = p4 ++ Bi ((ss.take ss.length).map AC) := ⟨_, rfl⟩
      rw [← hs0] at HFIN ⊢
      clear hs0
      go_wp2_with fail
      go_ret
      refine ⟨?_, HB2.out.trans (HBL.out.mono hsz2)⟩
      rw [← HFIN.out]
      rfl
theorem Io {P : Program} {ops : Array Oper} {o : Oper} {a : Act} {w : World} {K : Act → World → Prop} {Q : Exit → Act → World → Prop} {E : Prop}
  (hg : o.guard = none) (s x : Operand) (t : TypeId) (hop : o.op = Op.call { callee := Callee.builtin Builtin.append, args := #[s, x], argTypes := #[t, t] })
  (base : Nat) (e : TypeId) (i : TypeInfo) (z : Value) (size bytes : Nat) (h1 : P.underlying t = some (.slice e)) (h2 : P.info? e = some i) (h3 : i.zero = some z) (h4 : i.size = size) (h5 : i.bytes = bytes) (h6 : z.cells.size = size) (h7 : 0 < size)
  (v : Value) (n : Nat) (xs : List Value) (hs : a.eval s = v) (hown : w.ownsRow base e size v n xs)
  (ad : Addr) (m c : Nat) (news : List Value) (hx : a.eval x = .slice (some ad) m c) (hl : news.length = m * size) (hnews : ∀ j u, news[j]? = some u → w.cell? (ad.add j) = some u) (h1c : ∀ u ∈ news, u.oneCell' = true)
  (h63 : n + m ≤ maxLen) (hbytes : (n + m) * bytes ≤ 140737488355328) (hbase : base ≤ w.heap.size)
  (hK : ∀ v' w', w'.ownsRow base e size v' (n + m) (xs ++ news) → w.grownBy w' v.ownBlock → K (a.put o.dst v') w') :
  if Region.wanted o (yielded ops a.tmps) = true then Oper.wp P o a w K Q else E := by
 have hw : Region.wanted o (yielded ops a.tmps) = true := by simp [Region.wanted, hg]
 rw [if_pos hw]
 exact wp_append_own w s x t hop base e i z size bytes h1 h2 h3 h4 h5 h6 h7 v n xs hs hown ad m c news hx hl hnews h1c h63 hbytes hbase (fun v' w' a b _ => hK v' w' a b)
theorem P8 (l : List UInt8) (k : Nat) :
  IntKind.u16.wrap (IntKind.u16.wrap (IntKind.u16.wrap ((l[2 * k]?.getD 0).toNat : Int) * 256) + IntKind.u16.wrap ((l[2 * k + 1]?.getD 0).toNat : Int)) = ((E7 l k : Nat) : Int) := by
 have h1 := (l[2 * k]?.getD 0).toNat_lt
 have h2 := (l[2 * k + 1]?.getD 0).toNat_lt
 unfold E7
 generalize (l[2 * k]?.getD 0).toNat = a at *
 generalize (l[2 * k + 1]?.getD 0).toNat = b at *
 rw [IntKind.wrap_u16, IntKind.wrap_u16, IntKind.wrap_u16, IntKind.wrap_u16]
 omega
theorem Pn (W : World) (x : Value) (t : TypeId) : ∀ (j : Nat) (u : Value), [x][j]? = some u → (W.alloc (.cells #[x] t)).drew.cell? ((⟨W.heap.size, 0, none⟩ : Addr).add j) = some u := by
 intro j u h
 exact cell_one_new W x t j u h
theorem It (l : List UInt8) (hl : l.length ≤ 1000) (w : World) :
  Calls Tryz.prog 71 #[.string (str l)] w fun e w' => ∃ v', e = .returned v' ∧ w'.ownsRow w.heap.size 80 1 v' (l.length / 2) (A9 (C7 l)) ∧ Below w.heap.size w w' := by
 obtain ⟨i0, hi, hz0, hz1, hz2⟩ := info_parts Tryz.info16
 have hss : (str l).size = l.length := Ae l
 obtain ⟨n, hn⟩ : ∃ n, n = l.length / 2 := ⟨_, rfl⟩
 have hn2 : 2 * n ≤ l.length := by omega
 have hn3 : l.length < 2 * n + 2 := by omega
 rw [← hn]
 have hrl : (C7 l).length = n := by rw [BK, hn]
 clear hn
 go_enter Tryz.func71, Tryz.ntmps71
 go_wp2_with fail
 go_loopw [3, 4] (fun v i wr => ∃ k : Nat, k ≤ n ∧ i = .int .i64 ((2 * k : Nat) : Int) ∧ wr.ownsRow w.heap.size 80 1 v k (A9 ((C7 l).take k)) ∧ Below w.heap.size w wr)
  (fun _ i _ => l.length - (intOf i).toNat)
 case atStart => exact ⟨0, by omega, rfl, World.ownsRow_nil _ _ _ _, Below.refl _ _⟩
 case round =>
  obtain ⟨k, hk, rfl, hownr, hbl⟩ := hrel
  have hsz := hbl.size
  by_cases hlt : k < n
  ·have ix1 := CA l (2 * k) ((2 * k : Nat) : Int) rfl (by omega)
   have ix2 := CA l (2 * k + 1) (((2 * k : Nat) : Int) + 1) (by omega) (by omega)
   have wi : IntKind.i64.wrap (((2 * k : Nat) : Int) + 1) = ((2 * k : Nat) : Int) + 1 := by rw [IntKind.wrap_i64]; omega
   have hnum := P8 l k
   have htk : A9 ((C7 l).take (k + 1)) = A9 ((C7 l).take k) ++ [.int .u16 ((E7 l k : Nat) : Int)] := by
    rw [Ap _ k (by omega)]
    simp [A9, C7]
   obtain ⟨x, hx⟩ : ∃ x, x = E7 l k := ⟨_, rfl⟩
   rw [← hx] at hnum htk
   obtain ⟨i', hi'⟩ : ∃ i', i' = 2 * k := ⟨_, rfl⟩
   rw [← hi'] at ix1 ix2 wi hnum ⊢
   have hil : i' + 1 < l.length := by omega
   have HI := Aa hi'
   obtain ⟨b1, hb1⟩ : ∃ b, b = (l[i']?.getD 0) := ⟨_, rfl⟩
   obtain ⟨b2, hb2⟩ : ∃ b, b = (l[i' + 1]?.getD 0) := ⟨_, rfl⟩
   rw [← hb1] at ix1
   rw [← hb1, ← hb2] at hnum
   rw [← hb2] at ix2
   have HT := Aa htk
   have HO := Aa hownr
   have HB := Aa hbl
   clear hb1 hb2 hi' hx htk hownr hbl
   go_wp2_with fail
   go_region_law (refine Io rfl (.tmp 12) (.tmp 24) 121 rfl w.heap.size 80 i0 (.int .u16 0) 1 2 Tryz.underlying121 hi hz0 hz1 hz2 rfl (by decide) _ _ _ rfl (HO.out.alloc _) ⟨wr.heap.size, 0, none⟩ 1 1 [.int .u16 (x : Int)] (by simp [Act.eval]) rfl (Pn _ _ _) (by intro u hu; simp at hu; subst hu; rfl) (by unfold maxLen; omega) (by omega) (by simp; omega) ?_; intro v2 w2 hown2 hg2)
   all_goals go_wp2_with fail
   all_goals
    have hbl2 : Below w.heap.size w w2 := Below.grown (by first | exact (HB.out.alloc hsz _).drew | exact HB.out.drew.alloc hsz _) hg2 (by simp; omega) (fun k hk => (HO.out.lt k hk).1)
    refine ⟨⟨k + 1, by omega, by rw [HI.out]; go_num, ?_, hbl2⟩, by simp [intOf]; omega⟩
    rw [HT.out]
    exact hown2
  ·obtain rfl : k = n := by omega
   rw [List.take_of_length_le (by omega)] at hownr
   go_wp2_with fail
   go_ret
   exact ⟨_, rfl, hownr, hbl⟩
end Go.Proofs.YtonjphollmdicaaGreatDoor
namespace Go.Proofs.YtonjphollmdicaaGreatDoor.Math
def F : Type := { a : Nat // a < 65536 }
namespace F
def ofNat (n : Nat) : F := ⟨n % 65536, Nat.mod_lt _ (by decide)⟩
instance : Add F := ⟨fun x y => ⟨x.1 ^^^ y.1, Nat.xor_lt_two_pow (n := 16) x.2 y.2⟩⟩
instance : Mul F := ⟨fun x y => ⟨mul x.1 y.1, mul_lt x.2 y.1⟩⟩
def zero : F := ⟨0, by decide⟩
def one : F := ⟨1, by decide⟩
def inv (x : F) : F := ⟨Math.inv x.1, inv_lt x.2⟩
theorem ext {x y : F} (h : x.1 = y.1) : x = y := Subtype.ext h
theorem val_add (x y : F) : (x + y).1 = x.1 ^^^ y.1 := rfl
theorem val_inv (x : F) : (inv x).1 = Math.inv x.1 := rfl
theorem val_mul (x y : F) : (x * y).1 = mul x.1 y.1 := rfl
theorem add_comm (x y : F) : x + y = y + x := ext (Nat.xor_comm _ _)
theorem add_assoc (x y z : F) : x + y + z = x + (y + z) := ext (Nat.xor_assoc _ _ _)
theorem add_self (x : F) : x + x = zero := ext (Nat.xor_self _)
theorem add_zero (x : F) : x + zero = x := ext (Nat.xor_zero _)
theorem zero_add (x : F) : zero + x = x := ext (Nat.zero_xor _)
theorem mul_comm (x y : F) : x * y = y * x := ext (Math.mul_comm x.2 y.2)
theorem mul_assoc (x y z : F) : x * y * z = x * (y * z) := ext (Math.mul_assoc x.2 y.2)
theorem mul_one (x : F) : x * one = x := ext (Math.mul_one x.2)
theorem one_mul (x : F) : one * x = x := ext (Math.one_mul x.2)
theorem mul_zero (x : F) : x * zero = zero := ext (Math.mul_zero _)
theorem zero_mul (x : F) : zero * x = zero := ext (Math.zero_mul _)
theorem mul_add (x y z : F) : x * (y + z) = x * y + x * z := ext (CG _ _ _)
theorem add_mul (x y z : F) : (x + y) * z = x * z + y * z := ext (Cc _ _ _)
theorem ML {x : F} (h : x ≠ zero) : x.1 ≠ 0 := fun e => h (ext e)
theorem mul_inv {x : F} (h : x ≠ zero) : x * inv x = one := ext (Math.mul_inv x.2 (ML h))
theorem mul_eq_zero {x y : F} (h : x * y = zero) : x = zero ∨ y = zero := by
  by_cases hx : x = zero
  · exact Or.inl hx
  · by_cases hy : y = zero
    · exact Or.inr hy
    · exact absurd (congrArg Subtype.val h) ((MH x.2 y.2).2 ⟨ML hx, ML hy⟩)
instance : Std.Associative (α := F) (· + ·) := ⟨add_assoc⟩
instance : Std.Commutative (α := F) (· + ·) := ⟨add_comm⟩
instance : Std.Associative (α := F) (· * ·) := ⟨mul_assoc⟩
instance : Std.Commutative (α := F) (· * ·) := ⟨mul_comm⟩
theorem eq_of_add {x y : F} (h : x + y = zero) : x = y := by
  have : x + y + y = zero + y := by rw [h]
  rw [add_assoc, add_self, add_zero, zero_add] at this
  exact this
end F
open F
def ev : List F → F → F
  | [], _ => zero
  | c :: cs, t => c + t * ev cs t
def GG (a : F) : List F → List F
  | [] => []
  | [_] => []
  | _ :: d :: cs => ev (d :: cs) a :: GG a (d :: cs)
theorem He (a : F) : ∀ cs : List F, (GG a cs).length = cs.length - 1
  | [] => rfl
  | [_] => rfl
  | _ :: d :: cs => by
    have := He a (d :: cs)
    simp only [GG, List.length_cons] at this ⊢
    omega
theorem NA (a t : F) : ∀ cs : List F, ev cs t = ev cs a + (t + a) * ev (GG a cs) t
  | [] => by simp only [ev, GG, F.mul_zero, F.add_zero]
  | [c] => by simp only [ev, GG, F.mul_zero, F.add_zero]
  | c :: d :: cs => by
    have ih := NA a t (d :: cs)
    have e1 : ev (c :: d :: cs) t = c + t * ev (d :: cs) t := rfl
    have e2 : ev (c :: d :: cs) a = c + a * ev (d :: cs) a := rfl
    have e3 : ev (GG a (c :: d :: cs)) t = ev (d :: cs) a + t * ev (GG a (d :: cs)) t := rfl
    rw [e1, e2, e3, ih]
    generalize ev (d :: cs) a = u
    generalize ev (GG a (d :: cs)) t = q
    simp only [F.mul_add, F.add_mul]
    have h1 : c + a * u + (t * u + a * u + (t * (t * q) + a * (t * q))) = c + (t * u + (t * (t * q) + a * (t * q))) + (a * u + a * u) := by ac_rfl
    rw [h1, F.add_self, F.add_zero]
    have h2 : t * (a * q) = a * (t * q) := by ac_rfl
    rw [h2]
theorem JC (a : F) : ∀ cs : List F, ev cs a = zero → (∀ x ∈ GG a cs, x = zero) → ∀ x ∈ cs, x = zero
  | [], _, _ => by intro x hx; cases hx
  | [c], h, _ => by
    intro x hx
    simp only [List.mem_singleton] at hx
    subst hx
    simpa only [ev, F.mul_zero, F.add_zero] using h
  | c :: d :: cs, h, hq => by
    have h1 : ev (d :: cs) a = zero := hq _ (by simp [GG])
    have h2 := JC a (d :: cs) h1 (fun x hx => hq x (by simp only [GG, List.mem_cons]; exact Or.inr hx))
    intro x hx
    rcases List.mem_cons.1 hx with rfl | hx
    · have e2 : ev (x :: d :: cs) a = x + a * ev (d :: cs) a := rfl
      rw [e2, h1, F.mul_zero, F.add_zero] at h
      exact h
    · exact h2 x hx
theorem GM : ∀ (rs cs : List F), rs.Nodup → cs.length ≤ rs.length → (∀ r ∈ rs, ev cs r = zero) → ∀ x ∈ cs, x = zero
  | [], cs, _, hl, _ => by
    have : cs = [] := List.eq_nil_of_length_eq_zero (by simpa using hl)
    subst this
    intro x hx; cases hx
  | a :: rs, cs, hn, hl, hr => by
    have hn' := List.nodup_cons.1 hn
    refine JC a cs (hr a (by simp)) (GM rs (GG a cs) hn'.2 (by rw [He]; simp at hl; omega) ?_)
    intro r hrm
    have h1 := NA a r cs
    rw [hr r (List.mem_cons_of_mem _ hrm), hr a (by simp), F.zero_add] at h1
    rcases F.mul_eq_zero h1.symm with h2 | h2
    · have := F.eq_of_add h2
      subst this
      exact absurd hrm hn'.1
    · exact h2
theorem Ml : ∀ (cs : List F), (∀ x ∈ cs, x = zero) → ∀ t, ev cs t = zero
  | [], _, _ => rfl
  | c :: cs, h, t => by
    have e : ev (c :: cs) t = c + t * ev cs t := rfl
    rw [e, Ml cs (fun x hx => h x (List.mem_cons_of_mem _ hx)) t, F.mul_zero, F.add_zero]
    exact h c (by simp)
def QV (p q : List F) : List F := List.zipWith (· + ·) p q
theorem Lb : ∀ (p q : List F), p.length = q.length → ∀ t, ev (QV p q) t = ev p t + ev q t
  | [], [], _, t => by simp only [QV, List.zipWith_nil_left, ev, F.add_zero]
  | a :: p, b :: q, h, t => by
    have ih := Lb p q (by simpa using h) t
    have e : ev (QV (a :: p) (b :: q)) t = (a + b) + t * ev (QV p q) t := rfl
    have e1 : ev (a :: p) t = a + t * ev p t := rfl
    have e2 : ev (b :: q) t = b + t * ev q t := rfl
    rw [e, e1, e2, ih, F.mul_add]
    ac_rfl
theorem FW (p q : List F) (h : p.length = q.length) : (QV p q).length = q.length := by simp [QV, h]
def Eb (s : F) (p : List F) : List F := p.map (s * ·)
theorem KC (s t : F) : ∀ p : List F, ev (Eb s p) t = s * ev p t
  | [] => by simp only [Eb, List.map_nil, ev, F.mul_zero]
  | a :: p => by
    have ih := KC s t p
    have e : ev (Eb s (a :: p)) t = s * a + t * ev (Eb s p) t := rfl
    have e1 : ev (a :: p) t = a + t * ev p t := rfl
    rw [e, e1, ih, F.mul_add]
    congr 1
    ac_rfl
theorem Ka (s : F) (p : List F) : (Eb s p).length = p.length := by simp [Eb]
theorem Pg (t : F) : ∀ p : List F, ev (p ++ [zero]) t = ev p t
  | [] => by simp only [List.nil_append, ev, F.mul_zero, F.add_zero]
  | a :: p => by
    have ih := Pg t p
    have e : ev (a :: p ++ [zero]) t = a + t * ev (p ++ [zero]) t := rfl
    rw [e, ih]
    rfl
def KM (a : F) (p : List F) : List F := QV (zero :: p) (Eb a (p ++ [zero]))
theorem Pw (a t : F) (p : List F) : ev (KM a p) t = (t + a) * ev p t := by
  unfold KM
  rw [Lb _ _ (by simp [Eb]), KC, Pg, F.add_mul]
  congr 1
  exact F.zero_add _
theorem Kn (a : F) (p : List F) : (KM a p).length = p.length + 1 := by
  unfold KM
  rw [FW _ _ (by simp [Eb])]
  simp [Eb]
def FB (f : Nat → F) : Nat → F
  | 0 => zero
  | n + 1 => FB f n + f n
def CX (f : Nat → F) : Nat → F
  | 0 => F.one
  | n + 1 => CX f n * f n
theorem BH {f g : Nat → F} : ∀ n, (∀ i, i < n → f i = g i) → FB f n = FB g n
  | 0, _ => rfl
  | n + 1, h => by simp only [FB]; rw [BH n (fun i hi => h i (by omega)), h n (by omega)]
theorem IP {f : Nat → F} : ∀ n, (∀ i, i < n → f i = zero) → FB f n = zero
  | 0, _ => rfl
  | n + 1, h => by simp only [FB]; rw [IP n (fun i hi => h i (by omega)), h n (by omega), F.add_zero]
theorem DW {f : Nat → F} (m : Nat) : ∀ n, m < n → (∀ i, i < n → i ≠ m → f i = zero) → FB f n = f m
  | 0, h, _ => by omega
  | n + 1, h, hz => by
    simp only [FB]
    by_cases e : m = n
    · subst e
      rw [IP m (fun i hi => hz i (by omega) (by omega)), F.zero_add]
    · rw [DW m n (by omega) (fun i hi hne => hz i (by omega) hne), hz n (by omega) (by omega), F.add_zero]
theorem JM {f : Nat → F} (m : Nat) : ∀ n, m < n → f m = zero → CX f n = zero
  | 0, h, _ => by omega
  | n + 1, h, hz => by
    simp only [CX]
    by_cases e : m = n
    · subst e; rw [hz, F.mul_zero]
    · rw [JM m n (by omega) hz, F.zero_mul]
theorem Nh {f : Nat → F} : ∀ n, (∀ i, i < n → f i ≠ zero) → CX f n ≠ zero
  | 0, _ => fun h => absurd (congrArg Subtype.val h) (show ¬ (1 : Nat) = 0 from by decide)
  | n + 1, h => fun e => by
    simp only [CX] at e
    rcases F.mul_eq_zero e with e | e
    · exact Nh n (fun i hi => h i (by omega)) e
    · exact h n (by omega) e
def F6 (p : Nat → F) (i : Nat) (t : F) (j : Nat) : F := if j = i then F.one else t + p j
def lp (p : Nat → F) (i : Nat) : Nat → List F
  | 0 => [F.one]
  | n + 1 => if n = i then lp p i n else KM (p n) (lp p i n)
theorem Sq (p : Nat → F) (i : Nat) (t : F) : ∀ n, ev (lp p i n) t = CX (F6 p i t) n
  | 0 => by simp only [lp, CX, ev, F.mul_zero, F.add_zero]
  | n + 1 => by
    simp only [lp, CX, F6]
    split
    · rw [Sq p i t n, F.mul_one]
      try rfl
    · rw [Pw, Sq p i t n, F.mul_comm]
      try rfl
theorem IS (p : Nat → F) (i : Nat) : ∀ n, (lp p i n).length = if i < n then n else n + 1
  | 0 => by simp [lp]
  | n + 1 => by
    simp only [lp]
    split
    · rename_i e; subst e; rw [IS p n n]; simp
    · rw [Kn, IS p i n]
      by_cases h : i < n
      · rw [if_pos h, if_pos (by omega)]
      · rw [if_neg h, if_neg (by omega)]
def Rc (K : Nat) (f : Nat → List F) : Nat → List F
  | 0 => List.replicate K zero
  | n + 1 => QV (Rc K f n) (f n)
theorem Gb (K : Nat) (f : Nat → List F) : ∀ n, (∀ i, i < n → (f i).length = K) → (Rc K f n).length = K
  | 0, _ => by simp [Rc]
  | n + 1, h => by
    simp only [Rc]
    rw [FW _ _ (by rw [Gb K f n (fun i hi => h i (by omega)), h n (by omega)]), h n (by omega)]
theorem Qi (K : Nat) (f : Nat → List F) (t : F) : ∀ n, (∀ i, i < n → (f i).length = K) → ev (Rc K f n) t = FB (fun i => ev (f i) t) n
  | 0, _ => Ml _ (by intro x hx; exact (List.mem_replicate.1 hx).2) t
  | n + 1, h => by
    simp only [Rc, FB]
    rw [Lb _ _ (by rw [Gb K f n (fun i hi => h i (by omega)), h n (by omega)]), Qi K f t n (fun i hi => h i (by omega))]
theorem QX (K : Nat) (p : Nat → F) (hp : ∀ i j, i < K → j < K → p i = p j → i = j) (cs : List F) (hcs : cs.length = K) (t : F) :
    ev cs t = FB (fun i => (F.inv (CX (F6 p i (p i)) K) * CX (F6 p i t) K) * ev cs (p i)) K := by
  have hd : ∀ i, i < K → CX (F6 p i (p i)) K ≠ zero := by
    intro i hi
    refine Nh K (fun j hj => ?_)
    unfold F6
    split
    · exact fun h => absurd (congrArg Subtype.val h) (by decide)
    · intro h
      exact absurd (hp i j hi hj (F.eq_of_add h)) (by omega)
  have hlen : ∀ i, i < K → (Eb (ev cs (p i) * F.inv (CX (F6 p i (p i)) K)) (lp p i K)).length = K := by
    intro i hi
    rw [Ka, IS, if_pos hi]
  have hL : (Rc K (fun i => Eb (ev cs (p i) * F.inv (CX (F6 p i (p i)) K)) (lp p i K)) K).length = K := Gb K _ K hlen
  have hev : ∀ u, ev (Rc K (fun i => Eb (ev cs (p i) * F.inv (CX (F6 p i (p i)) K)) (lp p i K)) K) u = FB (fun i => (ev cs (p i) * F.inv (CX (F6 p i (p i)) K)) * CX (F6 p i u) K) K := by
    intro u
    rw [Qi K _ u K hlen]
    exact BH K (fun i _ => by rw [KC, Sq])
  have hz := GM ((List.range K).map p) (QV cs (Rc K (fun i => Eb (ev cs (p i) * F.inv (CX (F6 p i (p i)) K)) (lp p i K)) K)) (by
      rw [List.nodup_iff_pairwise_ne, List.pairwise_map]
      refine List.Pairwise.imp_of_mem ?_ (List.nodup_range (n := K))
      intro a b ha hb hab e
      exact hab (hp a b (by simpa using ha) (by simpa using hb) e)) (by rw [FW _ _ (by rw [hcs, hL]), hL]; simp) (by
      intro r hr
      obtain ⟨m, hm, rfl⟩ := List.mem_map.1 hr
      have hm' : m < K := by simpa using hm
      rw [Lb _ _ (by rw [hcs, hL]), hev, DW m K hm' (by
        intro i hi hne
        rw [JM (f := F6 p i (p m)) m K hm' (by unfold F6; rw [if_neg (fun e => hne e.symm), F.add_self]), F.mul_zero])]
      rw [F.mul_assoc, F.mul_comm (F.inv _), F.mul_inv (hd m hm'), F.mul_one, F.add_self])
  have h0 := Ml _ hz t
  rw [Lb _ _ (by rw [hcs, hL]), hev] at h0
  rw [F.eq_of_add h0]
  exact BH K (fun i _ => by ac_rfl)
end Go.Proofs.YtonjphollmdicaaGreatDoor.Math
