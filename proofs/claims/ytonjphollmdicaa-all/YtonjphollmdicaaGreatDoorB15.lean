import Derived.Test.YtonjphollmdicaaGreatDoorB14
set_option maxRecDepth 100000
set_option maxHeartbeats 4000000
set_option linter.unusedSimpArgs false
namespace Go.Proofs.YtonjphollmdicaaGreatDoor
open Go.ChangeShapes Go.WideShapes Go.ChangeAt Go.RowKit Math
theorem Tryz.infoI : (Tryz.prog.info? 3).map (fun i => (i.zero, i.size, i.bytes)) = some (some (.int .i64 0), 1, 8) := by kernel_rfl
theorem MU (size : Nat) (fs : List Ak) (h0 : 0 < size) : ∀ t ∈ Ca size fs, t.length = size := by
 intro t ht
 simp only [Ca, List.mem_flatMap] at ht
 obtain ⟨f, _, ht⟩ := ht
 exact (CJ f.2 size h0).2 t ht
theorem OwnRowsU.nil (W : World) (B : Nat) : OwnRowsU W B (.slice none 0 0) [] := ⟨[], World.ownsRow_nil _ _ _ _, fun j r h => by simp at h⟩
theorem OT (k : Nat) : NB (List.range (k + 1)) = NB (List.range k) ++ [.int .i64 (k : Int)] := by simp [NB, List.range_succ]
theorem MY (fs : List Ak) (b x : Int) (a : Option Addr) (cap : Nat) (h : Fg b x = true) (w : World) :
  Calls Tryz.prog 38 #[.slice a fs.length cap, .int .i64 b, .int .i64 x] w fun e w' => e = .returned (.tuple #[.slice none 0 0, .int .i64 1]) ∧ Below w.heap.size w w' := by
 by_cases h1 : Ay b = true
 ·by_cases h2 : x < 0
  ·go_enter Tryz.func38, Tryz.ntmps38
   go_wp2_with (go_at_call 65; refine (Do b w).mono ?_; rintro e w' ⟨rfl, rfl⟩)
   go_ret2
   exact ⟨rfl, Below.refl _ _⟩
  ·have h3 : 20 < x := by
    unfold Fg at h
    simp [h1] at h
    omega
   go_enter Tryz.func38, Tryz.ntmps38
   go_wp2_with (go_at_call 65; refine (Do b w).mono ?_; rintro e w' ⟨rfl, rfl⟩)
   go_ret2
   exact ⟨rfl, Below.refl _ _⟩
 ·have h1' : Ay b = false := by simpa using h1
  clear h1
  go_enter Tryz.func38, Tryz.ntmps38
  go_wp2_with (go_at_call 65; refine (Do b w).mono ?_; rintro e w' ⟨rfl, rfl⟩)
  go_ret2
  exact ⟨rfl, Below.refl _ _⟩
theorem Lh (fs : List Ak) (b x : Int) (size extra : Nat) (a : Option Addr) (cap : Nat) (hb : b = (size : Int)) (hx : x = (extra : Int)) (h0 : 0 < size) (h32 : size ≤ 32) (hex : extra ≤ 20) (hss : Ay b = true) (h : CO fs size = false) (w : World) (hh : Handed w fs a cap) :
  Calls Tryz.prog 38 #[.slice a fs.length cap, .int .i64 b, .int .i64 x] w fun e w' => e = .returned (.tuple #[.slice none 0 0, .int .i64 2]) ∧ Below w.heap.size w w' := by
 have e1 : ¬ x < 0 := by omega
 have e2 : ¬ 20 < x := by omega
 have HB := Aa hb
 have HX := Aa hx
 clear hb hx
 by_cases h1 : Cm fs = true
 ·obtain ⟨hn1, hn2, hf⟩ := Eu h1
  have hC := fun W (hW : Below w.heap.size w W) => Lr fs size a cap h0 h32 hn2 (fun f hm => (hf f hm).2) W (hh.rd.later (Nat.le_refl _) hW)
  rw [← HB.out] at hC
  have HC := Aa hC
  have HH := Aa hh
  clear hC hf
  have hcnt : BM fs size < 1 ∨ 60 < BM fs size := by
   unfold CO at h
   simp [h1] at h
   omega
  obtain ⟨c, hc⟩ : ∃ c, c = BM fs size := ⟨_, rfl⟩
  rw [← hc] at hcnt HC
  clear hc h
  go_enter Tryz.func38, Tryz.ntmps38
  go_wp2_with fail
  refine (Do b w).mono ?_
  rintro e w' ⟨rfl, rfl⟩
  go_wp2_with fail
  refine (IX fs a cap HH.out.short _ HH.out.rd).mono ?_
  rintro e w1 ⟨rfl, hb1⟩
  go_wp2_with fail
  refine (HC.out w1 hb1).mono ?_
  rintro e w2 ⟨v2, rfl, hown2, hb2⟩
  obtain ⟨al, cl, rfl, _, _, _⟩ := Aw hown2
  have hfin := Aa (Below.next hb1 hb2)
  clear hown2 hb1 hb2
  rcases hcnt with h2 | h2
  ·go_wp2_with fail
   go_ret2
   exact ⟨rfl, hfin.out⟩
  ·go_wp2_with fail
   go_ret2
   exact ⟨rfl, hfin.out⟩
 ·have h1' : Cm fs = false := by simpa using h1
  have HH := Aa hh
  clear h1 h hh
  go_enter Tryz.func38, Tryz.ntmps38
  go_wp2_with fail
  refine (Do b w).mono ?_
  rintro e w' ⟨rfl, rfl⟩
  go_wp2_with fail
  refine (IX fs a cap HH.out.short _ HH.out.rd).mono ?_
  rintro e w1 ⟨rfl, hb1⟩
  go_wp2_with fail
  go_ret2
  exact ⟨rfl, hb1⟩
theorem Ov (fs : List Ak) (b x : Int) (size extra : Nat) (a : Option Addr) (cap : Nat) (hb : b = (size : Int)) (hx : x = (extra : Int)) (h0 : 0 < size) (h32 : size ≤ 32) (heven : size % 2 = 0) (hex : extra ≤ 20) (hss : Ay b = true) (h : CO fs size = true) (w : World) (hh : Handed w fs a cap) :
  Calls Tryz.prog 38 #[.slice a fs.length cap, .int .i64 b, .int .i64 x] w fun e w' => ∃ v, e = .returned (.tuple #[v, .int .i64 0]) ∧ w'.ownsRow w.heap.size 9 1 v (1 + fs.length + extra) (AM (Ck size fs extra)) ∧ Below w.heap.size w w' := by
 obtain ⟨i0, hi, hz0, hz1, hz2⟩ := info_parts Tryz.infoS
 obtain ⟨j0, hj, hy0, hy1, hy2⟩ := info_parts Tryz.infoU16s
 obtain ⟨l0, hl, hx0, hx1, hx2⟩ := info_parts Tryz.infoI
 subst hb hx
 obtain ⟨wd, hwd⟩ : ∃ x, x = size / 2 := ⟨_, rfl⟩
 have hwd0 : 0 < wd := by omega
 have hwd1 : wd ≤ 16 := by omega
 have HWD := Aa hwd
 clear hwd
 unfold CO at h
 rw [Bool.and_eq_true, Bool.and_eq_true] at h
 obtain ⟨⟨h1, h2⟩, h3⟩ := h
 have h2 := of_decide_eq_true h2
 have h3 := of_decide_eq_true h3
 obtain ⟨hn1, hn2, hf⟩ := Eu h1
 have hC := fun W (hW : Below w.heap.size w W) => Lr fs size a cap h0 h32 hn2 (fun f hm => (hf f hm).2) W (hh.rd.later (Nat.le_refl _) hW)
 obtain ⟨c, hc⟩ : ∃ c, c = BM fs size := ⟨_, rfl⟩
 rw [← hc] at h2 h3 hC
 have HCN := Aa hc
 have HC := Aa hC
 have HH := Aa hh
 have HF := Aa hf
 clear hC hh hf hc
 obtain ⟨n, hn⟩ : ∃ n, n = fs.length := ⟨_, rfl⟩
 have HN := Aa hn
 rw [← hn] at HC hn1 hn2 ⊢
 have hset := Aa (IX fs a cap HH.out.short w HH.out.rd)
 rw [← hn] at hset
 clear hn
 go_enter Tryz.func38, Tryz.ntmps38
 go_wp2_with fail
 refine (Do (size : Int) w).mono ?_
 rintro e w' ⟨rfl, hw'⟩
 have hw' := hw'.symm
 subst hw'
 go_wp2_with fail
 refine hset.out.mono ?_
 rintro e w1 ⟨rfl, hb1⟩
 have HB1 := Aa hb1
 clear hb1 hset
 go_wp2_with fail
 refine (HC.out w1 HB1.out).mono ?_
 rintro e w2 ⟨v2, rfl, hown2, hb2⟩
 obtain ⟨al, cl, rfl, _, _, hrl⟩ := Aw hown2
 have HL := Aa hrl
 have HB2 := Aa (Below.next HB1.out hb2)
 clear hown2 hb2 HB1 HC hrl
 have ws : IntKind.u64.wrap (size : Int) = (size : Int) := by rw [IntKind.wrap_u64]; omega
 have wn : IntKind.u64.wrap (n : Int) = (n : Int) := by rw [IntKind.wrap_u64]; omega
 have H1 := Aa (fun W => Br 2 size W (by omega) (by unfold P64; omega))
 have H2 := Aa (fun W => Br 1 n W (by omega) (by unfold P64; omega))
 go_wp2_with fail
 refine (H1.out w2).mono ?_
 rintro e w3 ⟨rfl, hb3⟩
 have HB3 := Aa (Below.next HB2.out hb3)
 have HL3 := Aa (HL.out.later (Nat.le_refl _) hb3)
 clear hb3 HB2 HL
 go_wp2_with fail
 refine (H2.out w3).mono ?_
 rintro e w4 ⟨rfl, hb4⟩
 have HB4 := Aa (Below.next HB3.out hb4)
 have HL4 := Aa (HL3.out.later (Nat.le_refl _) hb4)
 clear hb4 HB3 HL3 H1 H2
 obtain ⟨m0, hm0⟩ : ∃ m, m = Af size 2 ++ Af n 1 := ⟨_, rfl⟩
 have em : str (Af size 2) ++ str (Af n 1) = str m0 := by rw [KE, hm0]
 have z1 : (str (Af size 2)).size = 2 := by rw [Ae, Ao]
 have z2 : (str (Af n 1)).size = 1 := by rw [Ae, Ao]
 have HM0 := Aa hm0
 clear hm0
 go_wp2_with fail
 have hbl : (AA size fs).length = n := by simp [AA, HN.out]
 have HBL := Aa hbl
 have hm0l : m0.length = 3 := by rw [HM0.out]; simp [Ao]
 clear hbl em z1 z2
 go_loopw [10, 11, 12, 13] (fun m v i _ wr => ∃ k : Nat, k ≤ n ∧ m = .string (str (m0 ++ Bi (((AA size fs).take k).map AC))) ∧ i = .int .i64 (k : Int) ∧ wr.ownsRow w4.heap.size 9 1 v k (AM ((AA size fs).take k)) ∧ Below w4.heap.size w4 wr)
  (fun _ _ i _ _ => n - (intOf i).toNat)
 case atStart => exact ⟨0, by omega, by simp [Bi], rfl, World.ownsRow_nil _ _ _ _, Below.refl _ _⟩
 case round =>
  obtain ⟨k, hk, rfl, rfl, hownr, hbl⟩ := hrel
  have hsz := hbl.size
  by_cases hlt : k < n
  ·have hbw : Below w.heap.size w wr := HB4.out.trans (hbl.mono HB4.out.size)
   have hkf : k < fs.length := by rw [← HN.out]; exact hlt
   obtain ⟨b0, off0, rfl, hc1, hc2⟩ := Bk HH.out.rd (Nat.le_refl _) hbw k hkf
   obtain ⟨hf1, hf2⟩ := HF.out fs[k] (List.getElem_mem hkf)
   have hlb : k < (AA size fs).length := by rw [HBL.out]; exact hlt
   have hbk : (AA size fs)[k] = Co k fs[k].1 fs[k].2 (C8 fs[k].2 size) := by simp [AA, Kp, hkf]
   have htk := Ap (AA size fs) k hlb
   have hFB := I4 k fs[k] size (by omega) (by omega) hf2 h0 h32 wr
   rw [← hbk] at hFB
   have hbs := Eh size fs h0 HF.out _ (List.getElem_mem hlb)
   obtain ⟨bd, hbd⟩ : ∃ x, x = (AA size fs)[k] := ⟨_, rfl⟩
   rw [← hbd] at hFB htk hbs
   obtain ⟨nm, hnm⟩ : ∃ x, x = fs[k].1 := ⟨_, rfl⟩
   obtain ⟨dt, hdt⟩ : ∃ x, x = fs[k].2 := ⟨_, rfl⟩
   rw [← hnm] at hc1 hFB
   rw [← hdt] at hc2 hFB
   have hpre : (m0 ++ Bi (((AA size fs).take k).map AC)).length ≤ 100 := by
    rw [List.length_append, CV, List.length_map, List.length_take, hm0l]; omega
   have hnext : (m0 ++ Bi (((AA size fs).take k).map AC)) ++ Af (AC bd) 8 = m0 ++ Bi (((AA size fs).take (k + 1)).map AC) := by
    rw [htk]; simp [Bi]
   obtain ⟨mk, hmk⟩ : ∃ x, x = m0 ++ Bi (((AA size fs).take k).map AC) := ⟨_, rfl⟩
   rw [← hmk] at hpre hnext ⊢
   have F1 := Aa hFB
   have F2 := Aa htk
   have F3 := Aa hownr
   have F4 := Aa hbl
   have F5 := Aa hnext
   clear hFB htk hownr hbl hnext hmk hbd hnm hdt hbk hf1 hf2
   go_wp2_with fail
   refine F1.out.mono ?_
   rintro e w5 ⟨rfl, hb5⟩
   have G1 := Aa (Ab F3.out (Nat.le_refl _) hb5)
   have G2 := Aa (F4.out.trans (hb5.mono hsz))
   have hsz5 : w4.heap.size ≤ w5.heap.size := G2.out.size
   clear hb5 F1 F3 F4 hc1 hc2
   go_wp2_with (at_builtin; refine wpList_append_own _ rfl (.tmp 73) (.tmp 75) 23 rfl w4.heap.size 9 i0 (.string ByteArray.empty) 1 16 Tryz.underlying23 hi hz0 hz1 hz2 rfl (by decide) _ _ _ rfl (G1.out.alloc _) ⟨w5.heap.size, 0, none⟩ 1 1 [.string (str bd)] rfl rfl (cell_one_new _ _ _) ?d2 ?d3 ?d4 ?d5 ?_)
   case d2 => intro u hu; simp at hu; subst hu; rfl
   case d3 => unfold maxLen; omega
   case d4 => omega
   case d5 => simp; omega
   intro v6 w6 hown6 hg6 _
   have hb6 := Az G2.out hsz5 G1.out hg6
   have J1 := Aa hown6
   have J2 := Aa hb6
   have hsz6 : w4.heap.size ≤ w6.heap.size := hb6.size
   have hHl := Aa (DS bd (by omega) w6)
   have hlt64 := Fy bd
   clear hown6 hb6 hg6 G1 G2
   go_wp2_with fail
   refine hHl.out.mono ?_
   rintro e w7 ⟨rfl, hw7⟩
   have hw7 := hw7.symm
   subst hw7
   obtain ⟨hv, hhv⟩ : ∃ x, x = AC bd := ⟨_, rfl⟩
   rw [← hhv] at hlt64 F5 ⊢
   clear hhv
   have hBy := Aa (Br 8 hv w6 (by omega) hlt64)
   have z1 : (str mk).size ≤ 100 := by rw [Ae]; exact hpre
   have z2 : (str (Af hv 8)).size = 8 := by rw [Ae, Ao]
   have e12 : str mk ++ str (Af hv 8) = str (mk ++ Af hv 8) := KE _ _
   clear hHl
   go_wp2_with fail
   refine hBy.out.mono ?_
   rintro e w8 ⟨rfl, hb8⟩
   have L1 := Aa (Ab J1.out (Nat.le_refl _) hb8)
   have L2 := Aa (J2.out.trans (hb8.mono hsz6))
   clear hb8 J1 J2 hBy
   go_wp2_with fail
   refine ⟨⟨k + 1, by omega, by first | rw [F5.out] | rfl, by go_num, ?_, L2.out⟩, by simp [intOf]; omega⟩
   rw [F2.out, Cg]
   exact L1.out
  ·obtain rfl : n = k := by omega
   rw [List.take_of_length_le (by rw [HBL.out]; exact Nat.le_refl _)] at hownr ⊢
   obtain ⟨ab, cb, rfl, _, _, hrb⟩ := Aw hownr
   have hmain : m0 ++ Bi ((AA size fs).map AC) = DK size fs := by
    rw [HM0.out, DK, E6, List.length_map, HBL.out]
   rw [hmain]
   have hml := IG size fs
   have M1 := Aa hrb
   have M2 := Aa (HL4.out.later (Nat.le_refl _) hbl)
   have M3 := Aa (HB4.out.trans (hbl.mono HB4.out.size))
   have hHm := Aa (DS (DK size fs) (by rw [hml, ← HN.out]; omega) wr)
   clear hrb hownr hbl HL4 HB4 HM0
   go_wp2_with fail
   refine hHm.out.mono ?_
   rintro e w7 ⟨rfl, hw7⟩
   have hw7 := hw7.symm
   subst hw7
   have hid64 := Fy (DK size fs)
   obtain ⟨id, hid⟩ : ∃ x, x = AC (DK size fs) := ⟨_, rfl⟩
   rw [← hid] at hid64 ⊢
   have HID := Aa hid
   have hPk := Aa (Fr 77 id (DK size fs) hid64 (by rw [hml, ← HN.out]; omega) wr)
   clear hid hHm hmain
   have eM : (⟨#[77]⟩ : ByteArray) = str [77] := rfl
   go_wp2_with fail
   refine hPk.out.mono ?_
   rintro e w8 ⟨rfl, hb8⟩
   have N1 := Aa (M1.out.later (Nat.le_refl _) hb8)
   have N2 := Aa (M2.out.later (Nat.le_refl _) hb8)
   have N3 := Aa (M3.out.trans (hb8.mono M3.out.size))
   have hszw : w.heap.size ≤ w8.heap.size := N3.out.size
   clear hb8 M1 M2 M3 hPk eM
   obtain ⟨pm, hpm⟩ : ∃ x, x = BD 77 id (DK size fs) := ⟨_, rfl⟩
   rw [← hpm]
   have HPM := Aa hpm
   clear hpm
   have hlit : (w8.alloc (.cells #[.string (str pm)] 9)).ownsRow w8.heap.size 9 1 (.slice (some ⟨w8.heap.size, 0, none⟩) 1 1) 1 (AM [pm]) := by
    have := World.ownsRow_lit (base := w8.heap.size) (e := 9) (size := 1) w8 #[.string (str pm)] 1 (Nat.le_refl _) (by unfold maxLen; omega) rfl
    simpa [AM] using this
   have HLIT := Aa hlit
   clear hlit
   go_wp2_with fail
   go_loopw [15, 16, 17] (fun v i _ W => ∃ k : Nat, k ≤ n ∧ i = .int .i64 (k : Int) ∧ W.ownsRow w8.heap.size 9 1 v (1 + k) (AM (pm :: ((AA size fs).map (BD 70 id)).take k)) ∧ Below w8.heap.size w8 W)
    (fun _ i _ _ => n - (intOf i).toNat)
   case atStart => exact ⟨0, by omega, rfl, by simpa using HLIT.out, (Below.refl _ _).alloc (Nat.le_refl _) _⟩
   case round =>
    clear HLIT
    obtain ⟨k, hk, rfl, hownr, hbl⟩ := hrel
    have hsz := hbl.size
    by_cases hlt : k < n
    ·have hlb : k < (AA size fs).length := by rw [HBL.out]; exact hlt
     obtain ⟨bb, offb, rfl, hcb⟩ := (N1.out.later (Nat.le_refl _) hbl) k (.string (str (AA size fs)[k])) (by simp [AM, hlb])
     have hbs := Eh size fs h0 HF.out _ (List.getElem_mem hlb)
     have hPF := Fr 70 id (AA size fs)[k] hid64 (by omega) wr
     have htk : ((AA size fs).map (BD 70 id)).take (k + 1) = ((AA size fs).map (BD 70 id)).take k ++ [BD 70 id (AA size fs)[k]] := by
      rw [Ap _ k (by rw [List.length_map]; exact hlb), List.getElem_map]
     obtain ⟨bd, hbd⟩ : ∃ x, x = (AA size fs)[k] := ⟨_, rfl⟩
     rw [← hbd] at hcb hbs hPF htk
     have F1 := Aa hPF
     have F2 := Aa htk
     have F3 := Aa hownr
     have F4 := Aa hbl
     have eF : (⟨#[70]⟩ : ByteArray) = str [70] := rfl
     clear hPF htk hownr hbl hbd
     go_wp2_with fail
     refine F1.out.mono ?_
     rintro e w9 ⟨rfl, hb9⟩
     have G1 := Aa (Ab F3.out (Nat.le_refl _) hb9)
     have G2 := Aa (F4.out.trans (hb9.mono hsz))
     have hsz9 : w8.heap.size ≤ w9.heap.size := G2.out.size
     clear hb9 F1 F3 F4 hcb eF
     obtain ⟨pf, hpf⟩ : ∃ x, x = BD 70 id bd := ⟨_, rfl⟩
     rw [← hpf] at F2 ⊢
     clear hpf
     go_wp2_with (at_builtin; refine wpList_append_own _ rfl (.tmp 100) (.tmp 102) 23 rfl w8.heap.size 9 i0 (.string ByteArray.empty) 1 16 Tryz.underlying23 hi hz0 hz1 hz2 rfl (by decide) _ _ _ rfl (G1.out.alloc _) ⟨w9.heap.size, 0, none⟩ 1 1 [.string (str pf)] rfl rfl (cell_one_new _ _ _) ?d2 ?d3 ?d4 ?d5 ?_)
     case d2 => intro u hu; simp at hu; subst hu; rfl
     case d3 => unfold maxLen; omega
     case d4 => omega
     case d5 => simp; omega
     intro v6 w6 hown6 hg6 _
     have hb6 := Az G2.out hsz9 G1.out hg6
     have J1 := Aa hown6
     have J2 := Aa hb6
     clear hown6 hb6 hg6 G1 G2
     go_wp2_with fail
     refine ⟨⟨k + 1, by omega, by go_num, ?_, J2.out⟩, by simp [intOf]; omega⟩
     rw [F2.out]
     have e9 : AM (pm :: (((AA size fs).map (BD 70 id)).take k ++ [pf])) = AM (pm :: ((AA size fs).map (BD 70 id)).take k) ++ [.string (str pf)] := by simp [AM]
     rw [e9, ← Nat.add_assoc]
     exact J1.out
    ·obtain rfl : n = k := by omega
     rw [List.take_of_length_le (by rw [List.length_map, HBL.out]; exact Nat.le_refl _)] at hownr
     have P1 := Aa hownr
     have P2 := Aa (N2.out.later (Nat.le_refl _) hbl)
     have P3 := Aa (N3.out.trans (hbl.mono hszw))
     have hszr : w.heap.size ≤ wr.heap.size := P3.out.size
     clear hownr hbl N1 N2 N3
     obtain ⟨w10, rfl⟩ : ∃ w10, w10 = wr := ⟨_, rfl⟩
     have hsl := Mh size fs h0
     rw [← HCN.out] at hsl
     have HSL := Aa hsl
     clear hsl
     go_wp2_with fail
     go_loopw [18, 19, 20] (fun va vr i W => ∃ k : Nat, k ≤ c ∧ i = .int .i64 (k : Int) ∧ W.ownsRow w10.heap.size 3 1 va k (NB (List.range k)) ∧ OwnRowsU W w10.heap.size vr ((BB size fs).take k) ∧ Below w10.heap.size w10 W)
      (fun _ _ i _ => c - (intOf i).toNat)
     case atStart => exact ⟨0, by omega, rfl, World.ownsRow_nil _ _ _ _, OwnRowsU.nil _ _, Below.refl _ _⟩
     case round =>
      obtain ⟨k, hk, rfl, hownr, hrows, hbl⟩ := hrel
      have hsz := hbl.size
      by_cases hlt : k < c
      ·have hlb : k < (Ca size fs).length := by rw [HSL.out]; exact hlt
       obtain ⟨bb, offb, rfl, hcb0⟩ := P2.out k (.string (str (Ca size fs)[k])) (by simp [AM, hlb])
       have htl := MU size fs h0 _ (List.getElem_mem hlb)
       have hrk : (BB size fs).take (k + 1) = (BB size fs).take k ++ [C7 (Ca size fs)[k]] := by
        unfold BB
        rw [Ap _ k (by rw [List.length_map]; exact hlb), List.getElem_map]
       obtain ⟨tx, htx⟩ : ∃ x, x = (Ca size fs)[k] := ⟨_, rfl⟩
       rw [← htx] at hcb0 htl hrk
       have F1 := Aa hownr
       have F2 := Aa hrows
       have F3 := Aa hbl
       have F5 := Aa hrk
       have HCB := Aa hcb0
       clear hownr hrows hbl htx hrk hcb0
       go_wp2_with (at_builtin; refine wpList_append_own _ rfl (.tmp 110) (.tmp 112) 31 rfl w10.heap.size 3 l0 (.int .i64 0) 1 8 Tryz.underlying31 hl hx0 hx1 hx2 rfl (by decide) _ _ _ rfl (F1.out.alloc _) ⟨wr.heap.size, 0, none⟩ 1 1 [.int .i64 (k : Int)] rfl rfl (cell_one_new _ _ _) ?d2 ?d3 ?d4 ?d5 ?_)
       case d2 => intro u hu; simp at hu; subst hu; rfl
       case d3 => unfold maxLen; omega
       case d4 => omega
       case d5 => simp; omega
       intro v11 w11 hown11 hg11 _
       have hb11 := Az F3.out hsz F1.out hg11
       have hrows11 := (F2.out.later ((Below.refl _ _).alloc (Nat.le_refl _) _)).kept (F1.out.alloc _) (by decide) (by decide) hg11
       rw [← OT] at hown11
       have hcb : w11.cell? ⟨bb, offb + k, none⟩ = some (.string (str tx)) := by
        rw [hb11.cell (World.block_lt_of_cell? w10 _ HCB.out)]; exact HCB.out
       have G1 := Aa hown11
       have G2 := Aa hrows11
       have G3 := Aa hb11
       have hsz11 : w10.heap.size ≤ w11.heap.size := hb11.size
       have hRow := Aa (It tx (by omega) w11)
       rw [htl, ← HWD.out] at hRow
       clear hown11 hrows11 hb11 hg11 F1 F2 F3 HCB
       go_wp2_with fail
       refine hRow.out.mono ?_
       rintro e w12 ⟨vr, rfl, hownv, hb12⟩
       have hlr : (C7 tx).length = wd := by rw [BK, htl, HWD.out]
       have J1 := Aa (Ab G1.out (Nat.le_refl _) hb12)
       obtain ⟨vs, q1, q2⟩ := G2.out.later hb12
       have J2 := Aa q1
       have J3 := Aa q2
       have hownv' : w12.ownsRow w10.heap.size 80 1 vr wd (A9 (C7 tx)) := Ad hsz11 hownv
       have HLR := Aa hlr
       have J4 := Aa hownv'
       have J5 := Aa (G3.out.trans (hb12.mono hsz11))
       have hsz12 : w10.heap.size ≤ w12.heap.size := J5.out.size
       have hrl : ((BB size fs).take k).length = k := by
        have := Dn size fs h0
        rw [← HCN.out] at this
        rw [List.length_take]; omega
       rw [hrl] at J2
       clear q1 q2 hownv hownv' hb12 G1 G2 G3 hRow hcb hlr
       have hone : ∀ u ∈ [vr], u.oneCell' = true := by
        intro u hu
        simp at hu
        subst hu
        rcases J4.out.2 with ⟨rfl, _⟩ | ⟨_, _, _, rfl, _⟩ <;> rfl
       have HONE := Aa hone
       clear hone
       obtain ⟨ar, cr, rfl, _, _, _⟩ := Aw J4.out
       go_wp2_with (at_builtin; refine wpList_append_own _ rfl (.tmp 114) (.tmp 120) 120 rfl w10.heap.size 121 j0 (.slice none 0 0) 1 24 Tryz.underlying120 hj hy0 hy1 hy2 rfl (by decide) _ _ _ rfl (J2.out.alloc _) ⟨w12.heap.size, 0, none⟩ 1 1 [.slice ar wd cr] rfl rfl (cell_one_new _ _ _) ?d2 ?d3 ?d4 ?d5 ?_)
       case d2 => exact HONE.out
       case d3 => unfold maxLen; omega
       case d4 => omega
       case d5 => simp; omega
       intro v13 w13 hown13 hg13 _
       have hb13 := Az J5.out hsz12 J2.out hg13
       have hat13 := (J1.out.alloc (.cells #[.slice ar wd cr] 121)).kept hg13 (Bn J1.out J2.out (by decide))
       have hrows13 := OwnRowsU.append (W := w12.alloc (.cells #[.slice ar wd cr] 121)) (rs := (BB size fs).take k) (r := C7 tx) (by rw [hrl]; exact J2.out.alloc _) (fun j r hj => by obtain ⟨u, m1, m2⟩ := J3.out j r hj; exact ⟨u, m1, m2.alloc _⟩) (by rw [HLR.out]; exact J4.out.alloc _) (by rw [hrl]; exact hown13) hg13
       rw [← F5.out] at hrows13
       have L1 := Aa hat13
       have L2 := Aa hrows13
       have L3 := Aa hb13
       clear hown13 hg13 hb13 hat13 hrows13 J1 J2 J3 J4 J5
       go_wp2_with fail
       exact ⟨⟨k + 1, by omega, by go_num, L1.out, L2.out, L3.out⟩, by simp [intOf]; omega⟩
      ·obtain rfl : c = k := by omega
       rw [List.take_of_length_le (by rw [Dn size fs h0, ← HCN.out]; exact Nat.le_refl _)] at hrows
       by_cases hex0 : extra = 0
       ·subst hex0
        have hout := Ab P1.out (Nat.le_refl _) hbl
        have hb9 := P3.out.trans (hbl.mono hszr)
        have Q1 := Aa (Ad hszw hout)
        have Q2 := Aa hb9
        clear hout hb9 hownr hrows hbl
        go_wp2_with fail
        go_ret2
        refine ⟨_, rfl, ?_, Q2.out⟩
        have e9 : AM (Ck size fs 0) = AM (pm :: (AA size fs).map (BD 70 id)) := by
         rw [HPM.out, HID.out]
         simp [Ck, Bg, Ey, MF]
        rw [e9]
        exact Q1.out
       ·have hrc : (BB size fs).length = c := by rw [Dn size fs h0, ← HCN.out]
        have hrok := Nj size fs h0
        rw [← HWD.out] at hrok
        obtain ⟨a1, c1, rfl, _, _, hra⟩ := Aw hownr
        obtain ⟨a2, c2, rfl, hrr⟩ := hrows.rdRows
        rw [hrc]
        have hth := Hi (List.range c) (BB size fs) c wd a1 a2 c1 c2 (by simp) hrc (by omega) (by omega) hrok hwd0 (by omega) (by intro y hy; simp at hy; omega) List.nodup_range wr hra hrr
        have hxi : ¬ (extra : Int) = 0 := by omega
        have Q1 := Aa (Ab P1.out (Nat.le_refl _) hbl)
        have Q2 := Aa (P3.out.trans (hbl.mono hszr))
        have hszr2 : w.heap.size ≤ wr.heap.size := Q2.out.size
        have hszr3 : w8.heap.size ≤ wr.heap.size := by have := hbl.size; omega
        have Q3 := Aa hth
        have Q4 := Aa hrc
        have Q5 := Aa hrok
        clear hth hra hrr hownr hrows hbl hrc hrok P1 P2 P3
        go_wp2_with fail
        refine Q3.out.mono ?_
        rintro e w14 ⟨v14, ys, rfl, hys, hyl, hyok, hb14, hsol⟩
        obtain ⟨ay, cy, rfl, _⟩ := hys.rdRows
        rw [hyl]
        rw [hyl] at hys
        have S1 := Aa (Ab Q1.out (Nat.le_refl _) hb14)
        have S2 := Aa (Q2.out.trans (hb14.mono hszr2))
        have S3 := Aa hys
        have hval : ∀ k, k ≤ 100 → JL ys (c + k) wd = BZ (BB size fs) wd k := by
         intro k hk
         have := MR (BB size fs) ys wd k (by rw [Q4.out]; omega) (by omega) (by rw [hyl, Q4.out]) Q5.out hyok (fun i hi p hp => by
          have := hsol i (by rw [Q4.out] at hi; exact hi) p hp
          rw [show (List.range c).getD i 0 = i from by rw [Q4.out] at hi; simp [hi]] at this
          exact this)
         rw [Q4.out] at this
         exact this
        have S4 := Aa hval
        have S5 := Aa hyok
        have S6 := Aa hyl
        clear hys hyl hyok hb14 hsol hval Q1 Q2 Q3
        go_wp2_with fail
        obtain ⟨w13, rfl⟩ : ∃ x, x = wr := ⟨_, rfl⟩
        go_loopw [15, 22, 23, 24] (fun v j _ _ W => ∃ k : Nat, k ≤ extra ∧ j = .int .i64 (k : Int) ∧ W.ownsRow w8.heap.size 9 1 v (1 + n + k) (AM (pm :: ((AA size fs).map (BD 70 id) ++ (Bg size fs wd extra).take k))) ∧ OwnRowsU W w13.heap.size (.slice ay c cy) ys ∧ Below w.heap.size w W)
         (fun _ j _ _ _ => extra - (intOf j).toNat)
        case atStart => exact ⟨0, by omega, rfl, by simpa using S1.out, S3.out, S2.out⟩
        case round =>
         clear S1 S2 S3
         obtain ⟨k, hk, rfl, hownr, hyr, hbl⟩ := hrel
         have hszk := hbl.size
         by_cases hlt2 : k < extra
         ·obtain ⟨a', c', ee, hrd⟩ := hyr.rdRows
          rw [S6.out] at ee
          cases ee
          have hva := IT ys (c + k) wd ay cy (by rw [S6.out]; omega) (by rw [S6.out]; omega) S5.out hwd0 (by omega) (by omega) wr hrd
          rw [S6.out, S4.out k (by omega)] at hva
          have hR1 := LG (BB size fs) wd k
          have hR2 := FA (BB size fs) wd k
          have hRk : Db size fs wd k = BD 82 id (Af k 2 ++ Cx (BZ (BB size fs) wd k)) := by
           rw [HID.out]; rfl
          have htk : (Bg size fs wd extra).take (k + 1) = (Bg size fs wd extra).take k ++ [Db size fs wd k] := by
           rw [Ap _ k (by simp [Bg]; omega)]
           simp [Bg]
          rw [hRk] at htk
          obtain ⟨xr, hxr⟩ : ∃ x, x = BZ (BB size fs) wd k := ⟨_, rfl⟩
          rw [← hxr] at hva hR1 hR2 htk
          have T1 := Aa hva
          have T2 := Aa hR1
          have T3 := Aa htk
          have T4 := Aa hownr
          have T5 := Aa hyr
          have T6 := Aa hbl
          have HR2 := Aa hR2
          have eck : ((c + k : Nat) : Int) = (c : Int) + (k : Int) := by omega
          rw [eck] at T1
          clear hva hR1 htk hownr hyr hbl hRk hxr hrd hR2 eck
          go_wp2_with fail
          refine T1.out.mono ?_
          rintro e w15 ⟨v15, rfl, hown15, hb15⟩
          obtain ⟨ax, cx, rfl, _, _, hrx⟩ := Aw hown15
          have hsl := Iy xr ax cx (by rw [HR2.out]; omega) T2.out w15 hrx
          rw [HR2.out] at hsl
          have U1 := Aa hsl
          have U4 := Aa (Ab T4.out (Nat.le_refl _) hb15)
          have U5 := Aa (T5.out.later hb15)
          have U6 := Aa (T6.out.trans (hb15.mono hszk))
          have hsz15 : w.heap.size ≤ w15.heap.size := U6.out.size
          clear hsl hown15 hb15 hrx T1 T4 T5 T6
          go_wp2_with fail
          refine U1.out.mono ?_
          rintro e w16 ⟨rfl, hb16⟩
          have V4 := Aa (Ab U4.out (Nat.le_refl _) hb16)
          have V5 := Aa (U5.out.later hb16)
          have V6 := Aa (U6.out.trans (hb16.mono hsz15))
          have hsz16 : w.heap.size ≤ w16.heap.size := V6.out.size
          have hBy := Aa (Br 2 k w16 (by omega) (by unfold P64; omega))
          have wk : IntKind.u64.wrap (k : Int) = (k : Int) := by rw [IntKind.wrap_u64]; omega
          have htl : (Cx xr).length = 2 * wd := by rw [EC, HR2.out]
          obtain ⟨tx, htx⟩ : ∃ x, x = Cx xr := ⟨_, rfl⟩
          rw [← htx] at T3 htl ⊢
          clear hb16 U1 U4 U5 U6 htx
          go_wp2_with fail
          refine hBy.out.mono ?_
          rintro e w17 ⟨rfl, hb17⟩
          have X4 := Aa (Ab V4.out (Nat.le_refl _) hb17)
          have X5 := Aa (V5.out.later hb17)
          have X6 := Aa (V6.out.trans (hb17.mono hsz16))
          have hsz17 : w.heap.size ≤ w17.heap.size := X6.out.size
          have z1 : (str (Af k 2)).size = 2 := by rw [Ae, Ao]
          have z2 : (str tx).size = 2 * wd := by rw [Ae, htl]
          have e12 : str (Af k 2) ++ str tx = str (Af k 2 ++ tx) := KE _ _
          have hbl2 : (Af k 2 ++ tx).length ≤ 60000 := by rw [List.length_append, Ao, htl]; omega
          obtain ⟨bd, hbd⟩ : ∃ x, x = Af k 2 ++ tx := ⟨_, rfl⟩
          rw [← hbd] at e12 hbl2 T3
          have hPR := Aa (Fr 82 id bd hid64 hbl2 w17)
          have eR : (⟨#[82]⟩ : ByteArray) = str [82] := rfl
          clear hb17 V4 V5 V6 hBy hbd
          go_wp2_with fail
          refine hPR.out.mono ?_
          rintro e w18 ⟨rfl, hb18⟩
          have Y4 := Aa (Ab X4.out (Nat.le_refl _) hb18)
          have Y5 := Aa (X5.out.later hb18)
          have Y6 := Aa (X6.out.trans (hb18.mono hsz17))
          have hsz18 : w.heap.size ≤ w18.heap.size := Y6.out.size
          have hsz8 : w8.heap.size ≤ w18.heap.size := by
           rcases Y4.out.2 with ⟨_, h0'⟩ | ⟨gq, _, _, _, hgq, hcq, _⟩
           ·omega
           ·have := (Array.getElem?_eq_some_iff.1 hcq).1
            omega
          obtain ⟨pr, hpr⟩ : ∃ x, x = BD 82 id bd := ⟨_, rfl⟩
          rw [← hpr] at T3 ⊢
          clear hb18 X4 X5 X6 hPR hpr eR z1 z2 e12
          go_wp2_with (at_builtin; refine wpList_append_own _ rfl (.tmp 147) (.tmp 149) 23 rfl w8.heap.size 9 i0 (.string ByteArray.empty) 1 16 Tryz.underlying23 hi hz0 hz1 hz2 rfl (by decide) _ _ _ rfl (Y4.out.alloc _) ⟨w18.heap.size, 0, none⟩ 1 1 [.string (str pr)] rfl rfl (cell_one_new _ _ _) ?d2 ?d3 ?d4 ?d5 ?_)
          case d2 => intro u hu; simp at hu; subst hu; rfl
          case d3 => unfold maxLen; omega
          case d4 => omega
          case d5 => simp; omega
          intro v19 w19 hown19 hg19 _
          have hb19 : Below w.heap.size w w19 := (Y6.out.alloc hsz18 _).grown hg19 (by simp; omega) (fun kk hkk => by have := (Y4.out.lt kk hkk).1; omega)
          have hy19 := (Y5.out.later ((Below.refl _ _).alloc (Nat.le_refl _) _)).kept (Y4.out.alloc _) (by decide) (by decide) hg19
          have Z4 := Aa hown19
          have Z5 := Aa hy19
          have Z6 := Aa hb19
          clear hown19 hg19 hb19 hy19 Y4 Y5 Y6
          go_wp2_with fail
          refine ⟨⟨k + 1, by omega, by go_num, ?_, Z5.out, Z6.out⟩, by simp [intOf]; omega⟩
          rw [T3.out]
          have e9 : AM (pm :: ((AA size fs).map (BD 70 id) ++ ((Bg size fs wd extra).take k ++ [pr]))) = AM (pm :: ((AA size fs).map (BD 70 id) ++ (Bg size fs wd extra).take k)) ++ [.string (str pr)] := by simp [AM]
          rw [e9, ← Nat.add_assoc]
          exact Z4.out
         ·obtain rfl : extra = k := by omega
          rw [List.take_of_length_le (by simp [Bg])] at hownr
          have T1 := Aa (Ad hszw hownr)
          have T2 := Aa hbl
          clear hownr hyr hbl
          go_wp2_with fail
          go_ret2
          refine ⟨_, rfl, ?_, T2.out⟩
          have e9 : AM (Ck size fs extra) = AM (pm :: ((AA size fs).map (BD 70 id) ++ Bg size fs wd extra)) := by
           rw [HPM.out, HID.out, HWD.out]
           simp [Ck, Ey, MF]
          rw [e9]
          exact T1.out
end Go.Proofs.YtonjphollmdicaaGreatDoor
