import Derived.Test.YtonjphollmdicaaGreatDoorB23
import Derived.Test.YtonjphollmdicaaGreatDoorB39
namespace Go.Proofs.YtonjphollmdicaaGreatDoor
open Go.ChangeShapes Go.WideShapes Go.ChangeAt Go.RowKit Math
theorem Tryz.infoI : (Tryz.prog.info? 3).map (fun i => (i.zero, i.size, i.bytes)) = some (some (.int .i64 0), 1, 8) := by kernel_rfl
theorem slices_wide (size : Nat) (fs : List FileL) (h0 : 0 < size) : ∀ t ∈ slicesL size fs, t.length = size := by
 intro t ht
 simp only [slicesL, List.mem_flatMap] at ht
 obtain ⟨f, _, ht⟩ := ht
 exact (cutL_len f.2 size h0).2 t ht
theorem OwnRowsU.nil (W : World) (B : Nat) : OwnRowsU W B (.slice none 0 0) [] := ⟨[], World.ownsRow_nil _ _ _ _, fun j r h => by simp at h⟩
theorem intV_range (k : Nat) : intV (List.range (k + 1)) = intV (List.range k) ++ [.int .i64 (k : Int)] := by simp [intV, List.range_succ]
set_option maxRecDepth 100000 in
theorem rCreate_arg (fs : List FileL) (b x : Int) (a : Option Addr) (cap : Nat) (h : badArg b x = true) (w : World) :
  Calls Tryz.prog 38 #[.slice a fs.length cap, .int .i64 b, .int .i64 x] w fun e w' => e = .returned (.tuple #[.slice none 0 0, .int .i64 1]) ∧ Below w.heap.size w w' := by
 by_cases h1 : sliceSize b = true
 ·by_cases h2 : x < 0
  ·go_enter Tryz.func38, Tryz.ntmps38
   go_wp2_with (go_at_call 65; refine (rsize_walk b w).mono ?_; rintro e w' ⟨rfl, rfl⟩)
   go_ret2
   exact ⟨rfl, Below.refl _ _⟩
  ·have h3 : 20 < x := by
    unfold badArg at h
    simp [h1] at h
    omega
   go_enter Tryz.func38, Tryz.ntmps38
   go_wp2_with (go_at_call 65; refine (rsize_walk b w).mono ?_; rintro e w' ⟨rfl, rfl⟩)
   go_ret2
   exact ⟨rfl, Below.refl _ _⟩
 ·have h1' : sliceSize b = false := by simpa using h1
  clear h1
  go_enter Tryz.func38, Tryz.ntmps38
  go_wp2_with (go_at_call 65; refine (rsize_walk b w).mono ?_; rintro e w' ⟨rfl, rfl⟩)
  go_ret2
  exact ⟨rfl, Below.refl _ _⟩
set_option maxRecDepth 100000 in
theorem rCreate_file (fs : List FileL) (b x : Int) (size extra : Nat) (a : Option Addr) (cap : Nat) (hb : b = (size : Int)) (hx : x = (extra : Int)) (h0 : 0 < size) (h32 : size ≤ 32) (hex : extra ≤ 20) (hss : sliceSize b = true) (h : goodSet fs size = false) (w : World) (hh : Handed w fs a cap) :
  Calls Tryz.prog 38 #[.slice a fs.length cap, .int .i64 b, .int .i64 x] w fun e w' => e = .returned (.tuple #[.slice none 0 0, .int .i64 2]) ∧ Below w.heap.size w w' := by
 have e1 : ¬ x < 0 := by omega
 have e2 : ¬ 20 < x := by omega
 have HB := hid_of hb
 have HX := hid_of hx
 clear hb hx
 by_cases h1 : isSetL fs = true
 ·obtain ⟨hn1, hn2, hf⟩ := set_facts h1
  have hC := fun W (hW : Below w.heap.size w W) => rall_walk fs size a cap h0 h32 hn2 (fun f hm => (hf f hm).2) W (hh.rd.later (Nat.le_refl _) hW)
  rw [← HB.out] at hC
  have HC := hid_of hC
  have HH := hid_of hh
  clear hC hf
  have hcnt : countL fs size < 1 ∨ 60 < countL fs size := by
   unfold goodSet at h
   simp [h1] at h
   omega
  obtain ⟨c, hc⟩ : ∃ c, c = countL fs size := ⟨_, rfl⟩
  rw [← hc] at hcnt HC
  clear hc h
  go_enter Tryz.func38, Tryz.ntmps38
  go_wp2_with fail
  refine (rsize_walk b w).mono ?_
  rintro e w' ⟨rfl, rfl⟩
  go_wp2_with fail
  refine (rset_walk fs a cap HH.out.short _ HH.out.rd).mono ?_
  rintro e w1 ⟨rfl, hb1⟩
  go_wp2_with fail
  refine (HC.out w1 hb1).mono ?_
  rintro e w2 ⟨v2, rfl, hown2, hb2⟩
  obtain ⟨al, cl, rfl, _, _, _⟩ := ownsRow_rd hown2
  have hfin := hid_of (Below.next hb1 hb2)
  clear hown2 hb1 hb2
  rcases hcnt with h2 | h2
  ·go_wp2_with fail
   go_ret2
   exact ⟨rfl, hfin.out⟩
  ·go_wp2_with fail
   go_ret2
   exact ⟨rfl, hfin.out⟩
 ·have h1' : isSetL fs = false := by simpa using h1
  have HH := hid_of hh
  clear h1 h hh
  go_enter Tryz.func38, Tryz.ntmps38
  go_wp2_with fail
  refine (rsize_walk b w).mono ?_
  rintro e w' ⟨rfl, rfl⟩
  go_wp2_with fail
  refine (rset_walk fs a cap HH.out.short _ HH.out.rd).mono ?_
  rintro e w1 ⟨rfl, hb1⟩
  go_wp2_with fail
  go_ret2
  exact ⟨rfl, hb1⟩
set_option maxRecDepth 100000 in
set_option maxHeartbeats 2000000 in
theorem rCreate_ok (fs : List FileL) (b x : Int) (size extra : Nat) (a : Option Addr) (cap : Nat) (hb : b = (size : Int)) (hx : x = (extra : Int)) (h0 : 0 < size) (h32 : size ≤ 32) (heven : size % 2 = 0) (hex : extra ≤ 20) (hss : sliceSize b = true) (h : goodSet fs size = true) (w : World) (hh : Handed w fs a cap) :
  Calls Tryz.prog 38 #[.slice a fs.length cap, .int .i64 b, .int .i64 x] w fun e w' => ∃ v, e = .returned (.tuple #[v, .int .i64 0]) ∧ w'.ownsRow w.heap.size 9 1 v (1 + fs.length + extra) (strV (packetsL size fs extra)) ∧ Below w.heap.size w w' := by
 obtain ⟨i0, hi, hz0, hz1, hz2⟩ := info_parts Tryz.infoS
 obtain ⟨j0, hj, hy0, hy1, hy2⟩ := info_parts Tryz.infoU16s
 obtain ⟨l0, hl, hx0, hx1, hx2⟩ := info_parts Tryz.infoI
 subst hb hx
 obtain ⟨wd, hwd⟩ : ∃ x, x = size / 2 := ⟨_, rfl⟩
 have hwd0 : 0 < wd := by omega
 have hwd1 : wd ≤ 16 := by omega
 have HWD := hid_of hwd
 clear hwd
 unfold goodSet at h
 rw [Bool.and_eq_true, Bool.and_eq_true] at h
 obtain ⟨⟨h1, h2⟩, h3⟩ := h
 have h2 := of_decide_eq_true h2
 have h3 := of_decide_eq_true h3
 obtain ⟨hn1, hn2, hf⟩ := set_facts h1
 have hC := fun W (hW : Below w.heap.size w W) => rall_walk fs size a cap h0 h32 hn2 (fun f hm => (hf f hm).2) W (hh.rd.later (Nat.le_refl _) hW)
 obtain ⟨c, hc⟩ : ∃ c, c = countL fs size := ⟨_, rfl⟩
 rw [← hc] at h2 h3 hC
 have HCN := hid_of hc
 have HC := hid_of hC
 have HH := hid_of hh
 have HF := hid_of hf
 clear hC hh hf hc
 obtain ⟨n, hn⟩ : ∃ n, n = fs.length := ⟨_, rfl⟩
 have HN := hid_of hn
 rw [← hn] at HC hn1 hn2 ⊢
 have hset := hid_of (rset_walk fs a cap HH.out.short w HH.out.rd)
 rw [← hn] at hset
 clear hn
 go_enter Tryz.func38, Tryz.ntmps38
 go_wp2_with fail
 refine (rsize_walk (size : Int) w).mono ?_
 rintro e w' ⟨rfl, hw'⟩
 have hw' := hw'.symm
 subst hw'
 go_wp2_with fail
 refine hset.out.mono ?_
 rintro e w1 ⟨rfl, hb1⟩
 have HB1 := hid_of hb1
 clear hb1 hset
 go_wp2_with fail
 refine (HC.out w1 HB1.out).mono ?_
 rintro e w2 ⟨v2, rfl, hown2, hb2⟩
 obtain ⟨al, cl, rfl, _, _, hrl⟩ := ownsRow_rd hown2
 have HL := hid_of hrl
 have HB2 := hid_of (Below.next HB1.out hb2)
 clear hown2 hb2 HB1 HC hrl
 have ws : IntKind.u64.wrap (size : Int) = (size : Int) := by rw [IntKind.wrap_u64]; omega
 have wn : IntKind.u64.wrap (n : Int) = (n : Int) := by rw [IntKind.wrap_u64]; omega
 have H1 := hid_of (fun W => rBytes_walk 2 size W (by omega) (by unfold P64; omega))
 have H2 := hid_of (fun W => rBytes_walk 1 n W (by omega) (by unfold P64; omega))
 go_wp2_with fail
 refine (H1.out w2).mono ?_
 rintro e w3 ⟨rfl, hb3⟩
 have HB3 := hid_of (Below.next HB2.out hb3)
 have HL3 := hid_of (HL.out.later (Nat.le_refl _) hb3)
 clear hb3 HB2 HL
 go_wp2_with fail
 refine (H2.out w3).mono ?_
 rintro e w4 ⟨rfl, hb4⟩
 have HB4 := hid_of (Below.next HB3.out hb4)
 have HL4 := hid_of (HL3.out.later (Nat.le_refl _) hb4)
 clear hb4 HB3 HL3 H1 H2
 obtain ⟨m0, hm0⟩ : ∃ m, m = numBytes size 2 ++ numBytes n 1 := ⟨_, rfl⟩
 have em : str (numBytes size 2) ++ str (numBytes n 1) = str m0 := by rw [strs, hm0]
 have z1 : (str (numBytes size 2)).size = 2 := by rw [str_size, numBytes_len]
 have z2 : (str (numBytes n 1)).size = 1 := by rw [str_size, numBytes_len]
 have HM0 := hid_of hm0
 clear hm0
 go_wp2_with fail
 have hbl : (bodiesL size fs).length = n := by simp [bodiesL, HN.out]
 have HBL := hid_of hbl
 have hm0l : m0.length = 3 := by rw [HM0.out]; simp [numBytes_len]
 clear hbl em z1 z2
 go_loopw [10, 11, 12, 13] (fun m v i _ wr => ∃ k : Nat, k ≤ n ∧ m = .string (str (m0 ++ hashesL (((bodiesL size fs).take k).map hashL))) ∧ i = .int .i64 (k : Int) ∧ wr.ownsRow w4.heap.size 9 1 v k (strV ((bodiesL size fs).take k)) ∧ Below w4.heap.size w4 wr)
  (fun _ _ i _ _ => n - (intOf i).toNat)
 case atStart => exact ⟨0, by omega, by simp [hashesL], rfl, World.ownsRow_nil _ _ _ _, Below.refl _ _⟩
 case round =>
  obtain ⟨k, hk, rfl, rfl, hownr, hbl⟩ := hrel
  have hsz := hbl.size
  by_cases hlt : k < n
  ·have hbw : Below w.heap.size w wr := HB4.out.trans (hbl.mono HB4.out.size)
   have hkf : k < fs.length := by rw [← HN.out]; exact hlt
   obtain ⟨b0, off0, rfl, hc1, hc2⟩ := fileCells HH.out.rd (Nat.le_refl _) hbw k hkf
   obtain ⟨hf1, hf2⟩ := HF.out fs[k] (List.getElem_mem hkf)
   have hlb : k < (bodiesL size fs).length := by rw [HBL.out]; exact hlt
   have hbk : (bodiesL size fs)[k] = fileBodyL k fs[k].1 fs[k].2 (cutL fs[k].2 size) := by simp [bodiesL, bodyL, hkf]
   have htk := take_snoc (bodiesL size fs) k hlb
   have hFB := rfileBody_walk k fs[k] size (by omega) (by omega) hf2 h0 h32 wr
   rw [← hbk] at hFB
   have hbs := bodies_short size fs h0 HF.out _ (List.getElem_mem hlb)
   obtain ⟨bd, hbd⟩ : ∃ x, x = (bodiesL size fs)[k] := ⟨_, rfl⟩
   rw [← hbd] at hFB htk hbs
   obtain ⟨nm, hnm⟩ : ∃ x, x = fs[k].1 := ⟨_, rfl⟩
   obtain ⟨dt, hdt⟩ : ∃ x, x = fs[k].2 := ⟨_, rfl⟩
   rw [← hnm] at hc1 hFB
   rw [← hdt] at hc2 hFB
   have hpre : (m0 ++ hashesL (((bodiesL size fs).take k).map hashL)).length ≤ 100 := by
    rw [List.length_append, hashesL_len, List.length_map, List.length_take, hm0l]; omega
   have hnext : (m0 ++ hashesL (((bodiesL size fs).take k).map hashL)) ++ numBytes (hashL bd) 8 = m0 ++ hashesL (((bodiesL size fs).take (k + 1)).map hashL) := by
    rw [htk]; simp [hashesL]
   obtain ⟨mk, hmk⟩ : ∃ x, x = m0 ++ hashesL (((bodiesL size fs).take k).map hashL) := ⟨_, rfl⟩
   rw [← hmk] at hpre hnext ⊢
   have F1 := hid_of hFB
   have F2 := hid_of htk
   have F3 := hid_of hownr
   have F4 := hid_of hbl
   have F5 := hid_of hnext
   clear hFB htk hownr hbl hnext hmk hbd hnm hdt hbk hf1 hf2
   go_wp2_with fail
   refine F1.out.mono ?_
   rintro e w5 ⟨rfl, hb5⟩
   have G1 := hid_of (ownsRow_later F3.out (Nat.le_refl _) hb5)
   have G2 := hid_of (F4.out.trans (hb5.mono hsz))
   have hsz5 : w4.heap.size ≤ w5.heap.size := G2.out.size
   clear hb5 F1 F3 F4 hc1 hc2
   go_wp2_with (at_builtin; refine wpList_append_own _ rfl (.tmp 73) (.tmp 75) 23 rfl w4.heap.size 9 i0 (.string ByteArray.empty) 1 16 Tryz.underlying23 hi hz0 hz1 hz2 rfl (by decide) _ _ _ rfl (G1.out.alloc _) ⟨w5.heap.size, 0, none⟩ 1 1 [.string (str bd)] rfl rfl (cell_one_new _ _ _) ?d2 ?d3 ?d4 ?d5 ?_)
   case d2 => intro u hu; simp at hu; subst hu; rfl
   case d3 => unfold maxLen; omega
   case d4 => omega
   case d5 => simp; omega
   intro v6 w6 hown6 hg6 _
   have hb6 := below_step G2.out hsz5 G1.out hg6
   have J1 := hid_of hown6
   have J2 := hid_of hb6
   have hsz6 : w4.heap.size ≤ w6.heap.size := hb6.size
   have hHl := hid_of (rHash_l bd (by omega) w6)
   have hlt64 := hashL_lt bd
   clear hown6 hb6 hg6 G1 G2
   go_wp2_with fail
   refine hHl.out.mono ?_
   rintro e w7 ⟨rfl, hw7⟩
   have hw7 := hw7.symm
   subst hw7
   obtain ⟨hv, hhv⟩ : ∃ x, x = hashL bd := ⟨_, rfl⟩
   rw [← hhv] at hlt64 F5 ⊢
   clear hhv
   have hBy := hid_of (rBytes_walk 8 hv w6 (by omega) hlt64)
   have z1 : (str mk).size ≤ 100 := by rw [str_size]; exact hpre
   have z2 : (str (numBytes hv 8)).size = 8 := by rw [str_size, numBytes_len]
   have e12 : str mk ++ str (numBytes hv 8) = str (mk ++ numBytes hv 8) := strs _ _
   clear hHl
   go_wp2_with fail
   refine hBy.out.mono ?_
   rintro e w8 ⟨rfl, hb8⟩
   have L1 := hid_of (ownsRow_later J1.out (Nat.le_refl _) hb8)
   have L2 := hid_of (J2.out.trans (hb8.mono hsz6))
   clear hb8 J1 J2 hBy
   go_wp2_with fail
   refine ⟨⟨k + 1, by omega, by first | rw [F5.out] | rfl, by go_num, ?_, L2.out⟩, by simp [intOf]; omega⟩
   rw [F2.out, strV_append]
   exact L1.out
  ·obtain rfl : n = k := by omega
   rw [List.take_of_length_le (by rw [HBL.out]; exact Nat.le_refl _)] at hownr ⊢
   obtain ⟨ab, cb, rfl, _, _, hrb⟩ := ownsRow_rd hownr
   have hmain : m0 ++ hashesL ((bodiesL size fs).map hashL) = mainL size fs := by
    rw [HM0.out, mainL, mainBodyL, List.length_map, HBL.out]
   rw [hmain]
   have hml := mainL_len size fs
   have M1 := hid_of hrb
   have M2 := hid_of (HL4.out.later (Nat.le_refl _) hbl)
   have M3 := hid_of (HB4.out.trans (hbl.mono HB4.out.size))
   have hHm := hid_of (rHash_l (mainL size fs) (by rw [hml, ← HN.out]; omega) wr)
   clear hrb hownr hbl HL4 HB4 HM0
   go_wp2_with fail
   refine hHm.out.mono ?_
   rintro e w7 ⟨rfl, hw7⟩
   have hw7 := hw7.symm
   subst hw7
   have hid64 := hashL_lt (mainL size fs)
   obtain ⟨id, hid⟩ : ∃ x, x = hashL (mainL size fs) := ⟨_, rfl⟩
   rw [← hid] at hid64 ⊢
   have HID := hid_of hid
   have hPk := hid_of (rPacket_walk 77 id (mainL size fs) hid64 (by rw [hml, ← HN.out]; omega) wr)
   clear hid hHm hmain
   have eM : (⟨#[77]⟩ : ByteArray) = str [77] := rfl
   go_wp2_with fail
   refine hPk.out.mono ?_
   rintro e w8 ⟨rfl, hb8⟩
   have N1 := hid_of (M1.out.later (Nat.le_refl _) hb8)
   have N2 := hid_of (M2.out.later (Nat.le_refl _) hb8)
   have N3 := hid_of (M3.out.trans (hb8.mono M3.out.size))
   have hszw : w.heap.size ≤ w8.heap.size := N3.out.size
   clear hb8 M1 M2 M3 hPk eM
   obtain ⟨pm, hpm⟩ : ∃ x, x = sealL 77 id (mainL size fs) := ⟨_, rfl⟩
   rw [← hpm]
   have HPM := hid_of hpm
   clear hpm
   have hlit : (w8.alloc (.cells #[.string (str pm)] 9)).ownsRow w8.heap.size 9 1 (.slice (some ⟨w8.heap.size, 0, none⟩) 1 1) 1 (strV [pm]) := by
    have := World.ownsRow_lit (base := w8.heap.size) (e := 9) (size := 1) w8 #[.string (str pm)] 1 (Nat.le_refl _) (by unfold maxLen; omega) rfl
    simpa [strV] using this
   have HLIT := hid_of hlit
   clear hlit
   go_wp2_with fail
   go_loopw [15, 16, 17] (fun v i _ W => ∃ k : Nat, k ≤ n ∧ i = .int .i64 (k : Int) ∧ W.ownsRow w8.heap.size 9 1 v (1 + k) (strV (pm :: ((bodiesL size fs).map (sealL 70 id)).take k)) ∧ Below w8.heap.size w8 W)
    (fun _ i _ _ => n - (intOf i).toNat)
   case atStart => exact ⟨0, by omega, rfl, by simpa using HLIT.out, (Below.refl _ _).alloc (Nat.le_refl _) _⟩
   case round =>
    clear HLIT
    obtain ⟨k, hk, rfl, hownr, hbl⟩ := hrel
    have hsz := hbl.size
    by_cases hlt : k < n
    ·have hlb : k < (bodiesL size fs).length := by rw [HBL.out]; exact hlt
     obtain ⟨bb, offb, rfl, hcb⟩ := (N1.out.later (Nat.le_refl _) hbl) k (.string (str (bodiesL size fs)[k])) (by simp [strV, hlb])
     have hbs := bodies_short size fs h0 HF.out _ (List.getElem_mem hlb)
     have hPF := rPacket_walk 70 id (bodiesL size fs)[k] hid64 (by omega) wr
     have htk : ((bodiesL size fs).map (sealL 70 id)).take (k + 1) = ((bodiesL size fs).map (sealL 70 id)).take k ++ [sealL 70 id (bodiesL size fs)[k]] := by
      rw [take_snoc _ k (by rw [List.length_map]; exact hlb), List.getElem_map]
     obtain ⟨bd, hbd⟩ : ∃ x, x = (bodiesL size fs)[k] := ⟨_, rfl⟩
     rw [← hbd] at hcb hbs hPF htk
     have F1 := hid_of hPF
     have F2 := hid_of htk
     have F3 := hid_of hownr
     have F4 := hid_of hbl
     have eF : (⟨#[70]⟩ : ByteArray) = str [70] := rfl
     clear hPF htk hownr hbl hbd
     go_wp2_with fail
     refine F1.out.mono ?_
     rintro e w9 ⟨rfl, hb9⟩
     have G1 := hid_of (ownsRow_later F3.out (Nat.le_refl _) hb9)
     have G2 := hid_of (F4.out.trans (hb9.mono hsz))
     have hsz9 : w8.heap.size ≤ w9.heap.size := G2.out.size
     clear hb9 F1 F3 F4 hcb eF
     obtain ⟨pf, hpf⟩ : ∃ x, x = sealL 70 id bd := ⟨_, rfl⟩
     rw [← hpf] at F2 ⊢
     clear hpf
     go_wp2_with (at_builtin; refine wpList_append_own _ rfl (.tmp 100) (.tmp 102) 23 rfl w8.heap.size 9 i0 (.string ByteArray.empty) 1 16 Tryz.underlying23 hi hz0 hz1 hz2 rfl (by decide) _ _ _ rfl (G1.out.alloc _) ⟨w9.heap.size, 0, none⟩ 1 1 [.string (str pf)] rfl rfl (cell_one_new _ _ _) ?d2 ?d3 ?d4 ?d5 ?_)
     case d2 => intro u hu; simp at hu; subst hu; rfl
     case d3 => unfold maxLen; omega
     case d4 => omega
     case d5 => simp; omega
     intro v6 w6 hown6 hg6 _
     have hb6 := below_step G2.out hsz9 G1.out hg6
     have J1 := hid_of hown6
     have J2 := hid_of hb6
     clear hown6 hb6 hg6 G1 G2
     go_wp2_with fail
     refine ⟨⟨k + 1, by omega, by go_num, ?_, J2.out⟩, by simp [intOf]; omega⟩
     rw [F2.out]
     have e9 : strV (pm :: (((bodiesL size fs).map (sealL 70 id)).take k ++ [pf])) = strV (pm :: ((bodiesL size fs).map (sealL 70 id)).take k) ++ [.string (str pf)] := by simp [strV]
     rw [e9, ← Nat.add_assoc]
     exact J1.out
    ·obtain rfl : n = k := by omega
     rw [List.take_of_length_le (by rw [List.length_map, HBL.out]; exact Nat.le_refl _)] at hownr
     have P1 := hid_of hownr
     have P2 := hid_of (N2.out.later (Nat.le_refl _) hbl)
     have P3 := hid_of (N3.out.trans (hbl.mono hszw))
     have hszr : w.heap.size ≤ wr.heap.size := P3.out.size
     clear hownr hbl N1 N2 N3
     obtain ⟨w10, rfl⟩ : ∃ w10, w10 = wr := ⟨_, rfl⟩
     have hsl := slicesL_len size fs h0
     rw [← HCN.out] at hsl
     have HSL := hid_of hsl
     clear hsl
     go_wp2_with fail
     go_loopw [18, 19, 20] (fun va vr i W => ∃ k : Nat, k ≤ c ∧ i = .int .i64 (k : Int) ∧ W.ownsRow w10.heap.size 3 1 va k (intV (List.range k)) ∧ OwnRowsU W w10.heap.size vr ((rowsL size fs).take k) ∧ Below w10.heap.size w10 W)
      (fun _ _ i _ => c - (intOf i).toNat)
     case atStart => exact ⟨0, by omega, rfl, World.ownsRow_nil _ _ _ _, OwnRowsU.nil _ _, Below.refl _ _⟩
     case round =>
      obtain ⟨k, hk, rfl, hownr, hrows, hbl⟩ := hrel
      have hsz := hbl.size
      by_cases hlt : k < c
      ·have hlb : k < (slicesL size fs).length := by rw [HSL.out]; exact hlt
       obtain ⟨bb, offb, rfl, hcb0⟩ := P2.out k (.string (str (slicesL size fs)[k])) (by simp [strV, hlb])
       have htl := slices_wide size fs h0 _ (List.getElem_mem hlb)
       have hrk : (rowsL size fs).take (k + 1) = (rowsL size fs).take k ++ [rowL (slicesL size fs)[k]] := by
        unfold rowsL
        rw [take_snoc _ k (by rw [List.length_map]; exact hlb), List.getElem_map]
       obtain ⟨tx, htx⟩ : ∃ x, x = (slicesL size fs)[k] := ⟨_, rfl⟩
       rw [← htx] at hcb0 htl hrk
       have F1 := hid_of hownr
       have F2 := hid_of hrows
       have F3 := hid_of hbl
       have F5 := hid_of hrk
       have HCB := hid_of hcb0
       clear hownr hrows hbl htx hrk hcb0
       go_wp2_with (at_builtin; refine wpList_append_own _ rfl (.tmp 110) (.tmp 112) 31 rfl w10.heap.size 3 l0 (.int .i64 0) 1 8 Tryz.underlying31 hl hx0 hx1 hx2 rfl (by decide) _ _ _ rfl (F1.out.alloc _) ⟨wr.heap.size, 0, none⟩ 1 1 [.int .i64 (k : Int)] rfl rfl (cell_one_new _ _ _) ?d2 ?d3 ?d4 ?d5 ?_)
       case d2 => intro u hu; simp at hu; subst hu; rfl
       case d3 => unfold maxLen; omega
       case d4 => omega
       case d5 => simp; omega
       intro v11 w11 hown11 hg11 _
       have hb11 := below_step F3.out hsz F1.out hg11
       have hrows11 := (F2.out.later ((Below.refl _ _).alloc (Nat.le_refl _) _)).kept (F1.out.alloc _) (by decide) (by decide) hg11
       rw [← intV_range] at hown11
       have hcb : w11.cell? ⟨bb, offb + k, none⟩ = some (.string (str tx)) := by
        rw [hb11.cell (World.block_lt_of_cell? w10 _ HCB.out)]; exact HCB.out
       have G1 := hid_of hown11
       have G2 := hid_of hrows11
       have G3 := hid_of hb11
       have hsz11 : w10.heap.size ≤ w11.heap.size := hb11.size
       have hRow := hid_of (rrow_walk tx (by omega) w11)
       rw [htl, ← HWD.out] at hRow
       clear hown11 hrows11 hb11 hg11 F1 F2 F3 HCB
       go_wp2_with fail
       refine hRow.out.mono ?_
       rintro e w12 ⟨vr, rfl, hownv, hb12⟩
       have hlr : (rowL tx).length = wd := by rw [rowL_length, htl, HWD.out]
       have J1 := hid_of (ownsRow_later G1.out (Nat.le_refl _) hb12)
       obtain ⟨vs, q1, q2⟩ := G2.out.later hb12
       have J2 := hid_of q1
       have J3 := hid_of q2
       have hownv' : w12.ownsRow w10.heap.size 80 1 vr wd (u16V (rowL tx)) := ownsRow_base hsz11 hownv
       have HLR := hid_of hlr
       have J4 := hid_of hownv'
       have J5 := hid_of (G3.out.trans (hb12.mono hsz11))
       have hsz12 : w10.heap.size ≤ w12.heap.size := J5.out.size
       have hrl : ((rowsL size fs).take k).length = k := by
        have := rowsL_count size fs h0
        rw [← HCN.out] at this
        rw [List.length_take]; omega
       rw [hrl] at J2
       clear q1 q2 hownv hownv' hb12 G1 G2 G3 hRow hcb hlr
       have hone : ∀ u ∈ [vr], u.oneCell' = true := by
        intro u hu
        simp at hu
        subst hu
        rcases J4.out.2 with ⟨rfl, _⟩ | ⟨_, _, _, rfl, _⟩ <;> rfl
       have HONE := hid_of hone
       clear hone
       obtain ⟨ar, cr, rfl, _, _, _⟩ := ownsRow_rd J4.out
       go_wp2_with (at_builtin; refine wpList_append_own _ rfl (.tmp 114) (.tmp 120) 120 rfl w10.heap.size 121 j0 (.slice none 0 0) 1 24 Tryz.underlying120 hj hy0 hy1 hy2 rfl (by decide) _ _ _ rfl (J2.out.alloc _) ⟨w12.heap.size, 0, none⟩ 1 1 [.slice ar wd cr] rfl rfl (cell_one_new _ _ _) ?d2 ?d3 ?d4 ?d5 ?_)
       case d2 => exact HONE.out
       case d3 => unfold maxLen; omega
       case d4 => omega
       case d5 => simp; omega
       intro v13 w13 hown13 hg13 _
       have hb13 := below_step J5.out hsz12 J2.out hg13
       have hat13 := (J1.out.alloc (.cells #[.slice ar wd cr] 121)).kept hg13 (own_ne J1.out J2.out (by decide))
       have hrows13 := OwnRowsU.append (W := w12.alloc (.cells #[.slice ar wd cr] 121)) (rs := (rowsL size fs).take k) (r := rowL tx) (by rw [hrl]; exact J2.out.alloc _) (fun j r hj => by obtain ⟨u, m1, m2⟩ := J3.out j r hj; exact ⟨u, m1, m2.alloc _⟩) (by rw [HLR.out]; exact J4.out.alloc _) (by rw [hrl]; exact hown13) hg13
       rw [← F5.out] at hrows13
       have L1 := hid_of hat13
       have L2 := hid_of hrows13
       have L3 := hid_of hb13
       clear hown13 hg13 hb13 hat13 hrows13 J1 J2 J3 J4 J5
       go_wp2_with fail
       exact ⟨⟨k + 1, by omega, by go_num, L1.out, L2.out, L3.out⟩, by simp [intOf]; omega⟩
      ·obtain rfl : c = k := by omega
       rw [List.take_of_length_le (by rw [rowsL_count size fs h0, ← HCN.out]; exact Nat.le_refl _)] at hrows
       by_cases hex0 : extra = 0
       ·subst hex0
        have hout := ownsRow_later P1.out (Nat.le_refl _) hbl
        have hb9 := P3.out.trans (hbl.mono hszr)
        have Q1 := hid_of (ownsRow_base hszw hout)
        have Q2 := hid_of hb9
        clear hout hb9 hownr hrows hbl
        go_wp2_with fail
        go_ret2
        refine ⟨_, rfl, ?_, Q2.out⟩
        have e9 : strV (packetsL size fs 0) = strV (pm :: (bodiesL size fs).map (sealL 70 id)) := by
         rw [HPM.out, HID.out]
         simp [packetsL, rPacketsL, fPacketsL, setL]
        rw [e9]
        exact Q1.out
       ·have hrc : (rowsL size fs).length = c := by rw [rowsL_count size fs h0, ← HCN.out]
        have hrok := rowsL_ok size fs h0
        rw [← HWD.out] at hrok
        obtain ⟨a1, c1, rfl, _, _, hra⟩ := ownsRow_rd hownr
        obtain ⟨a2, c2, rfl, hrr⟩ := hrows.rdRows
        rw [hrc]
        have hth := through_walk (List.range c) (rowsL size fs) c wd a1 a2 c1 c2 (by simp) hrc (by omega) (by omega) hrok hwd0 (by omega) (by intro y hy; simp at hy; omega) List.nodup_range wr hra hrr
        have hxi : ¬ (extra : Int) = 0 := by omega
        have Q1 := hid_of (ownsRow_later P1.out (Nat.le_refl _) hbl)
        have Q2 := hid_of (P3.out.trans (hbl.mono hszr))
        have hszr2 : w.heap.size ≤ wr.heap.size := Q2.out.size
        have hszr3 : w8.heap.size ≤ wr.heap.size := by have := hbl.size; omega
        have Q3 := hid_of hth
        have Q4 := hid_of hrc
        have Q5 := hid_of hrok
        clear hth hra hrr hownr hrows hbl hrc hrok P1 P2 P3
        go_wp2_with fail
        refine Q3.out.mono ?_
        rintro e w14 ⟨v14, ys, rfl, hys, hyl, hyok, hb14, hsol⟩
        obtain ⟨ay, cy, rfl, _⟩ := hys.rdRows
        rw [hyl]
        rw [hyl] at hys
        have S1 := hid_of (ownsRow_later Q1.out (Nat.le_refl _) hb14)
        have S2 := hid_of (Q2.out.trans (hb14.mono hszr2))
        have S3 := hid_of hys
        have hval : ∀ k, k ≤ 100 → valueL ys (c + k) wd = extraL (rowsL size fs) wd k := by
         intro k hk
         have := extra_value (rowsL size fs) ys wd k (by rw [Q4.out]; omega) (by omega) (by rw [hyl, Q4.out]) Q5.out hyok (fun i hi p hp => by
          have := hsol i (by rw [Q4.out] at hi; exact hi) p hp
          rw [show (List.range c).getD i 0 = i from by rw [Q4.out] at hi; simp [hi]] at this
          exact this)
         rw [Q4.out] at this
         exact this
        have S4 := hid_of hval
        have S5 := hid_of hyok
        have S6 := hid_of hyl
        clear hys hyl hyok hb14 hsol hval Q1 Q2 Q3
        go_wp2_with fail
        obtain ⟨w13, rfl⟩ : ∃ x, x = wr := ⟨_, rfl⟩
        go_loopw [15, 22, 23, 24] (fun v j _ _ W => ∃ k : Nat, k ≤ extra ∧ j = .int .i64 (k : Int) ∧ W.ownsRow w8.heap.size 9 1 v (1 + n + k) (strV (pm :: ((bodiesL size fs).map (sealL 70 id) ++ (rPacketsL size fs wd extra).take k))) ∧ OwnRowsU W w13.heap.size (.slice ay c cy) ys ∧ Below w.heap.size w W)
         (fun _ j _ _ _ => extra - (intOf j).toNat)
        case atStart => exact ⟨0, by omega, rfl, by simpa using S1.out, S3.out, S2.out⟩
        case round =>
         clear S1 S2 S3
         obtain ⟨k, hk, rfl, hownr, hyr, hbl⟩ := hrel
         have hszk := hbl.size
         by_cases hlt2 : k < extra
         ·obtain ⟨a', c', ee, hrd⟩ := hyr.rdRows
          rw [S6.out] at ee
          cases ee
          have hva := rvalue_walk ys (c + k) wd ay cy (by rw [S6.out]; omega) (by rw [S6.out]; omega) S5.out hwd0 (by omega) (by omega) wr hrd
          rw [S6.out, S4.out k (by omega)] at hva
          have hR1 := extraL_lt (rowsL size fs) wd k
          have hR2 := extraL_len (rowsL size fs) wd k
          have hRk : rPacketL size fs wd k = sealL 82 id (numBytes k 2 ++ textL (extraL (rowsL size fs) wd k)) := by
           rw [HID.out]; rfl
          have htk : (rPacketsL size fs wd extra).take (k + 1) = (rPacketsL size fs wd extra).take k ++ [rPacketL size fs wd k] := by
           rw [take_snoc _ k (by simp [rPacketsL]; omega)]
           simp [rPacketsL]
          rw [hRk] at htk
          obtain ⟨xr, hxr⟩ : ∃ x, x = extraL (rowsL size fs) wd k := ⟨_, rfl⟩
          rw [← hxr] at hva hR1 hR2 htk
          have T1 := hid_of hva
          have T2 := hid_of hR1
          have T3 := hid_of htk
          have T4 := hid_of hownr
          have T5 := hid_of hyr
          have T6 := hid_of hbl
          have HR2 := hid_of hR2
          have eck : ((c + k : Nat) : Int) = (c : Int) + (k : Int) := by omega
          rw [eck] at T1
          clear hva hR1 htk hownr hyr hbl hRk hxr hrd hR2 eck
          go_wp2_with fail
          refine T1.out.mono ?_
          rintro e w15 ⟨v15, rfl, hown15, hb15⟩
          obtain ⟨ax, cx, rfl, _, _, hrx⟩ := ownsRow_rd hown15
          have hsl := rslice_walk xr ax cx (by rw [HR2.out]; omega) T2.out w15 hrx
          rw [HR2.out] at hsl
          have U1 := hid_of hsl
          have U4 := hid_of (ownsRow_later T4.out (Nat.le_refl _) hb15)
          have U5 := hid_of (T5.out.later hb15)
          have U6 := hid_of (T6.out.trans (hb15.mono hszk))
          have hsz15 : w.heap.size ≤ w15.heap.size := U6.out.size
          clear hsl hown15 hb15 hrx T1 T4 T5 T6
          go_wp2_with fail
          refine U1.out.mono ?_
          rintro e w16 ⟨rfl, hb16⟩
          have V4 := hid_of (ownsRow_later U4.out (Nat.le_refl _) hb16)
          have V5 := hid_of (U5.out.later hb16)
          have V6 := hid_of (U6.out.trans (hb16.mono hsz15))
          have hsz16 : w.heap.size ≤ w16.heap.size := V6.out.size
          have hBy := hid_of (rBytes_walk 2 k w16 (by omega) (by unfold P64; omega))
          have wk : IntKind.u64.wrap (k : Int) = (k : Int) := by rw [IntKind.wrap_u64]; omega
          have htl : (textL xr).length = 2 * wd := by rw [textL_len, HR2.out]
          obtain ⟨tx, htx⟩ : ∃ x, x = textL xr := ⟨_, rfl⟩
          rw [← htx] at T3 htl ⊢
          clear hb16 U1 U4 U5 U6 htx
          go_wp2_with fail
          refine hBy.out.mono ?_
          rintro e w17 ⟨rfl, hb17⟩
          have X4 := hid_of (ownsRow_later V4.out (Nat.le_refl _) hb17)
          have X5 := hid_of (V5.out.later hb17)
          have X6 := hid_of (V6.out.trans (hb17.mono hsz16))
          have hsz17 : w.heap.size ≤ w17.heap.size := X6.out.size
          have z1 : (str (numBytes k 2)).size = 2 := by rw [str_size, numBytes_len]
          have z2 : (str tx).size = 2 * wd := by rw [str_size, htl]
          have e12 : str (numBytes k 2) ++ str tx = str (numBytes k 2 ++ tx) := strs _ _
          have hbl2 : (numBytes k 2 ++ tx).length ≤ 60000 := by rw [List.length_append, numBytes_len, htl]; omega
          obtain ⟨bd, hbd⟩ : ∃ x, x = numBytes k 2 ++ tx := ⟨_, rfl⟩
          rw [← hbd] at e12 hbl2 T3
          have hPR := hid_of (rPacket_walk 82 id bd hid64 hbl2 w17)
          have eR : (⟨#[82]⟩ : ByteArray) = str [82] := rfl
          clear hb17 V4 V5 V6 hBy hbd
          go_wp2_with fail
          refine hPR.out.mono ?_
          rintro e w18 ⟨rfl, hb18⟩
          have Y4 := hid_of (ownsRow_later X4.out (Nat.le_refl _) hb18)
          have Y5 := hid_of (X5.out.later hb18)
          have Y6 := hid_of (X6.out.trans (hb18.mono hsz17))
          have hsz18 : w.heap.size ≤ w18.heap.size := Y6.out.size
          have hsz8 : w8.heap.size ≤ w18.heap.size := by
           rcases Y4.out.2 with ⟨_, h0'⟩ | ⟨gq, _, _, _, hgq, hcq, _⟩
           ·omega
           ·have := (Array.getElem?_eq_some_iff.1 hcq).1
            omega
          obtain ⟨pr, hpr⟩ : ∃ x, x = sealL 82 id bd := ⟨_, rfl⟩
          rw [← hpr] at T3 ⊢
          clear hb18 X4 X5 X6 hPR hpr eR z1 z2 e12
          go_wp2_with (at_builtin; refine wpList_append_own _ rfl (.tmp 147) (.tmp 149) 23 rfl w8.heap.size 9 i0 (.string ByteArray.empty) 1 16 Tryz.underlying23 hi hz0 hz1 hz2 rfl (by decide) _ _ _ rfl (Y4.out.alloc _) ⟨w18.heap.size, 0, none⟩ 1 1 [.string (str pr)] rfl rfl (cell_one_new _ _ _) ?d2 ?d3 ?d4 ?d5 ?_)
          case d2 => intro u hu; simp at hu; subst hu; rfl
          case d3 => unfold maxLen; omega
          case d4 => omega
          case d5 => simp; omega
          intro v19 w19 hown19 hg19 _
          have hb19 : Below w.heap.size w w19 := (Y6.out.alloc hsz18 _).grown hg19 (by simp; omega) (fun kk hkk => by have := (Y4.out.lt kk hkk).1; omega)
          have hy19 := (Y5.out.later ((Below.refl _ _).alloc (Nat.le_refl _) _)).kept (Y4.out.alloc _) (by decide) (by decide) hg19
          have Z4 := hid_of hown19
          have Z5 := hid_of hy19
          have Z6 := hid_of hb19
          clear hown19 hg19 hb19 hy19 Y4 Y5 Y6
          go_wp2_with fail
          refine ⟨⟨k + 1, by omega, by go_num, ?_, Z5.out, Z6.out⟩, by simp [intOf]; omega⟩
          rw [T3.out]
          have e9 : strV (pm :: ((bodiesL size fs).map (sealL 70 id) ++ ((rPacketsL size fs wd extra).take k ++ [pr]))) = strV (pm :: ((bodiesL size fs).map (sealL 70 id) ++ (rPacketsL size fs wd extra).take k)) ++ [.string (str pr)] := by simp [strV]
          rw [e9, ← Nat.add_assoc]
          exact Z4.out
         ·obtain rfl : extra = k := by omega
          rw [List.take_of_length_le (by simp [rPacketsL])] at hownr
          have T1 := hid_of (ownsRow_base hszw hownr)
          have T2 := hid_of hbl
          clear hownr hyr hbl
          go_wp2_with fail
          go_ret2
          refine ⟨_, rfl, ?_, T2.out⟩
          have e9 : strV (packetsL size fs extra) = strV (pm :: ((bodiesL size fs).map (sealL 70 id) ++ rPacketsL size fs wd extra)) := by
           rw [HPM.out, HID.out, HWD.out]
           simp [packetsL, fPacketsL, setL]
          rw [e9]
          exact T1.out
end Go.Proofs.YtonjphollmdicaaGreatDoor
namespace Go.Proofs.YtonjphollmdicaaGreatDoor
def exPre (es : List (List UInt8)) (n : Nat) : List (Nat × List UInt8) := ((List.range n).filter fun j => decide (es.getD j [] ≠ [])).map fun j => (j, es.getD j [])
theorem exPre_all (es : List (List UInt8)) : exPre es 20 = exPairs es := rfl
theorem exPre_zero (es : List (List UInt8)) : exPre es 0 = [] := rfl
theorem exPre_yes {es : List (List UInt8)} {j : Nat} (h : es.getD j [] ≠ []) : exPre es (j + 1) = exPre es j ++ [(j, es.getD j [])] := by
 unfold exPre
 rw [List.range_succ, List.filter_append, List.map_append, List.filter_cons, if_pos (decide_eq_true h)]
 rfl
theorem exPre_no {es : List (List UInt8)} {j : Nat} (h : es.getD j [] = []) : exPre es (j + 1) = exPre es j := by
 unfold exPre
 rw [List.range_succ, List.filter_append, List.map_append, List.filter_cons, if_neg (by rw [decide_eq_true_eq]; exact fun c => c h)]
 simp
theorem exPre_pre (es : List (List UInt8)) {n m : Nat} (h : n ≤ m) : exPre es n = (exPre es m).take (exPre es n).length := by
 obtain ⟨d, rfl⟩ : ∃ d, m = n + d := ⟨m - n, by omega⟩
 have e : ∃ r, exPre es (n + d) = exPre es n ++ r := by
  unfold exPre
  rw [List.range_add, List.filter_append, List.map_append]
  exact ⟨_, rfl⟩
 obtain ⟨r, e⟩ := e
 rw [e, List.take_left]
theorem exPre_end {K : Nat} {P : Nat → Option (List UInt8)} {es : List (List UInt8)} {n : Nat} (hn : n ≤ 20) (hl : (knownP K P).length + (exPre es n).length ≤ K) (h : n = 20 ∨ (knownP K P).length + (exPre es n).length = K) : exPre es n = lentE K P (exPairs es) := by
 unfold lentE
 rcases h with rfl | h
 ·rw [exPre_all] at hl ⊢
  rw [List.take_of_length_le (by omega)]
 ·rw [← exPre_all, show K - (knownP K P).length = (exPre es n).length from by omega]
  exact exPre_pre es hn
def knownTo (P : Nat → Option (List UInt8)) (n : Nat) : List Nat := (List.range n).filter fun i => (P i).isSome
theorem known_all (K : Nat) (P : Nat → Option (List UInt8)) : knownTo P K = knownP K P := rfl
theorem known_yes {P : Nat → Option (List UInt8)} {n : Nat} (h : (P n).isSome = true) : knownTo P (n + 1) = knownTo P n ++ [n] := by
 unfold knownTo
 rw [List.range_succ, List.filter_append, List.filter_cons, if_pos h]
 rfl
theorem known_no {P : Nat → Option (List UInt8)} {n : Nat} (h : (P n).isSome = false) : knownTo P (n + 1) = knownTo P n := by
 unfold knownTo
 rw [List.range_succ, List.filter_append, List.filter_cons, if_neg (by rw [h]; decide)]
 simp
theorem knownTo_le (P : Nat → Option (List UInt8)) (n : Nat) : (knownTo P n).length ≤ n := Nat.le_trans (List.length_filter_le _ _) (by simp)
theorem allS_known (size K : Nat) (P : Nat → Option (List UInt8)) (es : List (Nat × List UInt8)) (h : ∀ i, i < K → (P i).isSome = true) : allS size K P es = (List.range K).map fun i => (P i).getD [] := by
 unfold allS
 refine List.map_congr_left (fun i hi => ?_)
 obtain ⟨p, hp⟩ := Option.isSome_iff_exists.1 (h i (List.mem_range.1 hi))
 unfold madeS
 rw [hp]
 rfl
end Go.Proofs.YtonjphollmdicaaGreatDoor
