import Derived.Test.YtonjphollmdicaaGreatDoorB27
import Derived.Test.YtonjphollmdicaaGreatDoorB34
import Derived.Test.YtonjphollmdicaaGreatDoorB40
import Derived.Test.YtonjphollmdicaaGreatDoorB41
import Derived.Deep.CutRange
namespace Go.Proofs.YtonjphollmdicaaGreatDoor
open Go.ChangeShapes Go.WideShapes Go.ChangeAt Go.RowKit
theorem looked_cases {fs : List FileL} {vs : List (List UInt8)} : (∃ n, lookedL fs vs = .inr n ∧ (n = 1 ∨ n = 3 ∨ n = 4)) ∨ ∃ s, readL (findL vs) = .inl s ∧ lookedL fs vs = .inl (leftOf fs s) := by
 unfold lookedL
 split
 ·cases h : readL (findL vs) with
  | inr n => exact .inl ⟨n, rfl, .inr (readL_no h)⟩
  | inl s => exact .inr ⟨s, rfl, rfl⟩
 ·exact .inl ⟨1, rfl, .inl rfl⟩
theorem pair_at (W : World) (x y : Value) (t : TypeId) (g : Nat) (hg : g = W.heap.size) : ∀ j u, [x, y][j]? = some u → (W.alloc (.cells #[x, y] t)).cell? ((⟨g, 0, none⟩ : Addr).add j) = some u := by
 subst hg; exact two_new W x y t
theorem pair_ones {x y : ByteArray} : ∀ u ∈ [Value.string x, .string y], u.oneCell' = true := by
 intro u hu
 simp at hu
 rcases hu with rfl | rfl <;> rfl
theorem filesV_app' (l m : List FileL) : filesV (l ++ m) = filesV l ++ filesV m := by unfold filesV; rw [List.flatMap_append]
theorem joinD_len' : ∀ (ds : List DescL) (s : List (List UInt8)), (joinL ds s).length = ds.length
 | [], _ => rfl
 | d :: r, s => by
  unfold joinL
  rw [List.length_cons, List.length_cons, joinD_len' r]
theorem known_full {K : Nat} {P : Nat → Option (List UInt8)} (h : K - (knownP K P).length = 0) : ∀ i, i < K → (P i).isSome = true := by
 have hl := known_le K P
 have e : (knownP K P).length = (List.range K).length := by rw [List.length_range]; omega
 unfold knownP at e
 rw [List.length_filter_eq_length_iff] at e
 exact fun i hi => e i (List.mem_range.2 hi)
theorem flat_snoc (l : List (List UInt8)) (a k : Nat) (h : a + k < l.length) : ((l.drop a).take (k + 1)).flatten = ((l.drop a).take k).flatten ++ l[a + k] := by
 rw [take_snoc (l.drop a) k (by rw [List.length_drop]; omega), List.flatten_append, List.getElem_drop]
 simp
theorem flat_long {size : Nat} (l : List (List UInt8)) (h : ∀ t ∈ l, t.length = size) (a k : Nat) (hk : a + k ≤ l.length) : ((l.drop a).take k).flatten.length = k * size := by
 rw [flat_len (size := size) _ (fun t ht => h t (List.mem_of_mem_drop (List.mem_of_mem_take ht))), List.length_take, List.length_drop, Nat.min_eq_left (by omega)]
set_option maxRecDepth 100000 in
set_option maxHeartbeats 4000000 in
theorem rRepair_walk (fs : List FileL) (vs : List (List UInt8)) (a b : Option Addr) (ca cb : Nat) (hn : fs.length ≤ 4398046511104) (hv : vs.length ≤ 8796093022208) (w : World) (hfa : Rd w a (filesV fs)) (hvb : Rd w b (strV vs)) :
  Calls Tryz.prog 21 #[.slice a fs.length ca, .slice b vs.length cb] w fun e w' => RepRes (repairL fs vs) w e w' := by
 have hL := hid_of (rLooked_walk fs vs a b ca cb hn hv w hfa hvb)
 obtain ⟨i0, hi, hz0, hz1, hz2⟩ := info_parts Tryz.infoFile
 clear hfa hvb
 go_enter Tryz.func21, Tryz.ntmps21
 go_wp2_with fail
 refine hL.out.mono ?_
 rintro e w1 hres
 clear hL
 rcases looked_cases (fs := fs) (vs := vs) with ⟨n, hlk, hn0⟩ | ⟨s, hrd, hlk⟩
 ·rw [hlk] at hres
  obtain ⟨hb1, rfl⟩ := hres
  have hrep : repairL fs vs = .inr n := by unfold repairL; rw [hlk]
  have HREP := hid_of hrep
  have hb2 : Below w.heap.size w (w1.alloc (.cells #[.int .i64 0, .slice none 0 0, .slice none 0 0, .slice none 0 0, .slice none 0 0, .slice none 0 0, .int .i64 0, .int .i64 0] 42)) := hb1.alloc hb1.size _
  have HB2 := hid_of hb2
  unfold noLeft
  clear hb1 hb2 hlk hrep
  rcases hn0 with rfl | rfl | rfl
  all_goals
   go_wp2_with fail
   go_ret2
   rw [HREP.out]
   exact ⟨HB2.out, rfl⟩
 ·rw [hlk] at hres
  obtain ⟨hb1, v, rfl, fv, xv, svs, slv, stv, prv, rfl, hfv, hsvs, hxv, hslv, hstv, hprv⟩ := hres
  obtain ⟨p1, p2, p3, p4⟩ := left_pieces fs s
  obtain ⟨y1, y2, y3, y4, y5⟩ := readL_yes hrd
  obtain ⟨z1, z2, z3, z4⟩ := read_even hrd
  obtain ⟨fa, fc, rfl, -⟩ := row_rd hfv
  obtain ⟨xa, xc, rfl, hxr⟩ := row_rd hxv
  obtain ⟨sa, sc, rfl, hsr⟩ := row_rd hslv
  obtain ⟨pa, pc, rfl, hpr⟩ := row_rd hprv
  obtain ⟨ta, tc, rfl, -⟩ := row_rd hstv
  have hset : (leftOf fs s).set = s := rfl
  rw [hset] at *
  obtain ⟨K, hKd⟩ : ∃ x, x = (dHashes s.files).length := ⟨_, rfl⟩
  obtain ⟨PP, hPP⟩ : ∃ x, x = pieceOf fs s := ⟨_, rfl⟩
  rw [← hKd, ← hPP] at p1 p2 p3
  rw [p1] at hsr
  rw [p2] at hpr
  rw [p1, p2, p3, p4, y5, List.length_map, List.length_range, List.length_map, List.length_range]
  have hold := OldSet.start (s := s) hfv hsvs hxv
  obtain ⟨LO, hLO⟩ : ∃ x, x = K - (knownP K PP).length := ⟨_, rfl⟩
  obtain ⟨EX, hEX⟩ : ∃ x, x = exN s.extra := ⟨_, rfl⟩
  rw [← hLO, ← hEX]
  obtain ⟨nf, hnf⟩ : ∃ x, x = s.files.length := ⟨_, rfl⟩
  obtain ⟨nt, hnt⟩ : ∃ x, x = (leftOf fs s).states.length := ⟨_, rfl⟩
  rw [← hnf, ← hnt]
  obtain ⟨W2, hW2⟩ : ∃ x, x = w1.alloc (.cells #[.int .i64 (s.size : Int), .slice fa nf fc, .slice xa 20 xc, .slice sa K sc, .slice ta nt tc, .slice pa K pc, .int .i64 (LO : Int), .int .i64 (EX : Int)] 42) := ⟨_, rfl⟩
  have hbk2 := Blk.new w1 #[.int .i64 (s.size : Int), .slice fa nf fc, .slice xa 20 xc, .slice sa K sc, .slice ta nt tc, .slice pa K pc, .int .i64 (LO : Int), .int .i64 (EX : Int)] 42
  rw [← hW2] at hbk2
  have hb12 : Below w1.heap.size w1 W2 := by rw [hW2]; exact (Below.refl _ _).alloc (Nat.le_refl _) _
  have hbw2 : Below w.heap.size w W2 := Below.next hb1 hb12
  have hex20 := exN_le s.extra
  rw [← hEX, y5] at hex20
  have hLOK : LO ≤ 60 := by omega
  have hS : ∀ W, Below W2.heap.size W2 W → W.cell? ⟨w1.heap.size, 1, none⟩ = some (.slice fa nf fc) ∧ W.cell? ⟨w1.heap.size, 3, none⟩ = some (.slice sa K sc) ∧ W.cell? ⟨w1.heap.size, 6, none⟩ = some (.int .i64 (LO : Int)) ∧ W.cell? ⟨w1.heap.size, 7, none⟩ = some (.int .i64 (EX : Int)) := fun W hW => by
   have hk := hbk2.touch (Touch.of_below hW []) (by simp)
   exact ⟨(hk 1 _ rfl).1, (hk 3 _ rfl).1, (hk 6 _ rfl).1, (hk 7 _ rfl).1⟩
  obtain ⟨q1, q3, q6, q7⟩ := hS W2 (Below.refl _ _)
  have HS := hid_of hS
  have HW2 := hid_of hW2
  have HBW2 := hid_of hbw2
  have HBK := hid_of hbk2
  have HOLD := hid_of (hold.touch (Touch.of_below hb12 []) (by simp))
  have HXR := hid_of (hxr.later (Nat.le_refl _) hb12)
  have HSR := hid_of (hsr.later (Nat.le_refl _) hb12)
  have HPR := hid_of (hpr.later (Nat.le_refl _) hb12)
  have HLK := hid_of hlk
  have HKD := hid_of hKd
  have HPP := hid_of hPP
  have HLO := hid_of hLO
  have HEX := hid_of hEX
  have HNF := hid_of hnf
  have HZ3 := hid_of z3
  have HZ4 := hid_of z4
  rw [← hKd] at y4 z2
  rw [← hnf] at y3
  have hPl : ∀ i p, PP i = some p → p.length = s.size := fun i p hp => by rw [hPP] at hp; exact first_len (by omega) hp
  have HPL := hid_of hPl
  clear hfv hsvs hxv hslv hstv hprv hxr hsr hpr hold hbk2 hb12 hbw2 hS hW2 hlk hKd hPP hLO hEX hnf hnt hb1 z3 z4 p1 p2 p3 p4 hset hrd hPl
  by_cases hlost : EX < LO
  ·have hrep : repairL fs vs = .inr 5 := by
    unfold repairL
    rw [HLK.out]
    have e1 : (leftOf fs s).extra = EX := HEX.out.symm
    have e2 : (leftOf fs s).lost = LO := by rw [(left_pieces fs s).2.2.1, HLO.out, HKD.out, HPP.out]
    simp only
    rw [e1, e2, if_pos hlost]
   have HREP := hid_of hrep
   clear hrep
   go_wp2_with fail
   rw [← HW2.out]
   go_ret2
   rw [HREP.out]
   exact ⟨HBW2.out, rfl⟩
  ·obtain ⟨A, hA⟩ : ∃ x, x = allS s.size K PP (exPairs s.extra) := ⟨_, rfl⟩
   have hAl : A.length = K := by rw [hA]; simp [allS]
   have hAs : ∀ t ∈ A, t.length = s.size := fun t ht => by
    rw [hA] at ht
    unfold allS at ht
    obtain ⟨i, _, rfl⟩ := List.mem_map.1 ht
    exact madeS_len s.size K PP _ z1 HPL.out i
   have HAS := hid_of hAs
   have HAE := hid_of hA
   clear hA hAs
   go_upto_if 37 with fail
   rw [← HW2.out]
   go_cut [8] from 34 to 38 (fun x wx => ∃ (aA : Option Addr) (cA : Nat), x = Value.slice aA K cA ∧ Rd wx aA (strV A) ∧ Below W2.heap.size W2 wx)
   case first =>
    by_cases h0 : LO = 0
    ·subst h0
     go_wp2_with fail
     go_meet
     exact ⟨sa, sc, rfl, by rw [HAE.out, allS_known _ _ _ _ (known_full HLO.out.symm)]; exact HSR.out, Below.refl _ _⟩
    ·have hlp : 0 < LO := by omega
     have han := ranew_walk PP s.extra K s.size w1.heap.size (.slice fa nf fc) (.slice ta nt tc) xa sa pa xc sc pc (.int .i64 (LO : Int)) (.int .i64 (EX : Int)) (by omega) (by omega) (by omega) (by omega) z1 HPL.out y5 HZ3.out (by rw [← HLO.out, ← exN_pairs y5, ← HEX.out]; omega) W2 HBK.out HXR.out HSR.out HPR.out
     rw [← HAE.out] at han
     have HAN := hid_of han
     clear han
     go_wp2_with fail
     refine HAN.out.mono ?_
     rintro e w3 ⟨v3, rfl, ho3, hb3⟩
     obtain ⟨aA, cA, rfl, hr3⟩ := row_rd ho3
     have R3 := hid_of hr3
     have B3 := hid_of hb3
     clear ho3 hr3 hb3
     go_wp2_with fail
     go_meet
     exact ⟨aA, cA, rfl, R3.out, B3.out⟩
   case rest =>
   obtain ⟨aA, cA, rfl, hAr, hbW⟩ := hcut
   obtain ⟨W3, rfl⟩ : ∃ x, x = wc := ⟨_, rfl⟩
   obtain ⟨M, hM⟩ : ∃ x, x = joinL s.files A := ⟨_, rfl⟩
   have hMl : M.length = nf := by rw [hM, joinD_len', HNF.out]
   have hMk : ∀ k (h : k < s.files.length), M[k]? = some (s.files[k].name, ((A.drop (offD s.files k)).take s.files[k].slices.length).flatten.take s.files[k].long) := fun k h => by rw [hM]; exact joinD_at s.files A k h
   have HMK := hid_of hMk
   have HAR := hid_of hAr
   have HB3 := hid_of hbW
   have hRE : repairL fs vs = if hashOk s.files M then .inl M else .inr 6 := by
    unfold repairL
    rw [HLK.out]
    have e1 : (leftOf fs s).extra = EX := HEX.out.symm
    have e2 : (leftOf fs s).lost = LO := by rw [(left_pieces fs s).2.2.1, HLO.out, HKD.out, HPP.out]
    have e3 : madeL fs (leftOf fs s).set = M := by
     unfold madeL
     rw [hM, HAE.out, HKD.out, HPP.out]
     rfl
    simp only
    rw [e1, e2, if_neg hlost, e3]
    rfl
   have HRE := hid_of hRE
   obtain ⟨q1, q3, q6, q7⟩ := HS.out W3 hbW
   clear hM hMk hAr hbW hRE
   go_wp2_with fail
   go_loopw [9, 10, 11, 12, 13, 14, 15] (fun o fr i _ _ _ _ W => ∃ k : Nat, k ≤ nf ∧ i = .int .i64 (k : Int) ∧ fr = .int .i64 ((offD s.files k : Nat) : Int) ∧ W.ownsRow W3.heap.size 62 2 o k (filesV (M.take k)) ∧ Hid (∀ (j : Nat) (d : DescL) (f : FileL), j < k → s.files[j]? = some d → M[j]? = some f → hashL f.2 = d.hash) ∧ Below W3.heap.size W3 W)
    (fun _ _ i _ _ _ _ _ => nf - (intOf i).toNat)
   case atStart => exact ⟨0, by omega, rfl, rfl, World.ownsRow_nil _ _ _ _, hid_of (fun j d f h => absurd h (by omega)), Below.refl _ _⟩
   case round =>
    obtain ⟨k, hk, rfl, rfl, hown, hok, hbl⟩ := hrel
    have hb2r := Below.next HB3.out hbl
    have hbwr := Below.next HBW2.out hb2r
    obtain ⟨q1, q3, q6, q7⟩ := HS.out wr hb2r
    have hszw : w.heap.size ≤ wr.heap.size := hbwr.size
    by_cases hlt : k < nf
    ·have hkf : k < s.files.length := by rw [← HNF.out]; exact hlt
     obtain ⟨bb, off, da, dc, hfe, e1, e2, e3, e4, -⟩ := (HOLD.out.touch (Touch.of_below hb2r []) (by simp)).file k hkf
     subst hfe
     have hMd := HMK.out k hkf
     have hoff := offD_le s.files k hkf
     have hnx := offD_next s.files k hkf
     have hz4 := HZ4.out _ (List.getElem_mem hkf)
     have hdk : s.files[k]? = some s.files[k] := List.getElem?_eq_getElem hkf
     rw [← HKD.out] at hoff
     obtain ⟨d, hd⟩ : ∃ d, d = s.files[k] := ⟨_, rfl⟩
     rw [← hd] at e1 e2 e3 e4 hMd hoff hnx hz4 hdk
     obtain ⟨fr, hfr⟩ : ∃ x, x = offD s.files k := ⟨offD s.files k, rfl⟩
     rw [← hfr] at hMd hoff hnx ⊢
     obtain ⟨nm, hnm⟩ : ∃ x, x = d.name := ⟨d.name, rfl⟩
     obtain ⟨lg, hlg⟩ : ∃ x, x = d.long := ⟨d.long, rfl⟩
     obtain ⟨hh, hhh⟩ : ∃ x, x = d.hash := ⟨d.hash, rfl⟩
     obtain ⟨nn, hnn⟩ : ∃ x, x = d.slices.length := ⟨d.slices.length, rfl⟩
     rw [← hnm] at e1 hMd hz4
     rw [← hlg] at e2 hMd hz4
     rw [← hhh] at e3
     rw [← hnn] at e4 hMd hz4 hoff hnx
     obtain ⟨Wd, hWd⟩ : ∃ x, x = wr.alloc (.cells #[.string (str nm), .int .i64 (lg : Int), .int .u64 (hh : Int), .slice da nn dc] 101) := ⟨_, rfl⟩
     have hbkd := Blk.new wr #[.string (str nm), .int .i64 (lg : Int), .int .u64 (hh : Int), .slice da nn dc] 101
     rw [← hWd] at hbkd
     have hbd : Below wr.heap.size wr Wd := by rw [hWd]; exact (Below.refl _ _).alloc (Nat.le_refl _) _
     have HBD := hid_of (Below.next hbl hbd)
     have HOD := hid_of (ownsRow_later hown (Nat.le_refl _) hbd)
     have HBKD := hid_of hbkd
     have HWD := hid_of hWd
     have HBWD := hid_of (Below.next hbwr hbd)
     have HMD := hid_of hMd
     have HNX := hid_of hnx
     have HDK := hid_of hdk
     have HHH := hid_of hhh
     have hszd : wr.heap.size < Wd.heap.size := by rw [hWd]; simp
     obtain ⟨z40, z41, z42⟩ := hz4
     have HZ40 := hid_of z40
     clear hown hbl hb2r hbwr hbkd hbd hWd hMd hnx hdk hd hfr hnm hlg hhh hnn hkf z40 q6 q7
     go_wp2_with fail
     rw [← HWD.out]
     obtain ⟨Wi, rfl⟩ : ∃ x, x = wr := ⟨wr, rfl⟩
     go_loopw [13, 14] (fun dt q W => ∃ q' : Nat, q' ≤ nn ∧ q = .int .i64 (q' : Int) ∧ dt = .string (str ((A.drop fr).take q').flatten) ∧ Below Wd.heap.size Wd W)
      (fun _ q _ => nn - (intOf q).toNat)
     case atStart => exact ⟨0, by omega, rfl, rfl, Below.refl _ _⟩
     case round =>
      obtain ⟨q, hq, rfl, rfl, hblq⟩ := hrel
      have hkd := HBKD.out.touch (Touch.of_below hblq []) (by simp)
      have d0 := (hkd 0 _ rfl).1
      have d1 := (hkd 1 _ rfl).1
      have d2 := (hkd 2 _ rfl).1
      have d3 := (hkd 3 _ rfl).1
      have hfl := flat_long A HAS.out fr q (by omega)
      have hqb : q * s.size ≤ 60 * 32 := Nat.mul_le_mul (by omega) (by omega)
      by_cases hql : q < nn
      ·have hin : fr + q < A.length := by omega
       obtain ⟨ab, ao, rfl, hac⟩ := (HAR.out.later (Nat.le_refl _) (Below.next HBD.out hblq)) (fr + q) (.string (str A[fr + q])) (by simp [strV, hin])
       have hsn := flat_snoc A fr q hin
       have htl := HAS.out _ (List.getElem_mem hin)
       obtain ⟨tx, htx⟩ : ∃ x, x = A[fr + q] := ⟨_, rfl⟩
       rw [← htx] at hac hsn htl
       obtain ⟨F, hF⟩ : ∃ x, x = ((A.drop fr).take q).flatten := ⟨_, rfl⟩
       rw [← hF] at hsn hfl ⊢
       have hcat : str F ++ str tx = str (F ++ tx) := by rw [str_add, str_data]
       have hs1 := str_size F
       have hs2 := str_size tx
       have HSN := hid_of hsn
       have HBQ := hid_of hblq
       clear hsn hblq hF htx hkd
       go_wp2_with fail
       exact ⟨⟨q + 1, by omega, by go_num, by rw [HSN.out], HBQ.out⟩, by simp [intOf]; omega⟩
      ·obtain rfl : nn = q := by omega
       obtain ⟨F, hF⟩ : ∃ x, x = ((A.drop fr).take nn).flatten := ⟨_, rfl⟩
       have hMd := HMD.out
       rw [← hF] at hMd hfl ⊢
       have hle : lg ≤ F.length := by rw [hfl]; exact HZ40.out
       have hs1 := str_size F
       have hext : (str F).extract 0 lg = str (F.take lg) := by rw [str_extract]; simp
       obtain ⟨D, hD⟩ : ∃ x, x = F.take lg := ⟨_, rfl⟩
       rw [← hD] at hMd hext
       have hDl : D.length ≤ 400 := by rw [hD, List.length_take]; omega
       have hHs := rHash_l D (by omega)
       obtain ⟨n1, hn1⟩ : ∃ x, x = hashL D := ⟨hashL D, rfl⟩
       rw [← hn1] at hHs
       have HHS := hid_of hHs
       have HMD' := hid_of hMd
       have HN1 := hid_of hn1
       have HBQ := hid_of hblq
       clear hF hD hHs hn1 hMd hblq hkd
       go_wp2_with fail
       refine (HHS.out _).mono ?_
       rintro e w' ⟨rfl, hw'⟩
       rw [hw']
       clear hw' w'
       have hkw := HBKD.out.touch (Touch.of_below HBQ.out []) (by simp)
       have hown9 := ownsRow_later HOD.out (Nat.le_refl _) HBQ.out
       have hsz9 : w.heap.size ≤ wr.heap.size := by have := HBQ.out.size; omega
       have hbw9 := Below.next HBWD.out HBQ.out
       have hb39 := Below.next HBD.out HBQ.out
       have HO9 := hid_of hown9
       have HBW9 := hid_of hbw9
       have HB39 := hid_of hb39
       clear hkw hown9 hbw9 hb39 HBQ
       by_cases heq : n1 = hh
       ·subst heq
        have htk : M.take (k + 1) = M.take k ++ [(nm, D)] := by
         have hkM : k < M.length := by omega
         rw [take_snoc M k hkM]
         congr 2
         have := HMD'.out
         rw [List.getElem?_eq_getElem hkM] at this
         exact Option.some.inj this
        have hok2 : ∀ (j : Nat) (d' : DescL) (f : FileL), j < k + 1 → s.files[j]? = some d' → M[j]? = some f → hashL f.2 = d'.hash := by
         intro j d' f hj hd' hf
         by_cases c : j < k
         ·exact hok.out j d' f c hd' hf
         ·obtain rfl : j = k := by omega
          rw [HDK.out] at hd'
          rw [HMD'.out] at hf
          cases hd'
          cases hf
          rw [← HHH.out, HN1.out]
        have HTK := hid_of htk
        have HOK2 := hid_of hok2
        clear htk hok2 hok
        have hsz3 : W3.heap.size ≤ wr.heap.size := HB39.out.size
        go_wp2_with (at_builtin; refine wpList_append_own _ rfl (.tmp 83) (.tmp 88) 22 rfl W3.heap.size 62 i0 (.agg #[.string ByteArray.empty, .string ByteArray.empty]) 2 32 Tryz.underlying22 hi hz0 hz1 hz2 rfl (by decide) _ _ _ rfl (HO9.out.alloc _) ⟨wr.heap.size, 0, none⟩ 1 1 [.string (str nm), .string (str D)] rfl rfl ?c1 ?c2 ?c3 ?c4 ?c5 ?_)
        case c1 => exact pair_at _ _ _ _ _ rfl
        case c2 => exact pair_ones
        case c3 => unfold maxLen; omega
        case c4 => omega
        case c5 => simp; omega
        intro v9 w9 ho9 hg9 _
        have hb9 := below_step HB39.out hsz3 HO9.out hg9
        have K1 := hid_of ho9
        have K2 := hid_of hb9
        clear ho9 hg9 hb9
        go_wp2_with fail
        go_roundw
        case rel =>
         refine ⟨k + 1, by omega, by go_num, by rw [HNX.out]; go_num, ?_, HOK2, K2.out⟩
         rw [HTK.out, filesV_app']
         exact K1.out
        case measure => simp [intOf]; omega
       ·have hne : ((n1 : Int) == (hh : Int)) = false := beq_eq_false_iff_ne.2 (by omega)
        have hno : hashOk s.files M = false := hashOk_no HDK.out HMD'.out (by rw [← HHH.out, ← HN1.out]; exact heq)
        have HNO := hid_of hno
        clear hno hok
        go_wp2_with fail
        go_ret2
        rw [HRE.out, HNO.out]
        exact ⟨HBW9.out, rfl⟩
    ·obtain rfl : nf = k := by omega
     have hyes : hashOk s.files M = true := (hashOk_iff _ _).2 (fun j d f hd hf => hok.out j d f (by rw [HNF.out]; exact (List.getElem?_eq_some_iff.1 hd).1) hd hf)
     rw [List.take_of_length_le (by omega)] at hown
     have K1 := hid_of (ownsRow_base (HBW2.out.trans (HB3.out.mono HBW2.out.size)).size hown)
     have K2 := hid_of hbwr
     have HYE := hid_of hyes
     clear hown hyes hbwr hbl hb2r hok
     go_wp2_with fail
     go_ret2
     rw [HRE.out, HYE.out]
     refine ⟨K2.out, _, rfl, ?_⟩
     rw [hMl]
     exact K1.out
end Go.Proofs.YtonjphollmdicaaGreatDoor
namespace Go.Proofs.YtonjphollmdicaaGreatDoor
open Go.ChangeShapes Go.WideShapes Go.ChangeAt Go.RowKit
theorem lent_at (fs : List FileL) (i : Nat) (h : i < fs.length + 8) : ∃ f : FileL, (filesV (lentL fs 8))[i * 2]? = some (.string (str f.1)) ∧ (filesV (lentL fs 8))[i * 2 + 1]? = some (.string (str f.2)) ∧ (i < fs.length → fs[i]? = some f) ∧ (¬ i < fs.length → f = spareF) := by
 have hl : (lentL fs 8).length = fs.length + 8 := by simp [lentL]
 obtain ⟨h1, h2⟩ := filesV_get (lentL fs 8) i (by omega)
 rw [Nat.mul_comm] at h1 h2
 refine ⟨(lentL fs 8)[i]'(by omega), h1, h2, fun h' => ?_, fun h' => ?_⟩
 ·simp [lentL, h']
 ·unfold lentL
  rw [List.getElem_append_right (show fs.length ≤ i from by omega)]
  exact List.getElem_replicate _
theorem below_grownBy {W W' : World} {r : Option Nat} (h : Below W.heap.size W W') : W.grownBy W' r := ⟨h.os, h.tape, h.output, h.size, fun k hk _ => h.block k hk⟩
theorem keep4 {w3 W w' : World} {a1 a2 a3 a4 : Addr} {v1 v2 v3 v4 : Value} (h : W.cell? a1 = some v1 ∧ W.cell? a2 = some v2 ∧ W.cell? a3 = some v3 ∧ W.cell? a4 = some v4 ∧ Below w3.heap.size w3 W) (hb : Below W.heap.size W w') :
  w'.cell? a1 = some v1 ∧ w'.cell? a2 = some v2 ∧ w'.cell? a3 = some v3 ∧ w'.cell? a4 = some v4 ∧ Below w3.heap.size w3 w' := by
 obtain ⟨h1, h2, h3, h4, h5⟩ := h
 refine ⟨?_, ?_, ?_, ?_, Below.next h5 hb⟩
 ·rw [hb.cell (World.block_lt_of_cell? W _ h1)]; exact h1
 ·rw [hb.cell (World.block_lt_of_cell? W _ h2)]; exact h2
 ·rw [hb.cell (World.block_lt_of_cell? W _ h3)]; exact h3
 ·rw [hb.cell (World.block_lt_of_cell? W _ h4)]; exact h4
theorem own_written {W : World} {B g m c : Nat} {xs ys : List Value} {k : Nat} {u v : Value} (h : W.ownsRow B 62 2 (.slice (some ⟨g, 0, none⟩) m c) m xs) (hx : ∀ j, k * 2 ≤ j → xs[j]? = ys[j]?) :
  ((W.setCell ⟨g, k * 2, none⟩ u).setCell ⟨g, k * 2 + 1, none⟩ v).ownsRow B 62 2 (.slice (some ⟨g, 0, none⟩) m c) m ((xs.set (k * 2) u).set (k * 2 + 1) v) ∧ ∀ j, (k + 1) * 2 ≤ j → ((xs.set (k * 2) u).set (k * 2 + 1) v)[j]? = ys[j]? := by
 refine ⟨((h.stored _ u).1.stored _ v).1, fun j hj => ?_⟩
 rw [List.getElem?_set_ne (by omega), List.getElem?_set_ne (by omega)]
 exact hx j (by omega)
set_option maxRecDepth 100000 in
set_option maxHeartbeats 1000000 in
theorem wholeFiles_walk (fs : List FileL) (a : Option Addr) (cap : Nat) (v : Value) (w0 w : World) (hn : fs.length + 8 ≤ 4398046511104) (hs : ∀ f ∈ fs, f.1.length < 140737488355328 ∧ f.2.length < 140737488355328) (hrd : Rd w0 a (filesV fs)) (hb : Below w0.heap.size w0 w) (hl : Lent w w0.heap.size v fs) :
  Calls Tryz.prog 15 #[v, .slice a fs.length cap] w fun e w' => e = .returned (.bool true) ∧ w.grownBy w' v.ownBlock := by
 obtain ⟨g, c, rfl, hc, hown⟩ := hl
 have hsz := hb.size
 have HRD := hid_of hrd
 have HS := hid_of hs
 have HO := hid_of hown
 have hgb0 : w0.heap.size ≤ g := (hown.lt g (by simp [Value.ownBlock])).1
 have HB := hid_of hb
 have HAT := hid_of (fun i h => lent_at fs i h)
 clear hrd hs hown hb
 obtain ⟨n, hN⟩ : ∃ n, n = fs.length := ⟨_, rfl⟩
 have HN := hid_of hN
 rw [← hN] at hn hc HO ⊢
 rw [← hN] at HAT
 clear hN
 go_enter Tryz.func15, Tryz.ntmps15
 go_wp2_with fail
 go_loopw [5, 7, 8, 9] (fun ok i _ _ W => ∃ (k : Nat) (xs : List Value), k ≤ n + 8 ∧ ok = .bool true ∧ i = .int .i64 (k : Int) ∧ W.ownsRow w0.heap.size 62 2 (.slice (some ⟨g, 0, none⟩) (n + 8) c) (n + 8) xs ∧ Hid (∀ j, k * 2 ≤ j → xs[j]? = (filesV (lentL fs 8))[j]?) ∧ w.grownBy W (some g))
  (fun _ i _ _ _ => n + 8 - (intOf i).toNat)
 case atStart => exact ⟨0, _, by omega, rfl, rfl, HO.out, hid_of (fun _ _ => rfl), ⟨rfl, rfl, rfl, Nat.le_refl _, fun _ _ _ => rfl⟩⟩
 case round =>
  clear HO
  obtain ⟨k, xs, hk, rfl, rfl, hownr, HX, hgr⟩ := hrel
  have hbl : Below w0.heap.size w0 wr := HB.out.grown hgr hsz (by intro kk hkk; cases hkk; exact hgb0)
  have HGR := hid_of hgr
  clear hgr
  have hszr := hbl.size
  by_cases hlt : k < n + 8
  ·obtain ⟨f, hf1, hf2, hf3, hf4⟩ := HAT.out k hlt
   rw [← HX.out _ (by omega)] at hf1 hf2
   have hc1 : wr.cell? ⟨g, k * 2, none⟩ = some (.string (str f.1)) := by rw [hownr.cellAt _ (by omega)]; exact hf1
   have hc2 : wr.cell? ⟨g, k * 2 + 1, none⟩ = some (.string (str f.2)) := by rw [hownr.cellAt _ (by omega)]; exact hf2
   have H1 := hid_of hf3
   have H2 := hid_of hf4
   have H3 := hid_of hownr
   have H4 := hid_of hbl
   clear hf1 hf2 hf3 hf4 hownr hbl
   go_wp2_with fail
   refine (lspare_walk _).mono ?_
   rintro e w2 ⟨rfl, hb2⟩
   have hb3 : Below w0.heap.size w0 w2 := H4.out.trans (hb2.mono hszr)
   have hsz2 : w0.heap.size ≤ w2.heap.size := hb3.size
   have hg2 : g < wr.heap.size := World.block_lt_of_cell? wr _ hc1
   have hg3 : g < w2.heap.size := by have := hb2.size; omega
   have hd1 : w2.cell? ⟨g, k * 2, none⟩ = some (.string (str f.1)) := by rw [hb2.cell hg2]; exact hc1
   have hd2 : w2.cell? ⟨g, k * 2 + 1, none⟩ = some (.string (str f.2)) := by rw [hb2.cell hg2]; exact hc2
   have H5 := hid_of (ownsRow_later H3.out (Nat.le_refl _) hb2)
   have H6 := hid_of hb3
   have HGR2 := hid_of (HGR.out.trans (below_grownBy (r := some g) hb2))
   clear hb2 hb3 H3 H4 hc1 hc2
   by_cases hkn : k < n
   ·have hfk := H1.out hkn
    have hkl : k < fs.length := by rw [← HN.out]; exact hkn
    obtain ⟨b0, off0, rfl, hl1, hl2⟩ := fileCells HRD.out (Nat.le_refl _) H6.out k hkl
    have hfe : fs[k] = f := by
     rw [List.getElem?_eq_getElem hkl] at hfk
     exact Option.some.inj hfk
    rw [hfe] at hl1 hl2
    have hll : b0 < w2.heap.size := World.block_lt_of_cell? w2 _ hl1
    have hl1' : ∀ o, (w2.alloc o).cell? ⟨b0, off0 + k * 2, none⟩ = some (.string (str f.1)) := fun o => by rw [cell_alloc_old hll]; exact hl1
    have hl2' : ∀ o, (w2.alloc o).cell? ⟨b0, off0 + k * 2 + 1, none⟩ = some (.string (str f.2)) := fun o => by rw [cell_alloc_old hll]; exact hl2
    clear hfe hfk H1 H2
    go_wp2_with fail
    clear hl1 hl2 hl1' hl2' hll
    obtain ⟨w3, hw3⟩ : ∃ x, x = w2.alloc (.cells #[.string (str f.1), .string (str f.2)] 62) := ⟨_, rfl⟩
    have he1 : w3.cell? ⟨g, k * 2, none⟩ = some (.string (str f.1)) := by rw [hw3, cell_alloc_old hg3]; exact hd1
    have he2 : w3.cell? ⟨g, k * 2 + 1, none⟩ = some (.string (str f.2)) := by rw [hw3, cell_alloc_old hg3]; exact hd2
    have he3 : w3.cell? ⟨w2.heap.size, 0, none⟩ = some (.string (str f.1)) := by rw [hw3]; simp
    have he4 : w3.cell? ⟨w2.heap.size, 1, none⟩ = some (.string (str f.2)) := by rw [hw3]; simp
    have hb23 : Below w2.heap.size w2 w3 := by rw [hw3]; exact (Below.refl _ _).alloc (Nat.le_refl _) _
    have H7 := hid_of hb23
    rw [← hw3]
    clear hw3 hb23 hd1 hd2
    have hSF := hid_of (fun W => lsameFile_walk f f W)
    rw [show (f == f) = true from by simp] at hSF
    go_region_held (fun W => W.cell? ⟨g, k * 2, none⟩ = some (.string (str f.1)) ∧ W.cell? ⟨g, k * 2 + 1, none⟩ = some (.string (str f.2)) ∧ W.cell? ⟨w2.heap.size, 0, none⟩ = some (.string (str f.1)) ∧ W.cell? ⟨w2.heap.size, 1, none⟩ = some (.string (str f.2)) ∧ Below w3.heap.size w3 W)
     (first | assumption | exact ⟨he1, he2, he3, he4, (Below.refl _ _).drew⟩ | (refine keep4 ?_ hb9; assumption))
     (first | (go_at_call 46; refine (hSF.out _).mono ?_; rintro e w9 ⟨rfl, hb9⟩))
    obtain ⟨q1, q2, _, _, q5⟩ : w9.cell? ⟨g, k * 2, none⟩ = some (.string (str f.1)) ∧ w9.cell? ⟨g, k * 2 + 1, none⟩ = some (.string (str f.2)) ∧ w9.cell? ⟨w2.heap.size, 0, none⟩ = some (.string (str f.1)) ∧ w9.cell? ⟨w2.heap.size, 1, none⟩ = some (.string (str f.2)) ∧ Below w3.heap.size w3 w9 := by assumption
    have hb29 := Below.next H7.out q5
    have hown9 := ownsRow_later H5.out (Nat.le_refl _) hb29
    have hfz1 := hown9.frozenAt (k * 2)
    have hfz2 := hown9.frozenAt (k * 2 + 1)
    have hfin := own_written (u := .string ⟨#[111, 118, 101, 114]⟩) (v := .string ⟨#[]⟩) hown9 HX.out
    have hBf : w.grownBy ((w9.setCell ⟨g, k * 2, none⟩ (.string ⟨#[111, 118, 101, 114]⟩)).setCell ⟨g, k * 2 + 1, none⟩ (.string ⟨#[]⟩)) (some g) := ((HGR2.out.trans (below_grownBy hb29)).trans (grown_set w9 ⟨g, k * 2, none⟩ _)).trans (grown_set _ ⟨g, k * 2 + 1, none⟩ _)
    have K1 := hid_of hfin.1
    have K2 := hid_of hfin.2
    have K3 := hid_of hBf
    clear hb29 hown9 hfin hBf H5 H6 H7 HX HGR HGR2 he1 he2 he3 he4
    go_wp2_with fail
    refine ⟨⟨k + 1, _, by omega, rfl, by go_num, K1.out, K2, K3.out⟩, by simp [intOf]; omega⟩
   ·have hfe := H2.out hkn
    subst hfe
    clear H1 H2
    go_wp2_with fail
    obtain ⟨w3, hw3⟩ : ∃ x, x = w2.alloc (.cells #[.string (str spareL), .string (str spareL)] 62) := ⟨_, rfl⟩
    have he1 : w3.cell? ⟨g, k * 2, none⟩ = some (.string (str spareL)) := by rw [hw3, cell_alloc_old hg3]; exact hd1
    have he2 : w3.cell? ⟨g, k * 2 + 1, none⟩ = some (.string (str spareL)) := by rw [hw3, cell_alloc_old hg3]; exact hd2
    have he3 : w3.cell? ⟨w2.heap.size, 0, none⟩ = some (.string (str spareL)) := by rw [hw3]; simp
    have he4 : w3.cell? ⟨w2.heap.size, 1, none⟩ = some (.string (str spareL)) := by rw [hw3]; simp
    have hb23 : Below w2.heap.size w2 w3 := by rw [hw3]; exact (Below.refl _ _).alloc (Nat.le_refl _) _
    have H7 := hid_of hb23
    rw [← hw3]
    clear hw3 hb23 hd1 hd2
    have hSF := hid_of (fun W => lsameFile_walk spareF spareF W)
    rw [show (spareF == spareF) = true from by simp] at hSF
    go_region_held (fun W => W.cell? ⟨g, k * 2, none⟩ = some (.string (str spareL)) ∧ W.cell? ⟨g, k * 2 + 1, none⟩ = some (.string (str spareL)) ∧ W.cell? ⟨w2.heap.size, 0, none⟩ = some (.string (str spareL)) ∧ W.cell? ⟨w2.heap.size, 1, none⟩ = some (.string (str spareL)) ∧ Below w3.heap.size w3 W)
     (first | assumption | exact ⟨he1, he2, he3, he4, (Below.refl _ _).drew⟩ | (refine keep4 ?_ hb9; assumption))
     (first | (go_at_call 46; refine (hSF.out _).mono ?_; rintro e w9 ⟨rfl, hb9⟩))
    obtain ⟨q1, q2, _, _, q5⟩ : w9.cell? ⟨g, k * 2, none⟩ = some (.string (str spareL)) ∧ w9.cell? ⟨g, k * 2 + 1, none⟩ = some (.string (str spareL)) ∧ w9.cell? ⟨w2.heap.size, 0, none⟩ = some (.string (str spareL)) ∧ w9.cell? ⟨w2.heap.size, 1, none⟩ = some (.string (str spareL)) ∧ Below w3.heap.size w3 w9 := by assumption
    have hb29 := Below.next H7.out q5
    have hown9 := ownsRow_later H5.out (Nat.le_refl _) hb29
    have hfz1 := hown9.frozenAt (k * 2)
    have hfz2 := hown9.frozenAt (k * 2 + 1)
    have hfin := own_written (u := .string ⟨#[111, 118, 101, 114]⟩) (v := .string ⟨#[]⟩) hown9 HX.out
    have hBf : w.grownBy ((w9.setCell ⟨g, k * 2, none⟩ (.string ⟨#[111, 118, 101, 114]⟩)).setCell ⟨g, k * 2 + 1, none⟩ (.string ⟨#[]⟩)) (some g) := ((HGR2.out.trans (below_grownBy hb29)).trans (grown_set w9 ⟨g, k * 2, none⟩ _)).trans (grown_set _ ⟨g, k * 2 + 1, none⟩ _)
    have K1 := hid_of hfin.1
    have K2 := hid_of hfin.2
    have K3 := hid_of hBf
    clear hb29 hown9 hfin hBf H5 H6 H7 HX HGR HGR2 he1 he2 he3 he4
    go_wp2_with fail
    refine ⟨⟨k + 1, _, by omega, rfl, by go_num, K1.out, K2, K3.out⟩, by simp [intOf]; omega⟩
  ·obtain rfl : k = n + 8 := by omega
   clear hownr hbl
   go_wp2_with fail
   go_ret
   exact ⟨rfl, HGR.out⟩
end Go.Proofs.YtonjphollmdicaaGreatDoor
namespace Go.Proofs.YtonjphollmdicaaGreatDoor
open Go.ChangeShapes Go.WideShapes Go.ChangeAt Go.RowKit
theorem sealL_len (k : UInt8) (set : Nat) (b : List UInt8) : (sealL k set b).length = 22 + b.length := by
 unfold sealL headL
 simp only [List.length_append, numBytes_len, List.length_cons, List.length_nil]
 omega
theorem handed_of {W : World} {B : Nat} {v : Value} {fs : List FileL} (h : W.ownsRow B 62 2 v fs.length (filesV fs)) (h0 : 0 < fs.length) (hn : ∀ f ∈ fs, f.1.length < 140737488355328 ∧ f.2.length < 140737488355328) :
  ∃ g c, v = .slice (some ⟨g, 0, none⟩) fs.length c ∧ Handed W fs (some ⟨g, 0, none⟩) c := by
 rcases h.2 with ⟨_, h1⟩ | ⟨g, c, cur, rfl, hb, hg, hnc, _, _, _⟩
 ·omega
 ·refine ⟨g, c, rfl, ⟨?_, hnc, hn⟩⟩
  intro k u hk
  have := h.cells (g := g) rfl k u hk
  have hadd : (⟨g, 0, none⟩ : Addr).add k = ⟨g, 0 + k, none⟩ := by unfold Addr.add; split <;> simp_all
  rw [hadd] at this
  exact ⟨g, 0, rfl, this⟩
def exFs : List FileL := [([97], [0, 1, 0, 2])]
theorem packets_short {size : Nat} {fs : List FileL} {extra : Nat} (h0 : 0 < size) (h32 : size ≤ 32) (hg : goodSet fs size = true) : ∀ t ∈ packetsL size fs extra, t.length ≤ 4000 := by
 unfold goodSet at hg
 rw [Bool.and_eq_true, Bool.and_eq_true] at hg
 obtain ⟨_, h6, hf⟩ := set_facts hg.1.1
 intro t ht
 unfold packetsL at ht
 rw [List.mem_cons, List.mem_append] at ht
 rcases ht with rfl | ht | ht
 ·rw [sealL_len]
  unfold mainL mainBodyL
  simp only [List.length_append, numBytes_len, hashesL_len, List.length_map]
  unfold bodiesL
  simp only [List.length_map, List.length_range]
  omega
 ·unfold fPacketsL at ht
  rw [List.mem_map] at ht
  obtain ⟨b, hb, rfl⟩ := ht
  unfold bodiesL at hb
  rw [List.mem_map] at hb
  obtain ⟨i, hi, rfl⟩ := hb
  have hi := List.mem_range.1 hi
  rw [sealL_len]
  have hmem : fs.getD i ([], []) ∈ fs := by
   rw [List.getD_eq_getElem?_getD, List.getElem?_eq_getElem hi]
   exact List.getElem_mem hi
  have hfi := hf _ hmem
  unfold bodyL fileBodyL fileHeadL
  simp only [List.length_append, numBytes_len, hashesL_len, List.length_map, (cutL_len _ size h0).1]
  have : slicesOfN (fs.getD i ([], [])).2.length size ≤ 400 := by
   unfold slicesOfN
   rw [Nat.div_le_iff_le_mul_add_pred h0]
   have h1 : 400 * 1 ≤ 400 * size := Nat.mul_le_mul_left _ h0
   have h2 : size * 400 = 400 * size := Nat.mul_comm _ _
   omega
  omega
 ·unfold rPacketsL at ht
  rw [List.mem_map] at ht
  obtain ⟨j, _, rfl⟩ := ht
  unfold rPacketL
  rw [sealL_len]
  unfold extraBodyL
  simp only [List.length_append, numBytes_len, textL_len, extraL_len]
  omega
end Go.Proofs.YtonjphollmdicaaGreatDoor
namespace Go.Proofs.YtonjphollmdicaaGreatDoor
open Go.ChangeShapes Go.WideShapes Go.ChangeAt Go.RowKit
theorem body_at (k : UInt8) (set : Nat) (b : List UInt8) : ((sealL k set b).drop 14).take b.length = b := by
 unfold sealL headL
 have e : ([83, 65, 76, k] ++ numBytes set 8 ++ numBytes b.length 2).length = 14 := by simp [numBytes_len]
 rw [List.append_assoc ([83, 65, 76, k] ++ numBytes set 8 ++ numBytes b.length 2), List.drop_append_of_le_length (by rw [e]; exact Nat.le_refl _), List.drop_of_length_le (by rw [e]; exact Nat.le_refl _), List.nil_append, List.take_append_of_le_length (Nat.le_refl _), List.take_length]
theorem ex_body : extraBodyL 0 (textL (extraL (rowsL 2 exFs) 1 0)) = [0, 0, 0, 7] := by decide +kernel
set_option maxRecDepth 100000 in
theorem begun_walk (w : World) :
  Calls Tryz.prog 9 #[] w fun e w' => e = .returned (.bool true) ∧ Below w.heap.size w w' := by
 have hrd : Rd (w.alloc (.cells #[.string ⟨#[97]⟩, .string ⟨#[0, 1, 0, 2]⟩] 62)) (some ⟨w.heap.size, 0, none⟩) (filesV exFs) := by
  intro k u hk
  refine ⟨w.heap.size, 0, rfl, ?_⟩
  rcases k with _ | _ | k
  ·simp [filesV, exFs] at hk; subst hk; simp [str]
  ·simp [filesV, exFs] at hk; subst hk; simp [str]
  ·simp [filesV, exFs] at hk
 have hC := Create_ok exFs 2 1 2 1 (some ⟨w.heap.size, 0, none⟩) 1 rfl rfl (by omega) (by omega) (by omega) (by omega) (by decide) (by decide +kernel) _ ⟨hrd, by simp [exFs], by simp [exFs]⟩
 have hb0 : Below w.heap.size w (w.alloc (.cells #[.string ⟨#[97]⟩, .string ⟨#[0, 1, 0, 2]⟩] 62)) := (Below.refl _ _).alloc (Nat.le_refl _) _
 have HC := hid_of hC
 have HB := hid_of hb0
 clear hC hb0 hrd
 have hpk : packetsL 2 exFs 1 = [sealL 77 (setL 2 exFs) (mainL 2 exFs), sealL 70 (setL 2 exFs) (bodyL 2 exFs 0), rPacketL 2 exFs 1 0] := rfl
 have l0 : (sealL 77 (setL 2 exFs) (mainL 2 exFs)).length = 33 := by rw [sealL_len, mainL_len]; rfl
 have l1 : (sealL 70 (setL 2 exFs) (bodyL 2 exFs 0)).length = 51 := by rw [sealL_len, bodyL_len 2 exFs 0 (by omega)]; rfl
 have l2 : (rPacketL 2 exFs 1 0).length = 26 := by unfold rPacketL extraBodyL; rw [sealL_len, List.length_append, numBytes_len, textL_len, extraL_len]
 have x0 : (str (sealL 77 (setL 2 exFs) (mainL 2 exFs))).extract 0 4 = ⟨#[83, 65, 76, 77]⟩ := by rw [str_extract]; rfl
 have x2 : (str (rPacketL 2 exFs 1 0)).extract 14 18 = ⟨#[0, 0, 0, 7]⟩ := by
  rw [str_extract]
  have := body_at 82 (setL 2 exFs) (extraBodyL 0 (textL (extraL (rowsL 2 exFs) 1 0)))
  rw [ex_body] at this
  unfold rPacketL
  rw [ex_body]
  rw [show (18 - 14) = ([0, 0, 0, 7] : List UInt8).length from rfl, this]
  rfl
 have HP := hid_of hpk
 obtain ⟨p0, hp0⟩ : ∃ x, x = sealL 77 (setL 2 exFs) (mainL 2 exFs) := ⟨_, rfl⟩
 obtain ⟨p1, hp1⟩ : ∃ x, x = sealL 70 (setL 2 exFs) (bodyL 2 exFs 0) := ⟨_, rfl⟩
 obtain ⟨p2, hp2⟩ : ∃ x, x = rPacketL 2 exFs 1 0 := ⟨_, rfl⟩
 rw [← hp0, ← hp1, ← hp2] at HP
 rw [← hp0] at l0 x0
 rw [← hp1] at l1
 rw [← hp2] at l2 x2
 have s0 := str_size p0
 have s1 := str_size p1
 have s2 := str_size p2
 rw [l0] at s0
 rw [l1] at s1
 rw [l2] at s2
 clear hpk hp0 hp1 hp2 l0 l1 l2
 have t1 : Math.mul 2 3 = 6 := by decide +kernel
 have t2 : Math.mul 32768 2 = 4107 := by decide +kernel
 have T1 := hid_of (sTimes_walk 2 3 (by omega) (by omega) w)
 have T2 := hid_of (sTimes_walk 32768 2 (by omega) (by omega) w)
 rw [t1] at T1
 rw [t2] at T2
 go_enter Tryz.func9, Tryz.ntmps9
 go_wp2_with fail
 refine T1.out.mono ?_
 rintro e w' ⟨rfl, hw'⟩
 have hw' := hw'.symm
 subst hw'
 go_wp2_with fail
 refine T2.out.mono ?_
 rintro e w' ⟨rfl, hw'⟩
 have hw' := hw'.symm
 subst hw'
 go_wp2_with fail
 refine HC.out.mono ?_
 rintro e w1 ⟨v, rfl, hown, hb1⟩
 rw [HP.out] at hown
 obtain ⟨g, c, hv⟩ : ∃ g c, v = .slice (some ⟨g, 0, none⟩) 3 c := by
  rcases hown.2 with ⟨_, h1⟩ | ⟨g, c, cur, h1, _⟩
  ·simp [exFs] at h1
  ·exact ⟨_, _, h1⟩
 have hown' : w1.ownsRow (w.alloc (.cells #[.string ⟨#[97]⟩, .string ⟨#[0, 1, 0, 2]⟩] 62)).heap.size 9 1 (.slice (some ⟨g, 0, none⟩) 3 c) 3 (strV [p0, p1, p2]) := by rw [← hv]; exact hown
 have c0 : w1.cell? ⟨g, 0, none⟩ = some (.string (str p0)) := by rw [hown'.cellAt 0 (by omega)]; rfl
 have c1 : w1.cell? ⟨g, 1, none⟩ = some (.string (str p1)) := by rw [hown'.cellAt 1 (by omega)]; rfl
 have c2 : w1.cell? ⟨g, 2, none⟩ = some (.string (str p2)) := by rw [hown'.cellAt 2 (by omega)]; rfl
 rw [hv]
 have hfin := hid_of (Below.next HB.out hb1)
 clear hown hown' hv hb1 HC HB HP T1 T2
 go_wp2_with fail
 go_ret
 exact ⟨rfl, hfin.out⟩
end Go.Proofs.YtonjphollmdicaaGreatDoor
