import Derived.Test.YtonjphollmdicaaGreatDoorB01
import Derived.Test.YtonjphollmdicaaGreatDoorB04
import Derived.Test.YtonjphollmdicaaGreatDoorB10
import Derived.Test.YtonjphollmdicaaGreatDoorB38
import Derived.Test.YtonjphollmdicaaGreatDoorB43
import Derived.Test.YtonjphollmdicaaGreatDoorB44
import Derived.Deep.CutRange
import Derived.Maps.AppendAt
set_option maxRecDepth 100000
set_option maxHeartbeats 4000000
set_option linter.unusedSimpArgs false
namespace Go.Proofs.YtonjphollmdicaaGreatDoor
open Go.ChangeShapes Go.WideShapes Go.ChangeAt Go.RowKit
theorem G9 {fs : List Ak} {vs : List (List UInt8)} : (∃ n, AH fs vs = .inr n ∧ (n = 1 ∨ n = 3 ∨ n = 4)) ∨ ∃ s, EH (At vs) = .inl s ∧ AH fs vs = .inl (Ct fs s) := by
 unfold AH
 split
 ·cases h : EH (At vs) with
  | inr n => exact .inl ⟨n, rfl, .inr (ND h)⟩
  | inl s => exact .inr ⟨s, rfl, rfl⟩
 ·exact .inl ⟨1, rfl, .inl rfl⟩
theorem Sk (W : World) (x y : Value) (t : TypeId) (g : Nat) (hg : g = W.heap.size) : ∀ j u, [x, y][j]? = some u → (W.alloc (.cells #[x, y] t)).cell? ((⟨g, 0, none⟩ : Addr).add j) = some u := by
 subst hg; exact IN W x y t
theorem Ql {x y : ByteArray} : ∀ u ∈ [Value.string x, .string y], u.oneCell' = true := by
 intro u hu
 simp at hu
 rcases hu with rfl | rfl <;> rfl
theorem MZ (l m : List Ak) : As (l ++ m) = As l ++ As m := by unfold As; rw [List.flatMap_append]
theorem GT : ∀ (ds : List DescL) (s : List (List UInt8)), (F9 ds s).length = ds.length
 | [], _ => rfl
 | d :: r, s => by
  unfold F9
  rw [List.length_cons, List.length_cons, GT r]
theorem OM {K : Nat} {P : Nat → Option (List UInt8)} (h : K - (AT K P).length = 0) : ∀ i, i < K → (P i).isSome = true := by
 have hl := Gn K P
 have e : (AT K P).length = (List.range K).length := by rw [List.length_range]; omega
 unfold AT at e
 rw [List.length_filter_eq_length_iff] at e
 exact fun i hi => e i (List.mem_range.2 hi)
theorem Qs (l : List (List UInt8)) (a k : Nat) (h : a + k < l.length) : ((l.drop a).take (k + 1)).flatten = ((l.drop a).take k).flatten ++ l[a + k] := by
 rw [Ap (l.drop a) k (by rw [List.length_drop]; omega), List.flatten_append, List.getElem_drop]
 simp
theorem Qp {size : Nat} (l : List (List UInt8)) (h : ∀ t ∈ l, t.length = size) (a k : Nat) (hk : a + k ≤ l.length) : ((l.drop a).take k).flatten.length = k * size := by
 rw [JZ (size := size) _ (fun t ht => h t (List.mem_of_mem_drop (List.mem_of_mem_take ht))), List.length_take, List.length_drop, Nat.min_eq_left (by omega)]
theorem KL (fs : List Ak) (vs : List (List UInt8)) (a b : Option Addr) (ca cb : Nat) (hn : fs.length ≤ 4398046511104) (hv : vs.length ≤ 8796093022208) (w : World) (hfa : Rd w a (As fs)) (hvb : Rd w b (AM vs)) :
  Calls Tryz.prog 21 #[.slice a fs.length ca, .slice b vs.length cb] w fun e w' => Gf (C9 fs vs) w e w' := by
 have hL := Aa (Hd fs vs a b ca cb hn hv w hfa hvb)
 obtain ⟨i0, hi, hz0, hz1, hz2⟩ := info_parts Tryz.infoFile
 clear hfa hvb
 go_enter Tryz.func21, Tryz.ntmps21
 go_wp2_with fail
 refine hL.out.mono ?_
 rintro e w1 hres
 clear hL
 rcases G9 (fs := fs) (vs := vs) with ⟨n, hlk, hn0⟩ | ⟨s, hrd, hlk⟩
 ·rw [hlk] at hres
  obtain ⟨hb1, rfl⟩ := hres
  have hrep : C9 fs vs = .inr n := by unfold C9; rw [hlk]
  have HREP := Aa hrep
  have hb2 : Below w.heap.size w (w1.alloc (.cells #[.int .i64 0, .slice none 0 0, .slice none 0 0, .slice none 0 0, .slice none 0 0, .slice none 0 0, .int .i64 0, .int .i64 0] 42)) := hb1.alloc hb1.size _
  have HB2 := Aa hb2
  unfold Gq
  clear hb1 hb2 hlk hrep
  rcases hn0 with rfl | rfl | rfl
  all_goals
   go_wp2_with fail
   go_ret2
   rw [HREP.out]
   exact ⟨HB2.out, rfl⟩
 ·rw [hlk] at hres
  obtain ⟨hb1, v, rfl, fv, xv, svs, slv, stv, prv, rfl, hfv, hsvs, hxv, hslv, hstv, hprv⟩ := hres
  obtain ⟨p1, p2, p3, p4⟩ := Ga fs s
  obtain ⟨y1, y2, y3, y4, y5⟩ := Gk hrd
  obtain ⟨z1, z2, z3, z4⟩ := Pc hrd
  obtain ⟨fa, fc, rfl, -⟩ := AE hfv
  obtain ⟨xa, xc, rfl, hxr⟩ := AE hxv
  obtain ⟨sa, sc, rfl, hsr⟩ := AE hslv
  obtain ⟨pa, pc, rfl, hpr⟩ := AE hprv
  obtain ⟨ta, tc, rfl, -⟩ := AE hstv
  have hset : (Ct fs s).set = s := rfl
  rw [hset] at *
  obtain ⟨K, hKd⟩ : ∃ x, x = (AF s.files).length := ⟨_, rfl⟩
  obtain ⟨PP, hPP⟩ : ∃ x, x = Eq fs s := ⟨_, rfl⟩
  rw [← hKd, ← hPP] at p1 p2 p3
  rw [p1] at hsr
  rw [p2] at hpr
  rw [p1, p2, p3, p4, y5, List.length_map, List.length_range, List.length_map, List.length_range]
  have hold := OldSet.start (s := s) hfv hsvs hxv
  obtain ⟨LO, hLO⟩ : ∃ x, x = K - (AT K PP).length := ⟨_, rfl⟩
  obtain ⟨EX, hEX⟩ : ∃ x, x = exN s.extra := ⟨_, rfl⟩
  rw [← hLO, ← hEX]
  obtain ⟨nf, hnf⟩ : ∃ x, x = s.files.length := ⟨_, rfl⟩
  obtain ⟨nt, hnt⟩ : ∃ x, x = (Ct fs s).states.length := ⟨_, rfl⟩
  rw [← hnf, ← hnt]
  obtain ⟨W2, hW2⟩ : ∃ x, x = w1.alloc (.cells #[.int .i64 (s.size : Int), .slice fa nf fc, .slice xa 20 xc, .slice sa K sc, .slice ta nt tc, .slice pa K pc, .int .i64 (LO : Int), .int .i64 (EX : Int)] 42) := ⟨_, rfl⟩
  have hbk2 := Blk.new w1 #[.int .i64 (s.size : Int), .slice fa nf fc, .slice xa 20 xc, .slice sa K sc, .slice ta nt tc, .slice pa K pc, .int .i64 (LO : Int), .int .i64 (EX : Int)] 42
  rw [← hW2] at hbk2
  have hb12 : Below w1.heap.size w1 W2 := by rw [hW2]; exact (Below.refl _ _).alloc (Nat.le_refl _) _
  have hbw2 : Below w.heap.size w W2 := Below.next hb1 hb12
  have hex20 := Pk s.extra
  rw [← hEX, y5] at hex20
  have hLOK : LO ≤ 60 := by omega
  have hS : ∀ W, Below W2.heap.size W2 W → W.cell? ⟨w1.heap.size, 1, none⟩ = some (.slice fa nf fc) ∧ W.cell? ⟨w1.heap.size, 3, none⟩ = some (.slice sa K sc) ∧ W.cell? ⟨w1.heap.size, 6, none⟩ = some (.int .i64 (LO : Int)) ∧ W.cell? ⟨w1.heap.size, 7, none⟩ = some (.int .i64 (EX : Int)) := fun W hW => by
   have hk := hbk2.touch (Touch.of_below hW []) (by simp)
   exact ⟨(hk 1 _ rfl).1, (hk 3 _ rfl).1, (hk 6 _ rfl).1, (hk 7 _ rfl).1⟩
  obtain ⟨q1, q3, q6, q7⟩ := hS W2 (Below.refl _ _)
  have HS := Aa hS
  have HW2 := Aa hW2
  have HBW2 := Aa hbw2
  have HBK := Aa hbk2
  have HOLD := Aa (hold.touch (Touch.of_below hb12 []) (by simp))
  have HXR := Aa (hxr.later (Nat.le_refl _) hb12)
  have HSR := Aa (hsr.later (Nat.le_refl _) hb12)
  have HPR := Aa (hpr.later (Nat.le_refl _) hb12)
  have HLK := Aa hlk
  have HKD := Aa hKd
  have HPP := Aa hPP
  have HLO := Aa hLO
  have HEX := Aa hEX
  have HNF := Aa hnf
  have HZ3 := Aa z3
  have HZ4 := Aa z4
  rw [← hKd] at y4 z2
  rw [← hnf] at y3
  have hPl : ∀ i p, PP i = some p → p.length = s.size := fun i p hp => by rw [hPP] at hp; exact Pr (by omega) hp
  have HPL := Aa hPl
  clear hfv hsvs hxv hslv hstv hprv hxr hsr hpr hold hbk2 hb12 hbw2 hS hW2 hlk hKd hPP hLO hEX hnf hnt hb1 z3 z4 p1 p2 p3 p4 hset hrd hPl
  by_cases hlost : EX < LO
  ·have hrep : C9 fs vs = .inr 5 := by
    unfold C9
    rw [HLK.out]
    have e1 : (Ct fs s).extra = EX := HEX.out.symm
    have e2 : (Ct fs s).lost = LO := by rw [(Ga fs s).2.2.1, HLO.out, HKD.out, HPP.out]
    simp only
    rw [e1, e2, if_pos hlost]
   have HREP := Aa hrep
   clear hrep
   go_wp2_with fail
   rw [← HW2.out]
   go_ret2
   rw [HREP.out]
   exact ⟨HBW2.out, rfl⟩
  ·obtain ⟨A, hA⟩ : ∃ x, x = GV s.size K PP (Be s.extra) := ⟨_, rfl⟩
   have hAl : A.length = K := by rw [hA]; simp [GV]
   have hAs : ∀ t ∈ A, t.length = s.size := fun t ht => by
    rw [hA] at ht
    unfold GV at ht
    obtain ⟨i, _, rfl⟩ := List.mem_map.1 ht
    exact LN s.size K PP _ z1 HPL.out i
   have HAS := Aa hAs
   have HAE := Aa hA
   clear hA hAs
   go_upto_if 37 with fail
   rw [← HW2.out]
   go_cut [8] from 34 to 38 (fun x wx => ∃ (aA : Option Addr) (cA : Nat), x = Value.slice aA K cA ∧ Rd wx aA (AM A) ∧ Below W2.heap.size W2 wx)
   case first =>
    by_cases h0 : LO = 0
    ·subst h0
     go_wp2_with fail
     go_meet
     exact ⟨sa, sc, rfl, by rw [HAE.out, Ow _ _ _ _ (OM HLO.out.symm)]; exact HSR.out, Below.refl _ _⟩
    ·have hlp : 0 < LO := by omega
     have han := OK PP s.extra K s.size w1.heap.size (.slice fa nf fc) (.slice ta nt tc) xa sa pa xc sc pc (.int .i64 (LO : Int)) (.int .i64 (EX : Int)) (by omega) (by omega) (by omega) (by omega) z1 HPL.out y5 HZ3.out (by rw [← HLO.out, ← Qh y5, ← HEX.out]; omega) W2 HBK.out HXR.out HSR.out HPR.out
     rw [← HAE.out] at han
     have HAN := Aa han
     clear han
     go_wp2_with fail
     refine HAN.out.mono ?_
     rintro e w3 ⟨v3, rfl, ho3, hb3⟩
     obtain ⟨aA, cA, rfl, hr3⟩ := AE ho3
     have R3 := Aa hr3
     have B3 := Aa hb3
     clear ho3 hr3 hb3
     go_wp2_with fail
     go_meet
     exact ⟨aA, cA, rfl, R3.out, B3.out⟩
   case rest =>
   obtain ⟨aA, cA, rfl, hAr, hbW⟩ := hcut
   obtain ⟨W3, rfl⟩ : ∃ x, x = wc := ⟨_, rfl⟩
   obtain ⟨M, hM⟩ : ∃ x, x = F9 s.files A := ⟨_, rfl⟩
   have hMl : M.length = nf := by rw [hM, GT, HNF.out]
   have hMk : ∀ k (h : k < s.files.length), M[k]? = some (s.files[k].name, ((A.drop (Nk s.files k)).take s.files[k].slices.length).flatten.take s.files[k].long) := fun k h => by rw [hM]; exact Nd s.files A k h
   have HMK := Aa hMk
   have HAR := Aa hAr
   have HB3 := Aa hbW
   have hRE : C9 fs vs = if DP s.files M then .inl M else .inr 6 := by
    unfold C9
    rw [HLK.out]
    have e1 : (Ct fs s).extra = EX := HEX.out.symm
    have e2 : (Ct fs s).lost = LO := by rw [(Ga fs s).2.2.1, HLO.out, HKD.out, HPP.out]
    have e3 : MV fs (Ct fs s).set = M := by
     unfold MV
     rw [hM, HAE.out, HKD.out, HPP.out]
     rfl
    simp only
    rw [e1, e2, if_neg hlost, e3]
    rfl
   have HRE := Aa hRE
   obtain ⟨q1, q3, q6, q7⟩ := HS.out W3 hbW
   clear hM hMk hAr hbW hRE
   go_wp2_with fail
   go_loopw [9, 10, 11, 12, 13, 14, 15] (fun o fr i _ _ _ _ W => ∃ k : Nat, k ≤ nf ∧ i = .int .i64 (k : Int) ∧ fr = .int .i64 ((Nk s.files k : Nat) : Int) ∧ W.ownsRow W3.heap.size 62 2 o k (As (M.take k)) ∧ Hid (∀ (j : Nat) (d : DescL) (f : Ak), j < k → s.files[j]? = some d → M[j]? = some f → AC f.2 = d.hash) ∧ Below W3.heap.size W3 W)
    (fun _ _ i _ _ _ _ _ => nf - (intOf i).toNat)
   case atStart => exact ⟨0, by omega, rfl, rfl, World.ownsRow_nil _ _ _ _, Aa (fun j d f h => absurd h (by omega)), Below.refl _ _⟩
   case round =>
    obtain ⟨k, hk, rfl, rfl, hown, hok, hbl⟩ := hrel
    have hb2r := Below.next HB3.out hbl
    have hbwr := Below.next HBW2.out hb2r
    obtain ⟨q1, q3, q6, q7⟩ := HS.out wr hb2r
    have hszw : w.heap.size ≤ wr.heap.size := hbwr.size
    by_cases hlt : k < nf
    ·have hkf : k < s.files.length := by rw [← HNF.out]; exact hlt
     obtain ⟨bb, off, da, dc, hfe, e1, e2, e3, e4, -⟩ := (HOLD.out.touch (Touch.of_below hb2r []) (by simp)).file k hkf
     subst hfe
     have hMd := HMK.out k hkf
     have hoff := RX s.files k hkf
     have hnx := Lk s.files k hkf
     have hz4 := HZ4.out _ (List.getElem_mem hkf)
     have hdk : s.files[k]? = some s.files[k] := List.getElem?_eq_getElem hkf
     rw [← HKD.out] at hoff
     obtain ⟨d, hd⟩ : ∃ d, d = s.files[k] := ⟨_, rfl⟩
     rw [← hd] at e1 e2 e3 e4 hMd hoff hnx hz4 hdk
     obtain ⟨fr, hfr⟩ : ∃ x, x = Nk s.files k := ⟨Nk s.files k, rfl⟩
     rw [← hfr] at hMd hoff hnx ⊢
     obtain ⟨nm, hnm⟩ : ∃ x, x = d.name := ⟨d.name, rfl⟩
     obtain ⟨lg, hlg⟩ : ∃ x, x = d.long := ⟨d.long, rfl⟩
     obtain ⟨hh, hhh⟩ : ∃ x, x = d.hash := ⟨d.hash, rfl⟩
     obtain ⟨nn, hnn⟩ : ∃ x, x = d.slices.length := ⟨d.slices.length, rfl⟩
     rw [← hnm] at e1 hMd hz4
     rw [← hlg] at e2 hMd hz4
     rw [← hhh] at e3
     rw [← hnn] at e4 hMd hz4 hoff hnx
     obtain ⟨Wd, hWd⟩ : ∃ x, x = wr.alloc (.cells #[.string (str nm), .int .i64 (lg : Int), .int .u64 (hh : Int), .slice da nn dc] 101) := ⟨_, rfl⟩
     have hbkd := Blk.new wr #[.string (str nm), .int .i64 (lg : Int), .int .u64 (hh : Int), .slice da nn dc] 101
     rw [← hWd] at hbkd
     have hbd : Below wr.heap.size wr Wd := by rw [hWd]; exact (Below.refl _ _).alloc (Nat.le_refl _) _
     have HBD := Aa (Below.next hbl hbd)
     have HOD := Aa (Ab hown (Nat.le_refl _) hbd)
     have HBKD := Aa hbkd
     have HWD := Aa hWd
     have HBWD := Aa (Below.next hbwr hbd)
     have HMD := Aa hMd
     have HNX := Aa hnx
     have HDK := Aa hdk
     have HHH := Aa hhh
     have hszd : wr.heap.size < Wd.heap.size := by rw [hWd]; simp
     obtain ⟨z40, z41, z42⟩ := hz4
     have HZ40 := Aa z40
     clear hown hbl hb2r hbwr hbkd hbd hWd hMd hnx hdk hd hfr hnm hlg hhh hnn hkf z40 q6 q7
     go_wp2_with fail
     rw [← HWD.out]
     obtain ⟨Wi, rfl⟩ : ∃ x, x = wr := ⟨wr, rfl⟩
     go_loopw [13, 14] (fun dt q W => ∃ q' : Nat, q' ≤ nn ∧ q = .int .i64 (q' : Int) ∧ dt = .string (str ((A.drop fr).take q').flatten) ∧ Below Wd.heap.size Wd W)
      (fun _ q _ => nn - (intOf q).toNat)
     case atStart => exact ⟨0, by omega, rfl, rfl, Below.refl _ _⟩
     case round =>
      obtain ⟨q, hq, rfl, rfl, hblq⟩ := hrel
      have hkd := HBKD.out.touch (Touch.of_below hblq []) (by simp)
      have d0 := (hkd 0 _ rfl).1
      have d1 := (hkd 1 _ rfl).1
      have d2 := (hkd 2 _ rfl).1
      have d3 := (hkd 3 _ rfl).1
      have hfl := Qp A HAS.out fr q (by omega)
      have hqb : q * s.size ≤ 60 * 32 := Nat.mul_le_mul (by omega) (by omega)
      by_cases hql : q < nn
      ·have hin : fr + q < A.length := by omega
       obtain ⟨ab, ao, rfl, hac⟩ := (HAR.out.later (Nat.le_refl _) (Below.next HBD.out hblq)) (fr + q) (.string (str A[fr + q])) (by simp [AM, hin])
       have hsn := Qs A fr q hin
       have htl := HAS.out _ (List.getElem_mem hin)
       obtain ⟨tx, htx⟩ : ∃ x, x = A[fr + q] := ⟨_, rfl⟩
       rw [← htx] at hac hsn htl
       obtain ⟨F, hF⟩ : ∃ x, x = ((A.drop fr).take q).flatten := ⟨_, rfl⟩
       rw [← hF] at hsn hfl ⊢
       have hcat : str F ++ str tx = str (F ++ tx) := by rw [Iq, De]
       have hs1 := Ae F
       have hs2 := Ae tx
       have HSN := Aa hsn
       have HBQ := Aa hblq
       clear hsn hblq hF htx hkd
       go_wp2_with fail
       exact ⟨⟨q + 1, by omega, by go_num, by rw [HSN.out], HBQ.out⟩, by simp [intOf]; omega⟩
      ·obtain rfl : nn = q := by omega
       obtain ⟨F, hF⟩ : ∃ x, x = ((A.drop fr).take nn).flatten := ⟨_, rfl⟩
       have hMd := HMD.out
       rw [← hF] at hMd hfl ⊢
       have hle : lg ≤ F.length := by rw [hfl]; exact HZ40.out
       have hs1 := Ae F
       have hext : (str F).extract 0 lg = str (F.take lg) := by rw [AB]; simp
       obtain ⟨D, hD⟩ : ∃ x, x = F.take lg := ⟨_, rfl⟩
       rw [← hD] at hMd hext
       have hDl : D.length ≤ 400 := by rw [hD, List.length_take]; omega
       have hHs := DS D (by omega)
       obtain ⟨n1, hn1⟩ : ∃ x, x = AC D := ⟨AC D, rfl⟩
       rw [← hn1] at hHs
       have HHS := Aa hHs
       have HMD' := Aa hMd
       have HN1 := Aa hn1
       have HBQ := Aa hblq
       clear hF hD hHs hn1 hMd hblq hkd
       go_wp2_with fail
       refine (HHS.out _).mono ?_
       rintro e w' ⟨rfl, hw'⟩
       rw [hw']
       clear hw' w'
       have hkw := HBKD.out.touch (Touch.of_below HBQ.out []) (by simp)
       have hown9 := Ab HOD.out (Nat.le_refl _) HBQ.out
       have hsz9 : w.heap.size ≤ wr.heap.size := by have := HBQ.out.size; omega
       have hbw9 := Below.next HBWD.out HBQ.out
       have hb39 := Below.next HBD.out HBQ.out
       have HO9 := Aa hown9
       have HBW9 := Aa hbw9
       have HB39 := Aa hb39
       clear hkw hown9 hbw9 hb39 HBQ
       by_cases heq : n1 = hh
       ·subst heq
        have htk : M.take (k + 1) = M.take k ++ [(nm, D)] := by
         have hkM : k < M.length := by omega
         rw [Ap M k hkM]
         congr 2
         have := HMD'.out
         rw [List.getElem?_eq_getElem hkM] at this
         exact Option.some.inj this
        have hok2 : ∀ (j : Nat) (d' : DescL) (f : Ak), j < k + 1 → s.files[j]? = some d' → M[j]? = some f → AC f.2 = d'.hash := by
         intro j d' f hj hd' hf
         by_cases c : j < k
         ·exact hok.out j d' f c hd' hf
         ·obtain rfl : j = k := by omega
          rw [HDK.out] at hd'
          rw [HMD'.out] at hf
          cases hd'
          cases hf
          rw [← HHH.out, HN1.out]
        have HTK := Aa htk
        have HOK2 := Aa hok2
        clear htk hok2 hok
        have hsz3 : W3.heap.size ≤ wr.heap.size := HB39.out.size
        go_wp2_with (at_builtin; refine wpList_append_own _ rfl (.tmp 83) (.tmp 88) 22 rfl W3.heap.size 62 i0 (.agg #[.string ByteArray.empty, .string ByteArray.empty]) 2 32 Tryz.underlying22 hi hz0 hz1 hz2 rfl (by decide) _ _ _ rfl (HO9.out.alloc _) ⟨wr.heap.size, 0, none⟩ 1 1 [.string (str nm), .string (str D)] rfl rfl ?c1 ?c2 ?c3 ?c4 ?c5 ?_)
        case c1 => exact Sk _ _ _ _ _ rfl
        case c2 => exact Ql
        case c3 => unfold maxLen; omega
        case c4 => omega
        case c5 => simp; omega
        intro v9 w9 ho9 hg9 _
        have hb9 := Az HB39.out hsz3 HO9.out hg9
        have K1 := Aa ho9
        have K2 := Aa hb9
        clear ho9 hg9 hb9
        go_wp2_with fail
        go_roundw
        case rel =>
         refine ⟨k + 1, by omega, by go_num, by rw [HNX.out]; go_num, ?_, HOK2, K2.out⟩
         rw [HTK.out, MZ]
         exact K1.out
        case measure => simp [intOf]; omega
       ·have hne : ((n1 : Int) == (hh : Int)) = false := beq_eq_false_iff_ne.2 (by omega)
        have hno : DP s.files M = false := LP HDK.out HMD'.out (by rw [← HHH.out, ← HN1.out]; exact heq)
        have HNO := Aa hno
        clear hno hok
        go_wp2_with fail
        go_ret2
        rw [HRE.out, HNO.out]
        exact ⟨HBW9.out, rfl⟩
    ·obtain rfl : nf = k := by omega
     have hyes : DP s.files M = true := (FE _ _).2 (fun j d f hd hf => hok.out j d f (by rw [HNF.out]; exact (List.getElem?_eq_some_iff.1 hd).1) hd hf)
     rw [List.take_of_length_le (by omega)] at hown
     have K1 := Aa (Ad (HBW2.out.trans (HB3.out.mono HBW2.out.size)).size hown)
     have K2 := Aa hbwr
     have HYE := Aa hyes
     clear hown hyes hbwr hbl hb2r hok
     go_wp2_with fail
     go_ret2
     rw [HRE.out, HYE.out]
     refine ⟨K2.out, _, rfl, ?_⟩
     rw [hMl]
     exact K1.out
theorem Iu (l : List Ak) (a b : Option Addr) (c d : Nat) (hl : l.length ≤ 1000000) (w : World) (ha : Rd w a (As l)) (hb : Rd w b (As l)) :
  Calls Tryz.prog 22 #[.slice a l.length c, .slice b l.length d] w fun e w' => e = .returned (.bool true) ∧ Below w.heap.size w w' := by
 have hne' : ((l.length : Int) != (l.length : Int)) = false := by simp
 have HA := Aa ha
 have HB := Aa hb
 clear ha hb
 go_enter Tryz.func22, Tryz.ntmps22
 go_wp2_with fail
 go_loopw [5, 6] (fun i _ wr => ∃ k : Nat, k ≤ l.length ∧ i = .int .i64 (k : Int) ∧ Below w.heap.size w wr)
  (fun i _ _ => l.length - (intOf i).toNat)
 case atStart => exact ⟨0, by omega, rfl, Below.refl _ _⟩
 case round =>
  obtain ⟨k, hk, rfl, hbl⟩ := hrel
  have hszr := hbl.size
  by_cases hlt : k < l.length
  ·obtain ⟨b1, o1, rfl, x1, x2⟩ := Bk HA.out (Nat.le_refl _) hbl k hlt
   obtain ⟨b2, o2, rfl, y1, y2⟩ := Bk HB.out (Nat.le_refl _) hbl k hlt
   obtain ⟨nm, hnm⟩ : ∃ x, x = l[k].1 := ⟨_, rfl⟩
   obtain ⟨dt, hdt⟩ : ∃ x, x = l[k].2 := ⟨_, rfl⟩
   rw [← hnm] at x1 y1
   rw [← hdt] at x2 y2
   have hS : ∀ W, Below wr.heap.size wr W → W.cell? ⟨b1, o1 + k * 2, none⟩ = some (.string (str nm)) ∧ W.cell? ⟨b1, o1 + k * 2 + 1, none⟩ = some (.string (str dt)) ∧ W.cell? ⟨b2, o2 + k * 2, none⟩ = some (.string (str nm)) ∧ W.cell? ⟨b2, o2 + k * 2 + 1, none⟩ = some (.string (str dt)) := fun W hW =>
    ⟨(hW.cell (World.block_lt_of_cell? wr _ x1)).trans x1, (hW.cell (World.block_lt_of_cell? wr _ x2)).trans x2, (hW.cell (World.block_lt_of_cell? wr _ y1)).trans y1, (hW.cell (World.block_lt_of_cell? wr _ y2)).trans y2⟩
   have HS := Aa hS
   have hsf := fun W => Eo (nm, dt) (nm, dt) W
   rw [beq_self_eq_true] at hsf
   have HSF := Aa hsf
   have HBL := Aa hbl
   have hcur : Below wr.heap.size wr wr := Below.refl _ _
   clear hS hsf hbl hnm hdt x1 x2 y1 y2
   go_wp2_with fail
   refine wp_region_held_drew (S := fun W => W.cell? ⟨b1, o1 + k * 2, none⟩ = some (.string (str nm)) ∧ W.cell? ⟨b1, o1 + k * 2 + 1, none⟩ = some (.string (str dt)) ∧ W.cell? ⟨b2, o2 + k * 2, none⟩ = some (.string (str nm)) ∧ W.cell? ⟨b2, o2 + k * 2 + 1, none⟩ = some (.string (str dt))) (by kernel_rfl) (HS.out _ hcur.drew) (fun hHeld => ?_)
   refine tY 0 18 ?_
   refine tY 1 19 ?_
   refine tY 2 20 ?_
   refine tY 3 21 ?_
   refine tY 4 22 ?_
   refine tY 5 23 ?_
   refine tY 6 24 ?_
   refine tY 7 25 ?_
   refine Ah (i := 8) (by kernel_rfl) (fun K o ho hK => ?_)
   simp only [gA, gB, gC, gE] at ho
   subst ho
   go_simp
   refine (HSF.out _).mono ?_
   rintro e w9 ⟨rfl, hb9⟩
   have hb10 : Below wr.heap.size wr w9 := Below.next hcur.drew hb9
   have HB10 := Aa hb10
   clear hb9 hb10
   refine hK.out _ _ ?_ (fun hHeld => ?_)
   focus exact HS.out _ HB10.out
   clear hK K
   try simp only [Act.put, sA, sB, sC]
   refine Ah (i := 9) (by kernel_rfl) (fun K o ho hK => ?_)
   simp only [gA, gB, gC, gE] at ho
   subst ho
   go_simp
   refine hK.out _ _ ?_ (fun hHeld => ?_)
   focus exact HS.out _ HB10.out
   clear hK K
   try simp only [Act.put, sA, sB, sC]
   refine wpAnyH_done (by kernel_rfl) ?_ _
   go_wp2_with fail
   exact ⟨⟨k + 1, by omega, by go_num, HBL.out.trans (HB10.out.mono hszr)⟩, by simp [intOf]; omega⟩
  ·obtain rfl : k = l.length := by omega
   have HBL := Aa hbl
   clear hbl
   go_wp2_with fail
   go_ret
   exact ⟨rfl, HBL.out⟩
def Qz : List Ak ⊕ Nat → List Ak | .inl l => l | .inr _ => []
def SJ : List Ak ⊕ Nat → Nat | .inl _ => 0 | .inr n => n
theorem Rm (fs : List Ak) (vs : List (List UInt8)) : (Qz (C9 fs vs)).length ≤ 1000 := by
 unfold C9
 rcases G9 (fs := fs) (vs := vs) with ⟨n, hlk, _⟩ | ⟨s, hrd, hlk⟩
 ·rw [hlk]
  simp [Qz]
 ·rw [hlk]
  simp only
  split
  ·simp [Qz]
  ·split
   ·have := (Gk hrd).2.2.1
    show (MV fs s).length ≤ 1000
    unfold MV
    rw [GT]
    omega
   ·simp [Qz]
theorem OE {r : List Ak ⊕ Nat} {w w' : World} {e : Ending} (h : Gf r w e w') : Below w.heap.size w w' ∧ ∃ (a : Option Addr) (c : Nat), e = .returned (.tuple #[.slice a (Qz r).length c, .int .i64 ((SJ r : Nat) : Int)]) ∧ w'.ownsRow w.heap.size 62 2 (.slice a (Qz r).length c) (Qz r).length (As (Qz r)) := by
 obtain ⟨hb, h⟩ := h
 refine ⟨hb, ?_⟩
 cases r with
 | inr n => exact ⟨none, 0, h, World.ownsRow_nil _ _ _ _⟩
 | inl fl =>
  obtain ⟨v, rfl, ho⟩ := h
  obtain ⟨a, c, rfl, _⟩ := AE ho
  exact ⟨a, c, rfl, ho⟩
theorem Tryz.infoKF : (Tryz.prog.info? 62).map (fun i => (i.zero, i.size, i.bytes)) = some (some (.agg #[.string ByteArray.empty, .string ByteArray.empty]), 2, 32) := by kernel_rfl
theorem Tryz.infoKF2 : (Tryz.prog.info? 22).map (fun i => (i.zero, i.size, i.bytes)) = some (some (.slice none 0 0), 1, 24) := by kernel_rfl
theorem Tryz.infoKF3 : (Tryz.prog.info? 3).map (fun i => (i.zero, i.size, i.bytes)) = some (some (.int .i64 0), 1, 8) := by kernel_rfl
theorem Jb {w : World} {base B : Nat} {F : Nat → Prop} {rs : Nat → Value} {T : Nat → List Value} {M : Nat → List Int} (h : BookI w base B F rs T M) (la : Option Addr) (n c : Nat) (xs : List Value) (hn : n ≤ 1000) (hM : (M 1).length + 4 ≤ 4398046511104)
  (hl : w.ownsRow base 62 2 (.slice la n c) n xs) (hF : ∀ k, (Value.slice la n c).ownBlock = some k → ¬ F k) :
  Calls Tryz.prog 58 #[.pointer (some ⟨B, 0, none⟩), .slice la n c] w (GA w base B F M 1 (.slice la n c)) := by
 obtain ⟨i0, hi, hz0, hz1, hz2⟩ := info_parts Tryz.infoKF
 obtain ⟨j0, ji, jz0, jz1, jz2⟩ := info_parts Tryz.infoKF2
 obtain ⟨k0, ki, kz0, kz1, kz2⟩ := info_parts Tryz.infoKF3
 have H := Aa h
 have HF := Aa (fun k hk => hF k (blkL_mem.1 hk) : ∀ k ∈ Ed (.slice la n c), ¬ F k)
 obtain ⟨ma, mc, hmv, -⟩ := A6 (h.rowM 1 (by omega))
 have hmv : rs 5 = .slice ma (M 1).length mc := hmv
 obtain ⟨na, nc, hnv, -⟩ := A6 (h.rowT 1 (by omega))
 have HLEN := Aa (h.len 1 (by omega))
 obtain ⟨mk, hmk⟩ : ∃ x, x = (M 1).length := ⟨_, rfl⟩
 rw [h.len 1 (by omega), ← hmk] at hnv
 rw [← hmk] at hmv hM HLEN
 have cq := (h.blk 5 _ rfl).1
 rw [hmv] at cq
 have hbase := h.bas
 have HL := Aa hl
 have HLL := Aa (fun k hk => (hl.lt k (blkL_mem.1 hk)).2 : ∀ k ∈ Ed (.slice la n c), k < w.heap.size)
 have HMK := Aa hmk
 have HMV := Aa hmv
 have HNV := Aa hnv
 clear h hl hF hmk hmv hnv
 go_enter Tryz.func58, Tryz.ntmps58
 go_wp2_with fail
 refine (Fc mk w).mono ?_
 rintro e wa ⟨rfl, hba⟩
 have HBa := Aa hba
 clear hba
 go_wp2_with fail
 refine (Fc mk wa).mono ?_
 rintro e wb ⟨rfl, hbb⟩
 have HBb := Aa (Below.next HBa.out hbb)
 clear hbb HBa
 go_wp2_with fail
 obtain ⟨m, hm⟩ : ∃ m : Int, m = (mk : Int) := ⟨_, rfl⟩
 rw [← hm]
 have HM := Aa (⟨by omega, by omega, fun _ => by omega⟩ : -4398046511104 ≤ m ∧ m ≤ 4398046511104 ∧ ((1 : Nat) ≠ 2 → 0 ≤ m))
 obtain ⟨w0, hw0⟩ : ∃ X, X = wb.alloc (.cells #[.string (str (Bj m)), .string (str (Bj m))] 62) := ⟨_, rfl⟩
 rw [← hw0]
 have HB0 := Aa (Below.next HBb.out (show Below wb.heap.size wb w0 from by rw [hw0]; exact (Below.refl _ _).alloc (Nat.le_refl _) _))
 have HFB0 := Aa (show Blk w0 wb.heap.size [.string (str (Bj m)), .string (str (Bj m))] from by rw [hw0]; exact Blk.new _ _ _)
 have HFL := Aa (fun e => by have h1 := HLL.out _ e; have h2 := HBb.out.size; omega : wb.heap.size ∉ Ed (.slice la n c))
 have HT0 := Aa (Touch.of_below HB0.out (Ed (.slice la n c)))
 have HL := Aa (Ab HL.out (Nat.le_refl _) HB0.out)
 clear hm cq HB0 HBb hw0
 go_loopw [6] (fun i W => ∃ (k : Nat) (ys : List Value), k ≤ n ∧ i = .int .i64 (k : Int) ∧ W.ownsRow base 62 2 (.slice la n c) n ys ∧ Hid (∀ j, j < k * 2 → ys[j]? = some (.string (str (Bj m)))) ∧ Touch (Ed (.slice la n c)) w W ∧ Hid (Blk W wb.heap.size [.string (str (Bj m)), .string (str (Bj m))]))
  (fun i _ => n - (intOf i).toNat)
 case atStart => exact ⟨0, xs, by omega, rfl, HL.out, Aa (fun j hj => by omega), HT0.out, HFB0⟩
 case round =>
  clear HL
  obtain ⟨k, ys, hk, rfl, hown, HY, ht, HFB⟩ := hrel
  by_cases hlt : k < n
  ·obtain ⟨ga, gc, ge, -, hga, -⟩ := A6 hown
   cases ge
   cases la with
   | none =>
    rcases hown.2 with ⟨_, h0⟩ | ⟨_, _, _, h0, _⟩
    ·omega
    ·cases h0
   | some ad =>
    obtain ⟨g, rfl, hgo⟩ := hga ad rfl
    have hfz := hown.frozenAt (k * 2)
    have hfz2 := hown.frozenAt (k * 2 + 1)
    have hyl : ys.length = n * 2 := hown.1
    have hc1 : wr.cell? ⟨g, k * 2, none⟩ = some ys[k * 2] := by rw [hown.cellAt _ (by omega), List.getElem?_eq_getElem]
    have hc2 : wr.cell? ⟨g, k * 2 + 1, none⟩ = some ys[k * 2 + 1] := by rw [hown.cellAt _ (by omega), List.getElem?_eq_getElem]
    have K1 := Aa ((hown.stored (k * 2) (.string (str (Bj m)))).1.stored (k * 2 + 1) (.string (str (Bj m)))).1
    have K2 : Hid (∀ j, j < (k + 1) * 2 → ((ys.set (k * 2) (.string (str (Bj m)))).set (k * 2 + 1) (.string (str (Bj m))))[j]? = some (.string (str (Bj m)))) := Aa (fun j hj => by
     by_cases e : j = k * 2 + 1
     ·subst e
      rw [List.getElem?_set_self (by simp; omega)]
     ·rw [List.getElem?_set_ne (by omega)]
      by_cases e : j = k * 2
      ·subst e
       rw [List.getElem?_set_self (by omega)]
      ·rw [List.getElem?_set_ne (by omega)]
       exact HY.out j (by omega))
    have K3 := Aa ((ht.setCell (x := ⟨g, k * 2, none⟩) (.inl (blkL_mem.2 hgo)) (.string (str (Bj m)))).setCell (x := ⟨g, k * 2 + 1, none⟩) (.inl (blkL_mem.2 hgo)) (.string (str (Bj m))))
    have hgf : g ≠ wb.heap.size := fun e => HFL.out (blkL_mem.2 (e ▸ hgo))
    have K4 := Aa ((HFB.out.set_other (a := ⟨g, k * 2, none⟩) hgf (.string (str (Bj m)))).set_other (a := ⟨g, k * 2 + 1, none⟩) hgf (.string (str (Bj m))))
    have f1 := (HFB.out 0 _ rfl).1
    have f2 := (HFB.out 1 _ rfl).1
    clear hown HY ht hga hgo HFB hgf
    go_wp2_with fail
    exact ⟨⟨k + 1, _, by omega, by go_num, K1.out, K2, K3.out, K4⟩, by simp [intOf]; omega⟩
  ·obtain rfl : k = n := by omega
   have hyl : ys.length = k * 2 := hown.1
   have e := Gp (n := k) (p := [.string (str (Bj m)), .string (str (Bj m))]) (ys := ys) hyl (by simp) (fun i q hi hq => by
    have hq : q < 2 := by simpa using hq
    rw [show i * ([.string (str (Bj m)), .string (str (Bj m))] : List Value).length + q = i * 2 + q from rfl, HY.out _ (by omega)]
    rcases q with _ | _ | q
    ·rfl
    ·rfl
    ·omega)
   subst e
   have HO := Aa hown
   have HT := Aa ht
   have hsz : base ≤ wr.heap.size := Nat.le_trans hbase ht.size
   have HS0 := Aa ht.size
   have f1 := (HFB.out 0 _ rfl).1
   have f2 := (HFB.out 1 _ rfl).1
   have f3 := HFB.out.lt (by simp)
   clear hown ht HY
   go_wp2_with (at_builtin; refine AJ rfl (.tmp 31) (.tmp 33) 22 rfl base 62 i0 (.agg #[.string ByteArray.empty, .string ByteArray.empty]) 32 [.string (str (Bj m)), .string (str (Bj m))] Tryz.underlying22 hi hz0 hz1 hz2 rfl (by simp) (.slice la k c) k rfl (HO.out.alloc _) ⟨wr.heap.size, 0, none⟩ 1 1 rfl (by omega) (CU (ES wr #[.string (str (Bj m)), .string (str (Bj m))] 62) rfl) (by simp [Value.oneCell']) (by unfold maxLen; omega) (by omega) (by simp; omega) ?_)
   intro v1 w1 hg1
   have C1 := Aa (hg1.copy (N := w.heap.size) (by omega) (by simp; have := HS0.out; omega))
   have O1 := Aa hg1.2.1
   have T1 := Aa ((HT.out.alloc _).trans hg1.2.2.1)
   have HFB := Aa ((HFB.out.alloc _).touch hg1.2.2.1 HFL.out)
   have f1 := (HFB.out 0 _ rfl).1
   have f2 := (HFB.out 1 _ rfl).1
   have f3 := HFB.out.lt (by simp)
   have hz1' : base ≤ w1.heap.size := by have := hg1.2.2.1.size; simp at this; omega
   have hs1 : w.heap.size ≤ w1.heap.size := T1.out.size
   clear hg1 HO HT HS0
   go_wp2_with (at_builtin; refine AJ rfl (.tmp 35) (.tmp 38) 22 rfl base 62 i0 (.agg #[.string ByteArray.empty, .string ByteArray.empty]) 32 [.string (str (Bj m)), .string (str (Bj m))] Tryz.underlying22 hi hz0 hz1 hz2 rfl (by simp) (.slice la k c) k rfl (O1.out.alloc _) ⟨w1.heap.size, 0, none⟩ 2 2 rfl (by omega) (CU (ES w1 #[.string (str (Bj m)), .string (str (Bj m)), .string (str (Bj m)), .string (str (Bj m))] 62) rfl) (by simp [Value.oneCell']) (by unfold maxLen; omega) (by omega) (by simp; omega) ?_)
   intro v2 w2 hg2
   have C12 := Aa ((C1.out.alloc _).next hg2 (by omega))
   have C2 := Aa (hg2.copy (N := w.heap.size) (by omega) (by simp; omega))
   have O2 := Aa hg2.2.1
   have T2 := Aa ((T1.out.alloc _).trans hg2.2.2.1)
   have HFB := Aa ((HFB.out.alloc _).touch hg2.2.2.1 HFL.out)
   have f1 := (HFB.out 0 _ rfl).1
   have f2 := (HFB.out 1 _ rfl).1
   have f3 := HFB.out.lt (by simp)
   have hz2' : base ≤ w2.heap.size := by have := hg2.2.2.1.size; simp at this; omega
   have hs2 : w.heap.size ≤ w2.heap.size := T2.out.size
   clear hg2 C1 O1 T1 hz1' hs1
   go_wp2_with (at_builtin; refine AJ rfl (.tmp 40) (.tmp 44) 22 rfl base 62 i0 (.agg #[.string ByteArray.empty, .string ByteArray.empty]) 32 [.string (str (Bj m)), .string (str (Bj m))] Tryz.underlying22 hi hz0 hz1 hz2 rfl (by simp) (.slice la k c) k rfl (O2.out.alloc _) ⟨w2.heap.size, 0, none⟩ 3 3 rfl (by omega) (CU (ES w2 #[.string (str (Bj m)), .string (str (Bj m)), .string (str (Bj m)), .string (str (Bj m)), .string (str (Bj m)), .string (str (Bj m))] 62) rfl) (by simp [Value.oneCell']) (by unfold maxLen; omega) (by omega) (by simp; omega) ?_)
   intro v3 w3 hg3
   have C13 := Aa ((C12.out.alloc _).next hg3 (by omega))
   have C23 := Aa ((C2.out.alloc _).next hg3 (by omega))
   have C3 := Aa (hg3.copy (N := w.heap.size) (by omega) (by simp; omega))
   have O3 := Aa hg3.2.1
   have T3 := Aa ((T2.out.alloc _).trans hg3.2.2.1)
   have hs3 : w.heap.size ≤ w3.heap.size := T3.out.size
   clear hg3 C12 C2 O2 T2 hz2' hs2
   obtain ⟨g1, c1, rfl, -⟩ := C13.out
   obtain ⟨g2, c2, rfl, -⟩ := C23.out
   obtain ⟨g3, c3, rfl, -⟩ := C3.out
   have HB3 := Aa (H.out.touch T3.out HF.out)
   have c20 := (HB3.out.blk 1 _ rfl).1
   rw [HNV.out] at c20
   have hb3 := HB3.out.bas
   have hlt3 : B < w3.heap.size := HB3.out.lt
   have HR := Aa (HB3.out.rowT 1 (by omega))
   rw [HLEN.out, HNV.out] at HR
   go_wp2_with (at_builtin; refine wpList_append_own_at _ rfl (.tmp 50) (.tmp 55) 74 rfl base 22 j0 (.slice none 0 0) 1 24 Tryz.underlying74 ji jz0 jz1 jz2 rfl (by decide) (.slice na mk nc) mk (T 1) rfl (HR.out.alloc _) ⟨w3.heap.size, 0, none⟩ 4 4 [.slice la k c, .slice (some ⟨g1, 0, none⟩) (k + 1) c1, .slice (some ⟨g2, 0, none⟩) (k + 2) c2, .slice (some ⟨g3, 0, none⟩) (k + 3) c3] rfl rfl ?c1 ?c2 (by unfold maxLen; omega) (by omega) (by simp; omega) ?_)
   case c1 => exact CT _ _ _
   case c2 =>
    intro u hu
    simp at hu
    rcases hu with rfl | rfl | rfl | rfl <;> rfl
   intro tv w4 hT4 hg4 hnil hat4
   obtain ⟨ta, tc, rfl, -⟩ := A6 hT4
   obtain ⟨⟨s2, s2f⟩, hE⟩ := Gx (j := 1) (q := 5) (m := m) H.out (by omega) rfl HNV.out HMV.out HMK.out HF.out hn HM.out T3.out O3.out C13.out C23.out C3.out hT4 hg4 hat4
   have HE := Aa hE
   clear hT4 hg4 hat4 hnil hE HR c20 hb3 HB3 HF HLL C13 C23 C3 O3 T3 HM
   go_wp2_with fail
   obtain ⟨W5, hW5⟩ : ∃ X, X = w4.setCell ⟨B, 1, none⟩ (.slice ta (mk + 4) tc) := ⟨_, rfl⟩
   rw [← hW5]
   obtain ⟨cq, hmo, hlt5, hb5, he⟩ := HE.out W5 hW5
   have M2 := Aa hmo
   have HQ := Aa he
   clear hW5 s2 s2f HE hmo he
   refine wp_region_held_drew (S := fun _ => True) (by kernel_rfl) trivial (fun hHeld => ?_)
   refine tY 0 59 ?_
   refine tY 1 60 ?_
   refine tY 2 61 ?_
   refine tY 3 62 ?_
   refine tY 4 63 ?_
   refine tY 6 65 ?_
   refine tY 7 66 ?_
   refine tY 8 67 ?_
   refine tY 9 68 ?_
   refine tY 12 71 ?_
   refine tY 13 72 ?_
   refine EK (i := 5) (j := 10) (by kernel_rfl) (fun K o ho hK => ?_) (fun K o ho hK => ?_)
   focus
    simp only [gA, gB, gC, gE] at ho
    subst ho
    go_simp
    refine hK.out _ _ ?_ (fun hHeld => ?_)
    focus trivial
    clear hK K
    try simp only [Act.put, sA, sB, sC]
    refine Ah (i := 10) (by kernel_rfl) (fun K o ho hK => ?_)
    simp only [gA, gB, gC, gE] at ho
    subst ho
    go_simp
    refine hK.out _ _ ?_ (fun hHeld => ?_)
    focus trivial
    clear hK K
    try simp only [Act.put, sA, sB, sC]
    refine Ah (i := 11) (by kernel_rfl) (fun K o ho hK => ?_)
    simp only [gA, gB, gC, gE] at ho
    subst ho
    rw [if_pos (by rfl)]
    refine BG _ (.tmp 64) (.tmp 69) 31 rfl base 3 k0 (.int .i64 0) 1 8 Tryz.underlying31 ki kz0 kz1 kz2 rfl (by decide) (.slice ma mk mc) mk ((M 1).map (Value.int .i64)) rfl (M2.out.alloc _) ⟨W5.heap.size, 0, none⟩ 4 4 [.int .i64 m, .int .i64 m, .int .i64 m, .int .i64 m] rfl rfl (CT _ _ _) (by simp [Value.oneCell']) (by unfold maxLen; omega) (by omega) (by simp; omega) ?_
    intro mv w6 hM6 hg6 hat6
    obtain ⟨va, vc, rfl, -⟩ := A6 hM6
    obtain ⟨⟨q6, q6f⟩, hfin⟩ := HQ.out _ w6 hg6
    have HFIN := Aa (hfin _ hM6 (hat6.imp id (fun e => by rw [e]; simp)))
    clear hM6 hg6 hat6 hfin
    refine hK.out _ _ ?_ (fun hHeld => ?_)
    focus trivial
    clear hK K
    try simp only [Act.put, sA, sB, sC]
    refine tY 14 73 ?_
    refine Ah (i := 15) (by kernel_rfl) (fun K o ho hK => ?_)
    simp only [gA, gB, gC, gE] at ho
    subst ho
    go_simp
    refine hK.out _ _ ?_ (fun hHeld => ?_)
    focus trivial
    clear hK K
    try simp only [Act.put, sA, sB, sC]
    refine wpAnyH_done (by kernel_rfl) ?_ _
    go_wp2_with fail
    go_end0
    exact HFIN.out
   focus
    simp only [gA, gB, gC, gE] at ho
    subst ho
    go_simp
    refine hK.out _ _ ?_ (fun hHeld => ?_)
    focus trivial
    clear hK K
    try simp only [Act.put, sA, sB, sC]
    refine Ah (i := 5) (by kernel_rfl) (fun K o ho hK => ?_)
    simp only [gA, gB, gC, gE] at ho
    subst ho
    go_simp
    refine hK.out _ _ ?_ (fun hHeld => ?_)
    focus trivial
    clear hK K
    try simp only [Act.put, sA, sB, sC]
    refine Ah (i := 11) (by kernel_rfl) (fun K o ho hK => ?_)
    simp only [gA, gB, gC, gE] at ho
    subst ho
    rw [if_pos (by rfl)]
    refine BG _ (.tmp 64) (.tmp 69) 31 rfl base 3 k0 (.int .i64 0) 1 8 Tryz.underlying31 ki kz0 kz1 kz2 rfl (by decide) (.slice ma mk mc) mk ((M 1).map (Value.int .i64)) rfl (M2.out.alloc _) ⟨W5.heap.size, 0, none⟩ 4 4 [.int .i64 m, .int .i64 m, .int .i64 m, .int .i64 m] rfl rfl (CT _ _ _) (by simp [Value.oneCell']) (by unfold maxLen; omega) (by omega) (by simp; omega) ?_
    intro mv w6 hM6 hg6 hat6
    obtain ⟨va, vc, rfl, -⟩ := A6 hM6
    obtain ⟨⟨q6, q6f⟩, hfin⟩ := HQ.out _ w6 hg6
    have HFIN := Aa (hfin _ hM6 (hat6.imp id (fun e => by rw [e]; simp)))
    clear hM6 hg6 hat6 hfin
    refine hK.out _ _ ?_ (fun hHeld => ?_)
    focus trivial
    clear hK K
    try simp only [Act.put, sA, sB, sC]
    refine tY 14 73 ?_
    refine Ah (i := 15) (by kernel_rfl) (fun K o ho hK => ?_)
    simp only [gA, gB, gC, gE] at ho
    subst ho
    go_simp
    refine hK.out _ _ ?_ (fun hHeld => ?_)
    focus trivial
    clear hK K
    try simp only [Act.put, sA, sB, sC]
    refine wpAnyH_done (by kernel_rfl) ?_ _
    go_wp2_with fail
    go_end0
    exact HFIN.out
end Go.Proofs.YtonjphollmdicaaGreatDoor
