import Derived.Test.YtonjphollmdicaaGreatDoorB01
import Derived.Test.YtonjphollmdicaaGreatDoorB10
import Derived.Test.YtonjphollmdicaaGreatDoorB38
import Derived.Test.YtonjphollmdicaaGreatDoorB44
import Derived.Test.YtonjphollmdicaaGreatDoorB45
import Derived.Deep.CutRange
set_option maxRecDepth 100000
set_option maxHeartbeats 4000000
set_option linter.unusedSimpArgs false
namespace Go.Proofs.YtonjphollmdicaaGreatDoor
open Go.ChangeShapes Go.WideShapes Go.ChangeAt Go.RowKit
theorem GX {fs : List Aj} {vs : List (List UInt8)} : (∃ n, AG fs vs = .inr n ∧ (n = 1 ∨ n = 3 ∨ n = 4)) ∨ ∃ s, EF (As vs) = .inl s ∧ AG fs vs = .inl (Cs fs s) := by
 unfold AG
 split
 ·cases h : EF (As vs) with
  | inr n => exact .inl ⟨n, rfl, .inr (Nb h)⟩
  | inl s => exact .inr ⟨s, rfl, rfl⟩
 ·exact .inl ⟨1, rfl, .inl rfl⟩
theorem R8 (W : World) (x y : Value) (t : TypeId) (g : Nat) (hg : g = W.heap.size) : ∀ j u, [x, y][j]? = some u → (W.alloc (.cells #[x, y] t)).cell? ((⟨g, 0, none⟩ : Addr).add j) = some u := by
 subst hg; exact IK W x y t
theorem Pt {x y : ByteArray} : ∀ u ∈ [Value.string x, .string y], u.oneCell' = true := by
 intro u hu
 simp at hu
 rcases hu with rfl | rfl <;> rfl
theorem MU (l m : List Aj) : Ar (l ++ m) = Ar l ++ Ar m := by unfold Ar; rw [List.flatMap_append]
theorem GI : ∀ (ds : List DescL) (s : List (List UInt8)), (Gb ds s).length = ds.length
 | [], _ => rfl
 | d :: r, s => by
  unfold Gb
  rw [List.length_cons, List.length_cons, GI r]
theorem Ox {K : Nat} {P : Nat → Option (List UInt8)} (h : K - (AR K P).length = 0) : ∀ i, i < K → (P i).isSome = true := by
 have hl := Gi K P
 have e : (AR K P).length = (List.range K).length := by rw [List.length_range]; omega
 unfold AR at e
 rw [List.length_filter_eq_length_iff] at e
 exact fun i hi => e i (List.mem_range.2 hi)
theorem Pp (l : List (List UInt8)) (a k : Nat) (h : a + k < l.length) : ((l.drop a).take (k + 1)).flatten = ((l.drop a).take k).flatten ++ l[a + k] := by
 rw [Ao (l.drop a) k (by rw [List.length_drop]; omega), List.flatten_append, List.getElem_drop]
 simp
theorem O8 {size : Nat} (l : List (List UInt8)) (h : ∀ t ∈ l, t.length = size) (a k : Nat) (hk : a + k ≤ l.length) : ((l.drop a).take k).flatten.length = k * size := by
 rw [Ks (size := size) _ (fun t ht => h t (List.mem_of_mem_drop (List.mem_of_mem_take ht))), List.length_take, List.length_drop, Nat.min_eq_left (by omega)]
theorem Lw (fs : List Aj) (vs : List (List UInt8)) (a b : Option Addr) (ca cb : Nat) (hn : fs.length ≤ 4398046511104) (hv : vs.length ≤ 8796093022208) (w : World) (hfa : Rd w a (Ar fs)) (hvb : Rd w b (AL vs)) :
  Calls Tryz.prog 21 #[.slice a fs.length ca, .slice b vs.length cb] w fun e w' => Gq (C9 fs vs) w e w' := by
 have hL := Aa (G9 fs vs a b ca cb hn hv w hfa hvb)
 obtain ⟨i0, hi, hz0, hz1, hz2⟩ := info_parts Tryz.infoFile
 clear hfa hvb
 go_enter Tryz.func21, Tryz.ntmps21
 go_wp2_with fail
 refine hL.out.mono ?_
 rintro e w1 hres
 clear hL
 rcases GX (fs := fs) (vs := vs) with ⟨n, hlk, hn0⟩ | ⟨s, hrd, hlk⟩
 ·rw [hlk] at hres
  obtain ⟨hb1, rfl⟩ := hres
  have hrep : C9 fs vs = .inr n := by unfold C9; rw [hlk]
  have HREP := Aa hrep
  have hb2 : Below w.heap.size w (w1.alloc (.cells #[.int .i64 0, .slice none 0 0, .slice none 0 0, .slice none 0 0, .slice none 0 0, .slice none 0 0, .int .i64 0, .int .i64 0] 42)) := hb1.alloc hb1.size _
  have HB2 := Aa hb2
  unfold Gg
  clear hb1 hb2 hlk hrep
  rcases hn0 with rfl | rfl | rfl
  all_goals
   go_wp2_with fail
   go_ret2
   rw [HREP.out]
   exact ⟨HB2.out, rfl⟩
 ·rw [hlk] at hres
  obtain ⟨hb1, v, rfl, fv, xv, svs, slv, stv, prv, rfl, hfv, hsvs, hxv, hslv, hstv, hprv⟩ := hres
  obtain ⟨p1, p2, p3, p4⟩ := FS fs s
  obtain ⟨y1, y2, y3, y4, y5⟩ := Gr hrd
  obtain ⟨z1, z2, z3, z4⟩ := PM hrd
  obtain ⟨fa, fc, rfl, -⟩ := AC hfv
  obtain ⟨xa, xc, rfl, hxr⟩ := AC hxv
  obtain ⟨sa, sc, rfl, hsr⟩ := AC hslv
  obtain ⟨pa, pc, rfl, hpr⟩ := AC hprv
  obtain ⟨ta, tc, rfl, -⟩ := AC hstv
  have hset : (Cs fs s).set = s := rfl
  rw [hset] at *
  obtain ⟨K, hKd⟩ : ∃ x, x = (AE s.files).length := ⟨_, rfl⟩
  obtain ⟨PP, hPP⟩ : ∃ x, x = Em fs s := ⟨_, rfl⟩
  rw [← hKd, ← hPP] at p1 p2 p3
  rw [p1] at hsr
  rw [p2] at hpr
  rw [p1, p2, p3, p4, y5, List.length_map, List.length_range, List.length_map, List.length_range]
  have hold := OldSet.start (s := s) hfv hsvs hxv
  obtain ⟨LO, hLO⟩ : ∃ x, x = K - (AR K PP).length := ⟨_, rfl⟩
  obtain ⟨EX, hEX⟩ : ∃ x, x = exN s.extra := ⟨_, rfl⟩
  rw [← hLO, ← hEX]
  obtain ⟨nf, hnf⟩ : ∃ x, x = s.files.length := ⟨_, rfl⟩
  obtain ⟨nt, hnt⟩ : ∃ x, x = (Cs fs s).states.length := ⟨_, rfl⟩
  rw [← hnf, ← hnt]
  obtain ⟨W2, hW2⟩ : ∃ x, x = w1.alloc (.cells #[.int .i64 (s.size : Int), .slice fa nf fc, .slice xa 20 xc, .slice sa K sc, .slice ta nt tc, .slice pa K pc, .int .i64 (LO : Int), .int .i64 (EX : Int)] 42) := ⟨_, rfl⟩
  have hbk2 := Blk.new w1 #[.int .i64 (s.size : Int), .slice fa nf fc, .slice xa 20 xc, .slice sa K sc, .slice ta nt tc, .slice pa K pc, .int .i64 (LO : Int), .int .i64 (EX : Int)] 42
  rw [← hW2] at hbk2
  have hb12 : Below w1.heap.size w1 W2 := by rw [hW2]; exact (Below.refl _ _).alloc (Nat.le_refl _) _
  have hbw2 : Below w.heap.size w W2 := Below.next hb1 hb12
  have hex20 := Qj s.extra
  rw [← hEX, y5] at hex20
  have hLOK : LO ≤ 60 := by omega
  have hS : ∀ W, Below W2.heap.size W2 W → W.cell? ⟨w1.heap.size, 1, none⟩ = some (.slice fa nf fc) ∧ W.cell? ⟨w1.heap.size, 3, none⟩ = some (.slice sa K sc) ∧ W.cell? ⟨w1.heap.size, 6, none⟩ = some (.int .i64 (LO : Int)) ∧ W.cell? ⟨w1.heap.size, 7, none⟩ = some (.int .i64 (EX : Int)) := fun W hW => by
   have hk := hbk2.touch (Touch.of_below hW []) (by simp)
   exact ⟨(hk 1 _ rfl).1, (hk 3 _ rfl).1, (hk 6 _ rfl).1, (hk 7 _ rfl).1⟩
  obtain ⟨q1, q3, q6, q7⟩ := hS W2 (Below.refl _ _)
  have HS := Aa hS
  have HW2 := Aa hW2
  have HBW2 := Aa hbw2
  have HBK := Aa hbk2
  have HOLD := Aa (hold.touch (Touch.of_below hb12 []) (by simp))
  have HXR := Aa (hxr.later (Nat.le_refl _) hb12)
  have HSR := Aa (hsr.later (Nat.le_refl _) hb12)
  have HPR := Aa (hpr.later (Nat.le_refl _) hb12)
  have HLK := Aa hlk
  have HKD := Aa hKd
  have HPP := Aa hPP
  have HLO := Aa hLO
  have HEX := Aa hEX
  have HNF := Aa hnf
  have HZ3 := Aa z3
  have HZ4 := Aa z4
  rw [← hKd] at y4 z2
  rw [← hnf] at y3
  have hPl : ∀ i p, PP i = some p → p.length = s.size := fun i p hp => by rw [hPP] at hp; exact OV (by omega) hp
  have HPL := Aa hPl
  clear hfv hsvs hxv hslv hstv hprv hxr hsr hpr hold hbk2 hb12 hbw2 hS hW2 hlk hKd hPP hLO hEX hnf hnt hb1 z3 z4 p1 p2 p3 p4 hset hrd hPl
  by_cases hlost : EX < LO
  ·have hrep : C9 fs vs = .inr 5 := by
    unfold C9
    rw [HLK.out]
    have e1 : (Cs fs s).extra = EX := HEX.out.symm
    have e2 : (Cs fs s).lost = LO := by rw [(FS fs s).2.2.1, HLO.out, HKD.out, HPP.out]
    simp only
    rw [e1, e2, if_pos hlost]
   have HREP := Aa hrep
   clear hrep
   go_wp2_with fail
   rw [← HW2.out]
   go_ret2
   rw [HREP.out]
   exact ⟨HBW2.out, rfl⟩
  ·obtain ⟨A, hA⟩ : ∃ x, x = Ha s.size K PP (Bd s.extra) := ⟨_, rfl⟩
   have hAl : A.length = K := by rw [hA]; simp [Ha]
   have hAs : ∀ t ∈ A, t.length = s.size := fun t ht => by
    rw [hA] at ht
    unfold Ha at ht
    obtain ⟨i, _, rfl⟩ := List.mem_map.1 ht
    exact LF s.size K PP _ z1 HPL.out i
   have HAS := Aa hAs
   have HAE := Aa hA
   clear hA hAs
   go_upto_if 37 with fail
   rw [← HW2.out]
   go_cut [8] from 34 to 38 (fun x wx => ∃ (aA : Option Addr) (cA : Nat), x = Value.slice aA K cA ∧ Rd wx aA (AL A) ∧ Below W2.heap.size W2 wx)
   case first =>
    by_cases h0 : LO = 0
    ·subst h0
     go_wp2_with fail
     go_meet
     exact ⟨sa, sc, rfl, by rw [HAE.out, Oe _ _ _ _ (Ox HLO.out.symm)]; exact HSR.out, Below.refl _ _⟩
    ·have hlp : 0 < LO := by omega
     have han := OH PP s.extra K s.size w1.heap.size (.slice fa nf fc) (.slice ta nt tc) xa sa pa xc sc pc (.int .i64 (LO : Int)) (.int .i64 (EX : Int)) (by omega) (by omega) (by omega) (by omega) z1 HPL.out y5 HZ3.out (by rw [← HLO.out, ← Qc y5, ← HEX.out]; omega) W2 HBK.out HXR.out HSR.out HPR.out
     rw [← HAE.out] at han
     have HAN := Aa han
     clear han
     go_wp2_with fail
     refine HAN.out.mono ?_
     rintro e w3 ⟨v3, rfl, ho3, hb3⟩
     obtain ⟨aA, cA, rfl, hr3⟩ := AC ho3
     have R3 := Aa hr3
     have B3 := Aa hb3
     clear ho3 hr3 hb3
     go_wp2_with fail
     go_meet
     exact ⟨aA, cA, rfl, R3.out, B3.out⟩
   case rest =>
   obtain ⟨aA, cA, rfl, hAr, hbW⟩ := hcut
   obtain ⟨W3, rfl⟩ : ∃ x, x = wc := ⟨_, rfl⟩
   obtain ⟨M, hM⟩ : ∃ x, x = Gb s.files A := ⟨_, rfl⟩
   have hMl : M.length = nf := by rw [hM, GI, HNF.out]
   have hMk : ∀ k (h : k < s.files.length), M[k]? = some (s.files[k].name, ((A.drop (Nf s.files k)).take s.files[k].slices.length).flatten.take s.files[k].long) := fun k h => by rw [hM]; exact Nm s.files A k h
   have HMK := Aa hMk
   have HAR := Aa hAr
   have HB3 := Aa hbW
   have hRE : C9 fs vs = if DU s.files M then .inl M else .inr 6 := by
    unfold C9
    rw [HLK.out]
    have e1 : (Cs fs s).extra = EX := HEX.out.symm
    have e2 : (Cs fs s).lost = LO := by rw [(FS fs s).2.2.1, HLO.out, HKD.out, HPP.out]
    have e3 : M0 fs (Cs fs s).set = M := by
     unfold M0
     rw [hM, HAE.out, HKD.out, HPP.out]
     rfl
    simp only
    rw [e1, e2, if_neg hlost, e3]
    rfl
   have HRE := Aa hRE
   obtain ⟨q1, q3, q6, q7⟩ := HS.out W3 hbW
   clear hM hMk hAr hbW hRE
   go_wp2_with fail
   go_loopw [9, 10, 11, 12, 13, 14, 15] (fun o fr i _ _ _ _ W => ∃ k : Nat, k ≤ nf ∧ i = .int .i64 (k : Int) ∧ fr = .int .i64 ((Nf s.files k : Nat) : Int) ∧ W.ownsRow W3.heap.size 62 2 o k (Ar (M.take k)) ∧ Hid (∀ (j : Nat) (d : DescL) (f : Aj), j < k → s.files[j]? = some d → M[j]? = some f → AA f.2 = d.hash) ∧ Below W3.heap.size W3 W)
    (fun _ _ i _ _ _ _ _ => nf - (intOf i).toNat)
   case atStart => exact ⟨0, by omega, rfl, rfl, World.ownsRow_nil _ _ _ _, Aa (fun j d f h => absurd h (by omega)), Below.refl _ _⟩
   case round =>
    obtain ⟨k, hk, rfl, rfl, hown, hok, hbl⟩ := hrel
    have hb2r := Below.next HB3.out hbl
    have hbwr := Below.next HBW2.out hb2r
    obtain ⟨q1, q3, q6, q7⟩ := HS.out wr hb2r
    have hszw : w.heap.size ≤ wr.heap.size := hbwr.size
    by_cases hlt : k < nf
    ·have hkf : k < s.files.length := by rw [← HNF.out]; exact hlt
     obtain ⟨bb, off, da, dc, hfe, e1, e2, e3, e4, -⟩ := (HOLD.out.touch (Touch.of_below hb2r []) (by simp)).file k hkf
     subst hfe
     have hMd := HMK.out k hkf
     have hoff := Sb s.files k hkf
     have hnx := LL s.files k hkf
     have hz4 := HZ4.out _ (List.getElem_mem hkf)
     have hdk : s.files[k]? = some s.files[k] := List.getElem?_eq_getElem hkf
     rw [← HKD.out] at hoff
     obtain ⟨d, hd⟩ : ∃ d, d = s.files[k] := ⟨_, rfl⟩
     rw [← hd] at e1 e2 e3 e4 hMd hoff hnx hz4 hdk
     obtain ⟨fr, hfr⟩ : ∃ x, x = Nf s.files k := ⟨Nf s.files k, rfl⟩
     rw [← hfr] at hMd hoff hnx ⊢
     obtain ⟨nm, hnm⟩ : ∃ x, x = d.name := ⟨d.name, rfl⟩
     obtain ⟨lg, hlg⟩ : ∃ x, x = d.long := ⟨d.long, rfl⟩
     obtain ⟨hh, hhh⟩ : ∃ x, x = d.hash := ⟨d.hash, rfl⟩
     obtain ⟨nn, hnn⟩ : ∃ x, x = d.slices.length := ⟨d.slices.length, rfl⟩
     rw [← hnm] at e1 hMd hz4
     rw [← hlg] at e2 hMd hz4
     rw [← hhh] at e3
     rw [← hnn] at e4 hMd hz4 hoff hnx
     obtain ⟨Wd, hWd⟩ : ∃ x, x = wr.alloc (.cells #[.string (str nm), .int .i64 (lg : Int), .int .u64 (hh : Int), .slice da nn dc] 101) := ⟨_, rfl⟩
     have hbkd := Blk.new wr #[.string (str nm), .int .i64 (lg : Int), .int .u64 (hh : Int), .slice da nn dc] 101
     rw [← hWd] at hbkd
     have hbd : Below wr.heap.size wr Wd := by rw [hWd]; exact (Below.refl _ _).alloc (Nat.le_refl _) _
     have HBD := Aa (Below.next hbl hbd)
     have HOD := Aa (Ab hown (Nat.le_refl _) hbd)
     have HBKD := Aa hbkd
     have HWD := Aa hWd
     have HBWD := Aa (Below.next hbwr hbd)
     have HMD := Aa hMd
     have HNX := Aa hnx
     have HDK := Aa hdk
     have HHH := Aa hhh
     have hszd : wr.heap.size < Wd.heap.size := by rw [hWd]; simp
     obtain ⟨z40, z41, z42⟩ := hz4
     have HZ40 := Aa z40
     clear hown hbl hb2r hbwr hbkd hbd hWd hMd hnx hdk hd hfr hnm hlg hhh hnn hkf z40 q6 q7
     go_wp2_with fail
     rw [← HWD.out]
     obtain ⟨Wi, rfl⟩ : ∃ x, x = wr := ⟨wr, rfl⟩
     go_loopw [13, 14] (fun dt q W => ∃ q' : Nat, q' ≤ nn ∧ q = .int .i64 (q' : Int) ∧ dt = .string (str ((A.drop fr).take q').flatten) ∧ Below Wd.heap.size Wd W)
      (fun _ q _ => nn - (intOf q).toNat)
     case atStart => exact ⟨0, by omega, rfl, rfl, Below.refl _ _⟩
     case round =>
      obtain ⟨q, hq, rfl, rfl, hblq⟩ := hrel
      have hkd := HBKD.out.touch (Touch.of_below hblq []) (by simp)
      have d0 := (hkd 0 _ rfl).1
      have d1 := (hkd 1 _ rfl).1
      have d2 := (hkd 2 _ rfl).1
      have d3 := (hkd 3 _ rfl).1
      have hfl := O8 A HAS.out fr q (by omega)
      have hqb : q * s.size ≤ 60 * 32 := Nat.mul_le_mul (by omega) (by omega)
      by_cases hql : q < nn
      ·have hin : fr + q < A.length := by omega
       obtain ⟨ab, ao, rfl, hac⟩ := (HAR.out.later (Nat.le_refl _) (Below.next HBD.out hblq)) (fr + q) (.string (str A[fr + q])) (by simp [AL, hin])
       have hsn := Pp A fr q hin
       have htl := HAS.out _ (List.getElem_mem hin)
       obtain ⟨tx, htx⟩ : ∃ x, x = A[fr + q] := ⟨_, rfl⟩
       rw [← htx] at hac hsn htl
       obtain ⟨F, hF⟩ : ∃ x, x = ((A.drop fr).take q).flatten := ⟨_, rfl⟩
       rw [← hF] at hsn hfl ⊢
       have hcat : str F ++ str tx = str (F ++ tx) := by rw [Hw, Dg]
       have hs1 := Ae F
       have hs2 := Ae tx
       have HSN := Aa hsn
       have HBQ := Aa hblq
       clear hsn hblq hF htx hkd
       go_wp2_with fail
       exact ⟨⟨q + 1, by omega, by go_num, by rw [HSN.out], HBQ.out⟩, by simp [intOf]; omega⟩
      ·obtain rfl : nn = q := by omega
       obtain ⟨F, hF⟩ : ∃ x, x = ((A.drop fr).take nn).flatten := ⟨_, rfl⟩
       have hMd := HMD.out
       rw [← hF] at hMd hfl ⊢
       have hle : lg ≤ F.length := by rw [hfl]; exact HZ40.out
       have hs1 := Ae F
       have hext : (str F).extract 0 lg = str (F.take lg) := by rw [AB]; simp
       obtain ⟨D, hD⟩ : ∃ x, x = F.take lg := ⟨_, rfl⟩
       rw [← hD] at hMd hext
       have hDl : D.length ≤ 400 := by rw [hD, List.length_take]; omega
       have hHs := DS D (by omega)
       obtain ⟨n1, hn1⟩ : ∃ x, x = AA D := ⟨AA D, rfl⟩
       rw [← hn1] at hHs
       have HHS := Aa hHs
       have HMD' := Aa hMd
       have HN1 := Aa hn1
       have HBQ := Aa hblq
       clear hF hD hHs hn1 hMd hblq hkd
       go_wp2_with fail
       refine (HHS.out _).mono ?_
       rintro e w' ⟨rfl, hw'⟩
       rw [hw']
       clear hw' w'
       have hkw := HBKD.out.touch (Touch.of_below HBQ.out []) (by simp)
       have hown9 := Ab HOD.out (Nat.le_refl _) HBQ.out
       have hsz9 : w.heap.size ≤ wr.heap.size := by have := HBQ.out.size; omega
       have hbw9 := Below.next HBWD.out HBQ.out
       have hb39 := Below.next HBD.out HBQ.out
       have HO9 := Aa hown9
       have HBW9 := Aa hbw9
       have HB39 := Aa hb39
       clear hkw hown9 hbw9 hb39 HBQ
       by_cases heq : n1 = hh
       ·subst heq
        have htk : M.take (k + 1) = M.take k ++ [(nm, D)] := by
         have hkM : k < M.length := by omega
         rw [Ao M k hkM]
         congr 2
         have := HMD'.out
         rw [List.getElem?_eq_getElem hkM] at this
         exact Option.some.inj this
        have hok2 : ∀ (j : Nat) (d' : DescL) (f : Aj), j < k + 1 → s.files[j]? = some d' → M[j]? = some f → AA f.2 = d'.hash := by
         intro j d' f hj hd' hf
         by_cases c : j < k
         ·exact hok.out j d' f c hd' hf
         ·obtain rfl : j = k := by omega
          rw [HDK.out] at hd'
          rw [HMD'.out] at hf
          cases hd'
          cases hf
          rw [← HHH.out, HN1.out]
        have HTK := Aa htk
        have HOK2 := Aa hok2
        clear htk hok2 hok
        have hsz3 : W3.heap.size ≤ wr.heap.size := HB39.out.size
        go_wp2_with (at_builtin; refine wpList_append_own _ rfl (.tmp 83) (.tmp 88) 22 rfl W3.heap.size 62 i0 (.agg #[.string ByteArray.empty, .string ByteArray.empty]) 2 32 Tryz.underlying22 hi hz0 hz1 hz2 rfl (by decide) _ _ _ rfl (HO9.out.alloc _) ⟨wr.heap.size, 0, none⟩ 1 1 [.string (str nm), .string (str D)] rfl rfl ?c1 ?c2 ?c3 ?c4 ?c5 ?_)
        case c1 => exact R8 _ _ _ _ _ rfl
        case c2 => exact Pt
        case c3 => unfold maxLen; omega
        case c4 => omega
        case c5 => simp; omega
        intro v9 w9 ho9 hg9 _
        have hb9 := Ay HB39.out hsz3 HO9.out hg9
        have K1 := Aa ho9
        have K2 := Aa hb9
        clear ho9 hg9 hb9
        go_wp2_with fail
        go_roundw
        case rel =>
         refine ⟨k + 1, by omega, by go_num, by rw [HNX.out]; go_num, ?_, HOK2, K2.out⟩
         rw [HTK.out, MU]
         exact K1.out
        case measure => simp [intOf]; omega
       ·have hne : ((n1 : Int) == (hh : Int)) = false := beq_eq_false_iff_ne.2 (by omega)
        have hno : DU s.files M = false := Lr HDK.out HMD'.out (by rw [← HHH.out, ← HN1.out]; exact heq)
        have HNO := Aa hno
        clear hno hok
        go_wp2_with fail
        go_ret2
        rw [HRE.out, HNO.out]
        exact ⟨HBW9.out, rfl⟩
    ·obtain rfl : nf = k := by omega
     have hyes : DU s.files M = true := (FB _ _).2 (fun j d f hd hf => hok.out j d f (by rw [HNF.out]; exact (List.getElem?_eq_some_iff.1 hd).1) hd hf)
     rw [List.take_of_length_le (by omega)] at hown
     have K1 := Aa (Ad (HBW2.out.trans (HB3.out.mono HBW2.out.size)).size hown)
     have K2 := Aa hbwr
     have HYE := Aa hyes
     clear hown hyes hbwr hbl hb2r hok
     go_wp2_with fail
     go_ret2
     rw [HRE.out, HYE.out]
     refine ⟨K2.out, _, rfl, ?_⟩
     rw [hMl]
     exact K1.out
theorem IS (l : List Aj) (a b : Option Addr) (c d : Nat) (hl : l.length ≤ 1000000) (w : World) (ha : Rd w a (Ar l)) (hb : Rd w b (Ar l)) :
  Calls Tryz.prog 22 #[.slice a l.length c, .slice b l.length d] w fun e w' => e = .returned (.bool true) ∧ Below w.heap.size w w' := by
 have hne' : ((l.length : Int) != (l.length : Int)) = false := by simp
 have HA := Aa ha
 have HB := Aa hb
 clear ha hb
 go_enter Tryz.func22, Tryz.ntmps22
 go_wp2_with fail
 go_loopw [5, 6] (fun i _ wr => ∃ k : Nat, k ≤ l.length ∧ i = .int .i64 (k : Int) ∧ Below w.heap.size w wr)
  (fun i _ _ => l.length - (intOf i).toNat)
 case atStart => exact ⟨0, by omega, rfl, Below.refl _ _⟩
 case round =>
  obtain ⟨k, hk, rfl, hbl⟩ := hrel
  have hszr := hbl.size
  by_cases hlt : k < l.length
  ·obtain ⟨b1, o1, rfl, x1, x2⟩ := Bh HA.out (Nat.le_refl _) hbl k hlt
   obtain ⟨b2, o2, rfl, y1, y2⟩ := Bh HB.out (Nat.le_refl _) hbl k hlt
   obtain ⟨nm, hnm⟩ : ∃ x, x = l[k].1 := ⟨_, rfl⟩
   obtain ⟨dt, hdt⟩ : ∃ x, x = l[k].2 := ⟨_, rfl⟩
   rw [← hnm] at x1 y1
   rw [← hdt] at x2 y2
   have hS : ∀ W, Below wr.heap.size wr W → W.cell? ⟨b1, o1 + k * 2, none⟩ = some (.string (str nm)) ∧ W.cell? ⟨b1, o1 + k * 2 + 1, none⟩ = some (.string (str dt)) ∧ W.cell? ⟨b2, o2 + k * 2, none⟩ = some (.string (str nm)) ∧ W.cell? ⟨b2, o2 + k * 2 + 1, none⟩ = some (.string (str dt)) := fun W hW =>
    ⟨(hW.cell (World.block_lt_of_cell? wr _ x1)).trans x1, (hW.cell (World.block_lt_of_cell? wr _ x2)).trans x2, (hW.cell (World.block_lt_of_cell? wr _ y1)).trans y1, (hW.cell (World.block_lt_of_cell? wr _ y2)).trans y2⟩
   have HS := Aa hS
   have hsf := fun W => Eq (nm, dt) (nm, dt) W
   rw [beq_self_eq_true] at hsf
   have HSF := Aa hsf
   have HBL := Aa hbl
   have hcur : Below wr.heap.size wr wr := Below.refl _ _
   clear hS hsf hbl hnm hdt x1 x2 y1 y2
   go_wp2_with fail
   refine wp_region_held_drew (S := fun W => W.cell? ⟨b1, o1 + k * 2, none⟩ = some (.string (str nm)) ∧ W.cell? ⟨b1, o1 + k * 2 + 1, none⟩ = some (.string (str dt)) ∧ W.cell? ⟨b2, o2 + k * 2, none⟩ = some (.string (str nm)) ∧ W.cell? ⟨b2, o2 + k * 2 + 1, none⟩ = some (.string (str dt))) (by kernel_rfl) (HS.out _ hcur.drew) (fun hHeld => ?_)
   first | (refine take_yes' (i := 0) (d := (some 18)) (v := ?tv1) (a' := ?ta1) rfl (by kernel_rfl) (by kernel_rfl) (by kernel_rfl) (by rfl) (fun _ _ _ h => h) ?thy1 (by assumption) rfl ?tha1 ?_; (case thy1 => (intro w hSw; (try dsimp only at hSw); simp only [List.getElem?_toArray, List.getElem?_cons_succ, List.getElem?_cons_zero, Option.map_some, Option.some.injEq]; go_simp; (try with_reducible rfl))); (case tha1 => (simp only [Act.put, List.setIfInBounds_toArray, List.set_cons_zero, List.set_cons_succ]; try rfl))) | (refine take_no' (i := 0) (d := (some 18)) (a' := ?ta1) rfl (by kernel_rfl) (by kernel_rfl) (by kernel_rfl) (by rfl) (fun _ _ _ h => h) (by assumption) rfl ?tha1 ?_; (case tha1 => (simp only [Act.put, List.setIfInBounds_toArray, List.set_cons_zero, List.set_cons_succ]; try rfl)))
   first | (refine take_yes' (i := 1) (d := (some 19)) (v := ?tv2) (a' := ?ta2) rfl (by kernel_rfl) (by kernel_rfl) (by kernel_rfl) (by rfl) (fun _ _ _ h => h) ?thy2 (by assumption) rfl ?tha2 ?_; (case thy2 => (intro w hSw; (try dsimp only at hSw); simp only [List.getElem?_toArray, List.getElem?_cons_succ, List.getElem?_cons_zero, Option.map_some, Option.some.injEq]; go_simp; (try with_reducible rfl))); (case tha2 => (simp only [Act.put, List.setIfInBounds_toArray, List.set_cons_zero, List.set_cons_succ]; try rfl))) | (refine take_no' (i := 1) (d := (some 19)) (a' := ?ta2) rfl (by kernel_rfl) (by kernel_rfl) (by kernel_rfl) (by rfl) (fun _ _ _ h => h) (by assumption) rfl ?tha2 ?_; (case tha2 => (simp only [Act.put, List.setIfInBounds_toArray, List.set_cons_zero, List.set_cons_succ]; try rfl)))
   first | (refine take_yes' (i := 2) (d := (some 20)) (v := ?tv3) (a' := ?ta3) rfl (by kernel_rfl) (by kernel_rfl) (by kernel_rfl) (by rfl) (fun _ _ _ h => h) ?thy3 (by assumption) rfl ?tha3 ?_; (case thy3 => (intro w hSw; (try dsimp only at hSw); simp only [List.getElem?_toArray, List.getElem?_cons_succ, List.getElem?_cons_zero, Option.map_some, Option.some.injEq]; go_simp; (try with_reducible rfl))); (case tha3 => (simp only [Act.put, List.setIfInBounds_toArray, List.set_cons_zero, List.set_cons_succ]; try rfl))) | (refine take_no' (i := 2) (d := (some 20)) (a' := ?ta3) rfl (by kernel_rfl) (by kernel_rfl) (by kernel_rfl) (by rfl) (fun _ _ _ h => h) (by assumption) rfl ?tha3 ?_; (case tha3 => (simp only [Act.put, List.setIfInBounds_toArray, List.set_cons_zero, List.set_cons_succ]; try rfl)))
   first | (refine take_yes' (i := 3) (d := (some 21)) (v := ?tv4) (a' := ?ta4) rfl (by kernel_rfl) (by kernel_rfl) (by kernel_rfl) (by rfl) (fun _ _ _ h => h) ?thy4 (by assumption) rfl ?tha4 ?_; (case thy4 => (intro w hSw; (try dsimp only at hSw); simp only [List.getElem?_toArray, List.getElem?_cons_succ, List.getElem?_cons_zero, Option.map_some, Option.some.injEq]; go_simp; (try with_reducible rfl))); (case tha4 => (simp only [Act.put, List.setIfInBounds_toArray, List.set_cons_zero, List.set_cons_succ]; try rfl))) | (refine take_no' (i := 3) (d := (some 21)) (a' := ?ta4) rfl (by kernel_rfl) (by kernel_rfl) (by kernel_rfl) (by rfl) (fun _ _ _ h => h) (by assumption) rfl ?tha4 ?_; (case tha4 => (simp only [Act.put, List.setIfInBounds_toArray, List.set_cons_zero, List.set_cons_succ]; try rfl)))
   first | (refine take_yes' (i := 4) (d := (some 22)) (v := ?tv5) (a' := ?ta5) rfl (by kernel_rfl) (by kernel_rfl) (by kernel_rfl) (by rfl) (fun _ _ _ h => h) ?thy5 (by assumption) rfl ?tha5 ?_; (case thy5 => (intro w hSw; (try dsimp only at hSw); simp only [List.getElem?_toArray, List.getElem?_cons_succ, List.getElem?_cons_zero, Option.map_some, Option.some.injEq]; go_simp; (try with_reducible rfl))); (case tha5 => (simp only [Act.put, List.setIfInBounds_toArray, List.set_cons_zero, List.set_cons_succ]; try rfl))) | (refine take_no' (i := 4) (d := (some 22)) (a' := ?ta5) rfl (by kernel_rfl) (by kernel_rfl) (by kernel_rfl) (by rfl) (fun _ _ _ h => h) (by assumption) rfl ?tha5 ?_; (case tha5 => (simp only [Act.put, List.setIfInBounds_toArray, List.set_cons_zero, List.set_cons_succ]; try rfl)))
   first | (refine take_yes' (i := 5) (d := (some 23)) (v := ?tv6) (a' := ?ta6) rfl (by kernel_rfl) (by kernel_rfl) (by kernel_rfl) (by rfl) (fun _ _ _ h => h) ?thy6 (by assumption) rfl ?tha6 ?_; (case thy6 => (intro w hSw; (try dsimp only at hSw); simp only [List.getElem?_toArray, List.getElem?_cons_succ, List.getElem?_cons_zero, Option.map_some, Option.some.injEq]; go_simp; (try with_reducible rfl))); (case tha6 => (simp only [Act.put, List.setIfInBounds_toArray, List.set_cons_zero, List.set_cons_succ]; try rfl))) | (refine take_no' (i := 5) (d := (some 23)) (a' := ?ta6) rfl (by kernel_rfl) (by kernel_rfl) (by kernel_rfl) (by rfl) (fun _ _ _ h => h) (by assumption) rfl ?tha6 ?_; (case tha6 => (simp only [Act.put, List.setIfInBounds_toArray, List.set_cons_zero, List.set_cons_succ]; try rfl)))
   first | (refine take_yes' (i := 6) (d := (some 24)) (v := ?tv7) (a' := ?ta7) rfl (by kernel_rfl) (by kernel_rfl) (by kernel_rfl) (by rfl) (fun _ _ _ h => h) ?thy7 (by assumption) rfl ?tha7 ?_; (case thy7 => (intro w hSw; (try dsimp only at hSw); simp only [List.getElem?_toArray, List.getElem?_cons_succ, List.getElem?_cons_zero, Option.map_some, Option.some.injEq]; go_simp; (try with_reducible rfl))); (case tha7 => (simp only [Act.put, List.setIfInBounds_toArray, List.set_cons_zero, List.set_cons_succ]; try rfl))) | (refine take_no' (i := 6) (d := (some 24)) (a' := ?ta7) rfl (by kernel_rfl) (by kernel_rfl) (by kernel_rfl) (by rfl) (fun _ _ _ h => h) (by assumption) rfl ?tha7 ?_; (case tha7 => (simp only [Act.put, List.setIfInBounds_toArray, List.set_cons_zero, List.set_cons_succ]; try rfl)))
   first | (refine take_yes' (i := 7) (d := (some 25)) (v := ?tv8) (a' := ?ta8) rfl (by kernel_rfl) (by kernel_rfl) (by kernel_rfl) (by rfl) (fun _ _ _ h => h) ?thy8 (by assumption) rfl ?tha8 ?_; (case thy8 => (intro w hSw; (try dsimp only at hSw); simp only [List.getElem?_toArray, List.getElem?_cons_succ, List.getElem?_cons_zero, Option.map_some, Option.some.injEq]; go_simp; (try with_reducible rfl))); (case tha8 => (simp only [Act.put, List.setIfInBounds_toArray, List.set_cons_zero, List.set_cons_succ]; try rfl))) | (refine take_no' (i := 7) (d := (some 25)) (a' := ?ta8) rfl (by kernel_rfl) (by kernel_rfl) (by kernel_rfl) (by rfl) (fun _ _ _ h => h) (by assumption) rfl ?tha8 ?_; (case tha8 => (simp only [Act.put, List.setIfInBounds_toArray, List.set_cons_zero, List.set_cons_succ]; try rfl)))
   refine step_one (i := 8) (by kernel_rfl) (fun K o ho hK => ?_)
   simp only [gA, gB, gC, gE] at ho
   subst ho
   go_simp
   refine (HSF.out _).mono ?_
   rintro e w9 ⟨rfl, hb9⟩
   have hb10 : Below wr.heap.size wr w9 := Below.next hcur.drew hb9
   have HB10 := Aa hb10
   clear hb9 hb10
   refine hK.out _ _ ?_ (fun hHeld => ?_)
   focus exact HS.out _ HB10.out
   clear hK K
   try simp only [Act.put, sA, sB, sC]
   refine step_one (i := 9) (by kernel_rfl) (fun K o ho hK => ?_)
   simp only [gA, gB, gC, gE] at ho
   subst ho
   go_simp
   refine hK.out _ _ ?_ (fun hHeld => ?_)
   focus exact HS.out _ HB10.out
   clear hK K
   try simp only [Act.put, sA, sB, sC]
   refine wpAnyH_done (by kernel_rfl) ?_ _
   go_wp2_with fail
   exact ⟨⟨k + 1, by omega, by go_num, HBL.out.trans (HB10.out.mono hszr)⟩, by simp [intOf]; omega⟩
  ·obtain rfl : k = l.length := by omega
   have HBL := Aa hbl
   clear hbl
   go_wp2_with fail
   go_ret
   exact ⟨rfl, HBL.out⟩
def Rh : List Aj ⊕ Nat → List Aj | .inl l => l | .inr _ => []
def Sz : List Aj ⊕ Nat → Nat | .inl _ => 0 | .inr n => n
theorem Rz (fs : List Aj) (vs : List (List UInt8)) : (Rh (C9 fs vs)).length ≤ 1000 := by
 unfold C9
 rcases GX (fs := fs) (vs := vs) with ⟨n, hlk, _⟩ | ⟨s, hrd, hlk⟩
 ·rw [hlk]
  simp [Rh]
 ·rw [hlk]
  simp only
  split
  ·simp [Rh]
  ·split
   ·have := (Gr hrd).2.2.1
    show (M0 fs s).length ≤ 1000
    unfold M0
    rw [GI]
    omega
   ·simp [Rh]
theorem NJ {r : List Aj ⊕ Nat} {w w' : World} {e : Ending} (h : Gq r w e w') : Below w.heap.size w w' ∧ ∃ (a : Option Addr) (c : Nat), e = .returned (.tuple #[.slice a (Rh r).length c, .int .i64 ((Sz r : Nat) : Int)]) ∧ w'.ownsRow w.heap.size 62 2 (.slice a (Rh r).length c) (Rh r).length (Ar (Rh r)) := by
 obtain ⟨hb, h⟩ := h
 refine ⟨hb, ?_⟩
 cases r with
 | inr n => exact ⟨none, 0, h, World.ownsRow_nil _ _ _ _⟩
 | inl fl =>
  obtain ⟨v, rfl, ho⟩ := h
  obtain ⟨a, c, rfl, _⟩ := AC ho
  exact ⟨a, c, rfl, ho⟩
end Go.Proofs.YtonjphollmdicaaGreatDoor
