import Derived.Test.YtonjphollmdicaaGreatDoorB10
import Derived.Test.YtonjphollmdicaaGreatDoorB16
import Derived.Test.YtonjphollmdicaaGreatDoorB32
import Derived.Test.YtonjphollmdicaaGreatDoorB35
import Derived.Test.YtonjphollmdicaaGreatDoorB37
set_option maxRecDepth 100000
set_option maxHeartbeats 4000000
set_option linter.unusedSimpArgs false
namespace Go.Proofs.YtonjphollmdicaaGreatDoor
open Go.ChangeShapes Go.WideShapes Go.ChangeAt Go.RowKit
theorem Oq (fs : List Ak) (b x : Int) : ∀ t ∈ (IY fs b x).1, t.length ≤ 4000 := by
 unfold IY
 by_cases h1 : Fg b x = true
 ·rw [if_pos h1]; simp
 ·rw [if_neg h1]
  obtain ⟨size, extra, hb, hx, h0, h32, _⟩ := Hr (by simpa using h1)
  have e1 : b.toNat = size := by omega
  rw [e1]
  by_cases h2 : CO fs size = true
  ·rw [if_pos h2]; exact JS h0 h32 h2
  ·rw [if_neg h2]; simp
def F7 (c : Int) (n : Nat) : Nat := ((if c < 0 then -(c + 1) else c) % (n : Int)).toNat
theorem Km (c : Int) {n : Nat} (h : 0 < n) : F7 c n < n := by
 unfold F7
 have := Int.emod_lt_of_pos (if c < 0 then -(c + 1) else c) (b := (n : Int)) (by omega)
 have := Int.emod_nonneg (if c < 0 then -(c + 1) else c) (b := (n : Int)) (by omega)
 omega
def If (ps : List (List UInt8)) (v : List UInt8) (ks : List Int) : List UInt8 := v ++ ks.flatMap fun c => ps.getD (F7 c ps.length) []
def GB (ps : List (List UInt8)) (vs : List (List UInt8)) (pk : List (List Int)) : List (List UInt8) := (List.range vs.length).map fun i => If ps (vs.getD i []) (if 0 < ps.length then pk.getD i [] else [])
theorem Gj (ps : List (List UInt8)) (vs : List (List UInt8)) (pk : List (List Int)) : (GB ps vs pk).length = vs.length := by simp [GB]
theorem NQ (ps : List (List UInt8)) (v : List UInt8) (ks : List Int) (c : Int) : If ps v (ks ++ [c]) = If ps v ks ++ ps.getD (F7 c ps.length) [] := by
 unfold If
 rw [List.flatMap_append]
 simp
theorem PV {ps : List (List UInt8)} (hp : ∀ t ∈ ps, t.length ≤ 4000) (v : List UInt8) (ks : List Int) : (If ps v ks).length ≤ v.length + 4000 * ks.length := by
 unfold If
 rw [List.length_append]
 have : (ks.flatMap fun c => ps.getD (F7 c ps.length) []).length ≤ 4000 * ks.length := by
  induction ks with
  | nil => simp
  | cons c r ih =>
   rw [List.flatMap_cons, List.length_append, List.length_cons]
   have h1 : (ps.getD (F7 c ps.length) []).length ≤ 4000 := by
    rw [List.getD_eq_getElem?_getD]
    cases hq : ps[F7 c ps.length]? with
    | none => simp
    | some t => exact hp t (List.mem_of_getElem? hq)
   omega
 omega
def Fi (ps : List (List UInt8)) (pk : List (List Int)) (i : Nat) : List Int := if 0 < ps.length then pk.getD i [] else []
theorem NG (ps : List (List UInt8)) (vs : List (List UInt8)) (pk : List (List Int)) (i : Nat) (h : i < vs.length) : (GB ps vs pk).take (i + 1) = (GB ps vs pk).take i ++ [If ps vs[i] (Fi ps pk i)] := by
 rw [List.take_add_one, List.getElem?_eq_getElem (by rw [Gj]; exact h)]
 congr 1
 unfold GB Fi
 simp [List.getD_eq_getElem?_getD, List.getElem?_eq_getElem h]
def RdPk (w : World) (a : Option Addr) (pk : List (List Int)) : Prop := ∀ i ks, pk[i]? = some ks → ∃ b off sa sc, a = some ⟨b, off, none⟩ ∧ w.cell? ⟨b, off + i, none⟩ = some (.slice sa ks.length sc) ∧ Rd w sa (ks.map (Value.int .i64))
theorem RdPk.later {w w' : World} {a : Option Addr} {pk : List (List Int)} (h : RdPk w a pk) (hb : Below w.heap.size w w') : RdPk w' a pk := fun i ks hi => by
 obtain ⟨b, off, sa, sc, e, h1, h2⟩ := h i ks hi
 have hl := World.block_lt_of_cell? w _ h1
 exact ⟨b, off, sa, sc, e, by rw [hb.cell hl]; exact h1, h2.later (Nat.le_refl _) hb⟩
theorem NO (c : Int) (n : Nat) (h1 : -9223372036854775808 ≤ c) (h2 : c ≤ 9223372036854775807) (hn0 : 0 < n) (hn : n ≤ 1000) (w : World) :
  Calls Tryz.prog 39 #[.int .i64 c, .int .i64 (n : Int)] w fun e w' => e = .returned (.int .i64 (F7 c n : Int)) ∧ w' = w := by
 by_cases hc : c < 0
 ·have hm : (-(c + 1)).tmod (n : Int) = (F7 c n : Int) := by
   unfold F7
   rw [if_pos hc, Int.tmod_eq_emod_of_nonneg (by omega)]
   have := Int.emod_nonneg (-(c + 1)) (b := (n : Int)) (by omega)
   omega
  have w1 : IntKind.i64.wrap (c + 1) = c + 1 := by rw [IntKind.wrap_i64]; omega
  have w2 : IntKind.i64.wrap (-(c + 1)) = -(c + 1) := by rw [IntKind.wrap_i64]; omega
  have hz : ¬ (n : Int) = 0 := by omega
  have hp := Km c hn0
  obtain ⟨p, hpp⟩ : ∃ p, p = F7 c n := ⟨_, rfl⟩
  rw [← hpp] at hm hp ⊢
  clear hpp
  have w3 : IntKind.i64.wrap (p : Int) = (p : Int) := by rw [IntKind.wrap_i64]; omega
  go_enter Tryz.func39, Tryz.ntmps39
  go_wp2_with fail
  go_ret
  simp_all
 ·have hm : c.tmod (n : Int) = (F7 c n : Int) := by
   unfold F7
   rw [if_neg hc, Int.tmod_eq_emod_of_nonneg (by omega)]
   have := Int.emod_nonneg c (b := (n : Int)) (by omega)
   omega
  have hz : ¬ (n : Int) = 0 := by omega
  have hp := Km c hn0
  obtain ⟨p, hpp⟩ : ∃ p, p = F7 c n := ⟨_, rfl⟩
  rw [← hpp] at hm hp ⊢
  clear hpp
  have w3 : IntKind.i64.wrap (p : Int) = (p : Int) := by rw [IntKind.wrap_i64]; omega
  go_enter Tryz.func39, Tryz.ntmps39
  go_wp2_with fail
  go_ret
  simp_all
theorem LM (fs : List Ak) (bx ex : Int) (vs : List (List UInt8)) (pk : List (List Int)) (sa va pa : Option Addr) (sc vc pc : Nat) (fv : Value)
  (hvn : vs.length ≤ 8796093022200) (hvl : ∀ v ∈ vs, v.length ≤ 140737488355328) (hpl : ∀ ks ∈ pk, ks.length ≤ 17592186044416) (hpr : ∀ ks ∈ pk, ∀ c ∈ ks, -9223372036854775808 ≤ c ∧ c ≤ 9223372036854775807) (w : World) (hh : Handed w fs sa sc) (hvr : Rd w va (AM vs)) (hpk : RdPk w pa pk) :
  Calls Tryz.prog 10 #[.agg #[.slice sa fs.length sc, .int .i64 bx, .int .i64 ex, fv, .slice va vs.length vc, .slice pa pk.length pc]] w fun e w' => ∃ v, e = .returned v ∧ w'.ownsRow w.heap.size 9 1 v vs.length (AM (GB (IY fs bx ex).1 vs pk)) ∧ Below w.heap.size w w' := by
 obtain ⟨it, hit, htz0, htz1, htz2⟩ := info_parts Tryz.infoTx
 have hC := Aa (fun W (hW : Below w.heap.size w W) => Ih fs bx ex sa sc W (hh.later hW))
 have hlen := Nv fs bx ex
 have hsh := Aa (Oq fs bx ex)
 obtain ⟨P, hP⟩ : ∃ P, P = (IY fs bx ex).1 := ⟨_, rfl⟩
 rw [← hP] at hC hlen hsh ⊢
 have HVR := Aa hvr
 have HPK := Aa hpk
 have HVL := Aa hvl
 have HPL := Aa hpl
 have HPR := Aa hpr
 clear hvr hpk hvl hpl hpr hh hP
 go_enter Tryz.func10, Tryz.ntmps10
 go_wp2_with fail
 refine (hC.out _ ((Below.refl _ _).alloc (Nat.le_refl _) _)).mono ?_
 rintro e w2 ⟨al, cl, rfl, hr2, hb2⟩
 have hpb := (Blk.new w #[.slice sa fs.length sc, .int .i64 bx, .int .i64 ex, fv, .slice va vs.length vc, .slice pa pk.length pc] 26).touch (Touch.of_below hb2 []) (by simp)
 have hbw : Below w.heap.size w w2 := Below.trans ((Below.refl _ _).alloc (Nat.le_refl _) _) (hb2.mono (by simp))
 have hsz2 : w.heap.size < w2.heap.size := hpb.lt (by simp)
 have HPB := Aa hpb
 have HBW := Aa hbw
 have HR2 := Aa hr2
 obtain ⟨al', cl', ee, hrp⟩ := AE hr2
 cases ee
 have HRP := Aa hrp
 clear hpb hbw hr2 hb2 hC hrp HR2
 go_wp2_with fail
 go_loopw [5, 6, 7, 8] (fun out ii _ _ W => ∃ i : Nat, i ≤ vs.length ∧ ii = .int .i64 (i : Int) ∧ Hid (W.ownsRow w2.heap.size 9 1 out i (AM ((GB P vs pk).take i))) ∧ Hid (Below w2.heap.size w2 W))
  (fun _ ii _ _ _ => vs.length - (intOf ii).toNat)
 case atStart => exact ⟨0, by omega, rfl, Aa (World.ownsRow_nil _ _ _ _), Aa (Below.refl _ _)⟩
 case round =>
  obtain ⟨i, hi, rfl, HOUT, HB⟩ := hrel
  have p4 : wr.cell? ⟨w.heap.size, 4, none⟩ = some (.slice va vs.length vc) := by rw [HB.out.cell hsz2]; exact (HPB.out 4 _ rfl).1
  have p5 : wr.cell? ⟨w.heap.size, 5, none⟩ = some (.slice pa pk.length pc) := by rw [HB.out.cell hsz2]; exact (HPB.out 5 _ rfl).1
  by_cases hlt : i < vs.length
  ·have hbww : Below w.heap.size w wr := HBW.out.trans (HB.out.mono (Nat.le_of_lt hsz2))
   obtain ⟨bb, off, rfl, hc0⟩ := HVR.out i (.string (str vs[i])) (by simp [AM, hlt])
   have d0 : wr.cell? ⟨bb, off + i, none⟩ = some (.string (str vs[i])) := by rw [hbww.cell (World.block_lt_of_cell? w _ hc0)]; exact hc0
   have htk := NG P vs pk i hlt
   have hvl := HVL.out vs[i] (List.getElem_mem hlt)
   obtain ⟨v, hve⟩ : ∃ v, v = vs[i] := ⟨_, rfl⟩
   rw [← hve] at d0 htk hvl
   have HTK := Aa htk
   have hpkw := HPK.out.later hbww
   have hks : (Fi P pk i).length ≤ 17592186044416 := by
    unfold Fi
    split
    ·rw [List.getD_eq_getElem?_getD]
     cases hq : pk[i]? with
     | none => simp
     | some kl => exact HPL.out kl (List.mem_of_getElem? hq)
    ·simp
   have HPKW := Aa hpkw
   have HBWW := Aa hbww
   clear hc0 htk hve hpkw hbww
   go_wp2_with fail
   go_loopw [7, 8] (fun sv kk W => ∃ k : Nat, k ≤ (Fi P pk i).length ∧ kk = .int .i64 (k : Int) ∧ sv = .string (str (If P v ((Fi P pk i).take k))) ∧ W = wr)
    (fun _ kk _ => (Fi P pk i).length - (intOf kk).toNat)
   case atStart => exact ⟨0, by omega, rfl, by rw [List.take_zero]; simp [If], rfl⟩
   case round =>
    obtain ⟨k, hk, rfl, rfl, rfl⟩ := hrel
    have hsz3 : w2.heap.size ≤ wr.heap.size := HB.out.size
    by_cases hgo : k < (Fi P pk i).length
    ·have hP0 : 0 < P.length := by
      apply Nat.pos_of_ne_zero
      intro e0
      unfold Fi at hgo
      rw [if_neg (by omega)] at hgo
      simp at hgo
     obtain ⟨kl, hkl⟩ : ∃ kl, pk[i]? = some kl := by
      cases hq : pk[i]? with
      | some kl => exact ⟨kl, rfl⟩
      | none =>
       unfold Fi at hgo
       rw [if_pos hP0, List.getD_eq_getElem?_getD, hq] at hgo
       simp at hgo
     have hpks : Fi P pk i = kl := by
      unfold Fi
      rw [if_pos hP0, List.getD_eq_getElem?_getD, hkl]
      rfl
     rw [hpks] at hgo hk hks ⊢
     have hil : i < pk.length := (List.getElem?_eq_some_iff.1 hkl).1
     obtain ⟨pb, po, ka, kc, rfl, x0, x1⟩ := HPKW.out i kl hkl
     obtain ⟨kb, ko, rfl, x2⟩ := x1 k (.int .i64 kl[k]) (by simp [hgo])
     have hcr := HPR.out kl (List.mem_of_getElem? hkl) kl[k] (List.getElem_mem hgo)
     have htk2 : kl.take (k + 1) = kl.take k ++ [kl[k]] := by rw [List.take_add_one, List.getElem?_eq_getElem hgo]; rfl
     obtain ⟨c, hc⟩ : ∃ c, c = kl[k] := ⟨_, rfl⟩
     rw [← hc] at x2 hcr htk2
     have hpi := Km c hP0
     have hPi := Aa (fun W => NO c P.length hcr.1 hcr.2 hP0 hlen W)
     obtain ⟨q, hq⟩ : ∃ q, q = F7 c P.length := ⟨_, rfl⟩
     rw [← hq] at hpi hPi
     obtain ⟨ab, ao, rfl, y0⟩ := HRP.out q (.string (str P[q])) (by simp [AM, hpi])
     have y1 : wr.cell? ⟨ab, ao + q, none⟩ = some (.string (str P[q])) := by rw [HB.out.cell (World.block_lt_of_cell? w2 _ y0)]; exact y0
     have hsn := NQ P v (kl.take k) c
     rw [← htk2, ← hq] at hsn
     have hgd : P.getD q [] = P[q] := by simp [List.getD_eq_getElem?_getD, List.getElem?_eq_getElem hpi]
     rw [hgd] at hsn
     have hPl := hsh.out P[q] (List.getElem_mem hpi)
     have hll := PV hsh.out v (kl.take k)
     rw [List.length_take] at hll
     obtain ⟨t, ht⟩ : ∃ t, t = P[q] := ⟨_, rfl⟩
     rw [← ht] at y1 hsn hPl
     obtain ⟨sx, hsx⟩ : ∃ x, x = If P v (kl.take k) := ⟨_, rfl⟩
     rw [← hsx] at hsn hll ⊢
     have hs1 := Ae sx
     have hs2 := Ae t
     have hadd : str sx ++ str t = str (sx ++ t) := KE sx t
     have hfit : (9223372036854775807 < sx.length + t.length) = False := by
      apply eq_false
      omega
     have HSN := Aa hsn
     have gk : (k : Int) < (kl.length : Int) := by omega
     have gi : (i : Int) < (pk.length : Int) := by omega
     have gP : (0 : Int) < (P.length : Int) := by omega
     clear hsn htk2 hc hq ht hsx y0 hgd hkl x1 hll hcr
     go_wp2_with fail
     refine (hPi.out _).mono ?_
     rintro e w' ⟨rfl, hw'⟩
     have hw' := hw'.symm
     subst hw'
     go_wp2_with fail
     exact ⟨⟨k + 1, by omega, by go_num, by rw [HSN.out], trivial⟩, by simp [intOf]; omega⟩
    ·have hfull : (Fi P pk i).take k = Fi P pk i := List.take_of_length_le (by omega)
     rw [hfull]
     have hcase : pk[i]? = none ∨ ∃ kl, pk[i]? = some kl ∧ (kl.length ≤ k ∨ (k < kl.length ∧ P.length = 0)) := by
      cases hq : pk[i]? with
      | none => exact Or.inl rfl
      | some kl =>
       refine Or.inr ⟨kl, rfl, ?_⟩
       by_cases hP0 : 0 < P.length
       ·have hpks : Fi P pk i = kl := by
         unfold Fi
         rw [if_pos hP0, List.getD_eq_getElem?_getD, hq]
         rfl
        rw [hpks] at hgo
        omega
       ·omega
     obtain ⟨sx, hsx⟩ : ∃ x, x = If P v (Fi P pk i) := ⟨_, rfl⟩
     rw [← hsx] at HTK ⊢
     obtain ⟨outs, houts⟩ : ∃ x, x = AM ((GB P vs pk).take i) := ⟨_, rfl⟩
     rw [← houts] at HOUT
     have HLT := Aa houts
     clear hsx hfull hgo hk hks hvl d0 houts
     rcases hcase with h0 | ⟨kl, h0, h1 | ⟨h1, h2⟩⟩
     ·have gi : ¬ (i : Int) < (pk.length : Int) := by
       have := List.getElem?_eq_none_iff.1 h0
       omega
      clear h0
      go_wp2_with (at_builtin; refine wpList_append_own _ rfl (.tmp 69) (.tmp 71) 23 rfl w2.heap.size 9 it (.string ByteArray.empty) 1 16 Tryz.underlying23 hit htz0 htz1 htz2 rfl (by decide) _ _ _ rfl (HOUT.out.alloc _) ⟨wr.heap.size, 0, none⟩ 1 1 [.string (str sx)] rfl rfl ?k11 ?k12 ?k13 ?k14 ?k15 ?_)
      first | (case k11 => exact Fb wr _ _) | skip
      case k12 => first | rfl | exact El rfl
      case k13 => unfold maxLen; omega
      case k14 => omega
      case k15 => first | omega | (simp; omega)
      intro v6 w6 hown6 hg6 _
      have hb6 : Below w2.heap.size w2 w6 := Az HB.out hsz3 HOUT.out hg6
      have hout6 : w6.ownsRow w2.heap.size 9 1 v6 (i + 1) (AM ((GB P vs pk).take (i + 1))) := by
       rw [HTK.out]
       rw [HLT.out] at hown6
       unfold AM at hown6 ⊢
       rw [List.map_append]
       exact hown6
      have HO6 := Aa hout6
      have HB6 := Aa hb6
      clear hown6 hg6 hb6 hout6 HOUT HB
      go_wp2_with fail
      exact ⟨⟨i + 1, by omega, by go_num, HO6, HB6⟩, by simp [intOf]; omega⟩
     ·have hil : i < pk.length := (List.getElem?_eq_some_iff.1 h0).1
      have gi : (i : Int) < (pk.length : Int) := by omega
      have gk : ¬ (k : Int) < (kl.length : Int) := by omega
      obtain ⟨pb, po, ka, kc, rfl, x0, -⟩ := HPKW.out i kl h0
      clear h0 h1
      go_wp2_with (at_builtin; refine wpList_append_own _ rfl (.tmp 69) (.tmp 71) 23 rfl w2.heap.size 9 it (.string ByteArray.empty) 1 16 Tryz.underlying23 hit htz0 htz1 htz2 rfl (by decide) _ _ _ rfl (HOUT.out.alloc _) ⟨wr.heap.size, 0, none⟩ 1 1 [.string (str sx)] rfl rfl ?k21 ?k22 ?k23 ?k24 ?k25 ?_)
      first | (case k21 => exact Fb wr _ _) | skip
      case k22 => first | rfl | exact El rfl
      case k23 => unfold maxLen; omega
      case k24 => omega
      case k25 => first | omega | (simp; omega)
      intro v6 w6 hown6 hg6 _
      have hb6 : Below w2.heap.size w2 w6 := Az HB.out hsz3 HOUT.out hg6
      have hout6 : w6.ownsRow w2.heap.size 9 1 v6 (i + 1) (AM ((GB P vs pk).take (i + 1))) := by
       rw [HTK.out]
       rw [HLT.out] at hown6
       unfold AM at hown6 ⊢
       rw [List.map_append]
       exact hown6
      have HO6 := Aa hout6
      have HB6 := Aa hb6
      clear hown6 hg6 hb6 hout6 HOUT HB
      go_wp2_with fail
      exact ⟨⟨i + 1, by omega, by go_num, HO6, HB6⟩, by simp [intOf]; omega⟩
     ·have hil : i < pk.length := (List.getElem?_eq_some_iff.1 h0).1
      have gi : (i : Int) < (pk.length : Int) := by omega
      have gk : (k : Int) < (kl.length : Int) := by omega
      have gP : ¬ (0 : Int) < (P.length : Int) := by omega
      obtain ⟨pb, po, ka, kc, rfl, x0, -⟩ := HPKW.out i kl h0
      clear h0 h1 h2
      go_wp2_with (at_builtin; refine wpList_append_own _ rfl (.tmp 69) (.tmp 71) 23 rfl w2.heap.size 9 it (.string ByteArray.empty) 1 16 Tryz.underlying23 hit htz0 htz1 htz2 rfl (by decide) _ _ _ rfl (HOUT.out.alloc _) ⟨wr.heap.size, 0, none⟩ 1 1 [.string (str sx)] rfl rfl ?k31 ?k32 ?k33 ?k34 ?k35 ?_)
      first | (case k31 => exact Fb wr _ _) | skip
      case k32 => first | rfl | exact El rfl
      case k33 => unfold maxLen; omega
      case k34 => omega
      case k35 => first | omega | (simp; omega)
      intro v6 w6 hown6 hg6 _
      have hb6 : Below w2.heap.size w2 w6 := Az HB.out hsz3 HOUT.out hg6
      have hout6 : w6.ownsRow w2.heap.size 9 1 v6 (i + 1) (AM ((GB P vs pk).take (i + 1))) := by
       rw [HTK.out]
       rw [HLT.out] at hown6
       unfold AM at hown6 ⊢
       rw [List.map_append]
       exact hown6
      have HO6 := Aa hout6
      have HB6 := Aa hb6
      clear hown6 hg6 hb6 hout6 HOUT HB
      go_wp2_with fail
      exact ⟨⟨i + 1, by omega, by go_num, HO6, HB6⟩, by simp [intOf]; omega⟩
  ·obtain rfl : vs.length = i := by omega
   have h1 := HOUT.out
   rw [List.take_of_length_le (by rw [Gj]; omega)] at h1
   have H1 := Aa h1
   clear h1 HOUT
   go_wp2_with fail
   go_ret
   exact ⟨_, rfl, Ad (Nat.le_of_lt hsz2) H1.out, HBW.out.trans (HB.out.mono (Nat.le_of_lt hsz2))⟩
def Fa (l : List (List UInt8)) (k : Nat) : List (List UInt8) := l ++ List.replicate k Bd
theorem JH (l : List (List UInt8)) (k : Nat) : AM (Fa l (k + 1)) = AM (Fa l k) ++ [.string (str Bd)] := by
 unfold Fa
 rw [List.replicate_succ', ← List.append_assoc, Cg]
 rfl
def LentT (w : World) (base : Nat) (v : Value) (l : List (List UInt8)) : Prop :=
 ∃ g c, v = .slice (some ⟨g, 0, none⟩) l.length c ∧ l.length + 8 ≤ c ∧ w.ownsRow base 9 1 (.slice (some ⟨g, 0, none⟩) (l.length + 8) c) (l.length + 8) (AM (Fa l 8))
theorem RD (l : List (List UInt8)) : ∀ u ∈ AM l, u.oneCell' = true := by
 intro u hu
 simp only [AM, List.mem_map] at hu
 obtain ⟨x, _, rfl⟩ := hu
 rfl
theorem QK {W : World} {ad : Addr} {xs : List Value} (h : Rd W (some ad) xs) : ∀ j u, xs[j]? = some u → W.cell? (ad.add j) = some u := by
 intro j u hj
 obtain ⟨b, off, e, hc⟩ := h j u hj
 cases e
 rw [show (⟨b, off, none⟩ : Addr).add j = ⟨b, off + j, none⟩ from by simp [Addr.add]]
 exact hc
theorem Ji (l : List (List UInt8)) (ad : Addr) (cap : Nat) (hn : l.length + 8 ≤ 8796093022208) (w : World) (hrd : Rd w (some ad) (AM l)) :
  Calls Tryz.prog 12 #[.slice (some ad) l.length cap] w fun e w' => ∃ v, e = .returned v ∧ LentT w' w.heap.size v l ∧ Below w.heap.size w w' := by
 obtain ⟨i0, hi, hz0, hz1, hz2⟩ := info_parts Tryz.infoS
 have hown0 := World.ownsRow_nil w w.heap.size 9 1
 have HRD := Aa hrd
 have HBD : Hid (∀ k, k < 8 → (l.length + k + 1) * 16 ≤ 140737488355328) := Aa (fun k hk => Nat.mul_le_mul_right 16 (show l.length + k + 1 ≤ 8796093022208 by omega))
 have HML : Hid (∀ k, k < 8 → l.length + k + 1 ≤ maxLen) := Aa (by intro k hk; unfold maxLen; omega)
 have hml : l.length ≤ maxLen := by unfold maxLen; omega
 have hbd : l.length * 16 ≤ 140737488355328 := Nat.mul_le_mul_right 16 (show l.length ≤ 8796093022208 by omega)
 have HL0 : Hid (AM l = AM (Fa l 0)) := Aa (by simp [Fa])
 clear hrd hn
 go_enter Tryz.func12, Tryz.ntmps12
 go_wp2_with (at_builtin; refine wpList_append_own _ rfl (.tmp 5) (.tmp 6) 23 rfl w.heap.size 9 i0 (.string ByteArray.empty) 1 16 Tryz.underlying23 hi hz0 hz1 hz2 rfl (by decide) _ _ _ rfl hown0 ad l.length cap (AM l) rfl ?d1 ?d0 ?d2 ?d3 ?d4 ?d5 ?_)
 case d1 => simp [AM]
 case d0 => exact QK HRD.out
 case d2 => exact RD l
 case d3 => rw [Nat.zero_add]; exact hml
 case d4 => rw [Nat.zero_add]; exact hbd
 case d5 => omega
 intro v1 w1 hown1 hg1 hnil
 clear hnil
 have hb1 := Cy (Below.refl w.heap.size w) (Nat.le_refl _) hown0 hg1
 have HO1 := Aa hown1
 have HB1 := Aa hb1
 clear hown1 hb1 hg1 hown0
 go_wp2_with fail
 go_loopw [3, 4] (fun v i wr => ∃ k : Nat, k ≤ 8 ∧ i = .int .i64 (k : Int) ∧ wr.ownsRow w.heap.size 9 1 v (l.length + k) (AM (Fa l k)) ∧ Below w.heap.size w wr)
  (fun _ i _ => 8 - (intOf i).toNat)
 case atStart => exact ⟨0, Nat.zero_le _, rfl, HL0.out ▸ HO1.out, HB1.out⟩
 case round =>
  clear HO1 HB1
  obtain ⟨k, hk, rfl, hownr, hbl⟩ := hrel
  have hsz := hbl.size
  have HO := Aa hownr
  have HB := Aa hbl
  by_cases hlt : k < 8
  ·clear hownr hbl
   go_wp2_with (at_builtin; refine wpList_append_own _ rfl (.tmp 12) (.tmp 13) 23 rfl w.heap.size 9 i0 (.string ByteArray.empty) 1 16 Tryz.underlying23 hi hz0 hz1 hz2 rfl (by decide) _ _ _ rfl (HO.out.alloc _) ⟨wr.heap.size, 0, none⟩ 1 1 [.string (str Bd)] rfl rfl (cell_one_new _ _ _) ?c2 ?c3 ?c4 ?c5 ?_)
   case c2 => intro u hu; simp at hu; subst hu; rfl
   case c3 => exact HML.out k hlt
   case c4 => exact HBD.out k hlt
   case c5 => simp; omega
   intro v6 w6 hown6 hg6 hnil
   clear hnil
   have hb6 := Az HB.out hsz HO.out hg6
   rw [← JH] at hown6
   have K1 := Aa hown6
   have K2 := Aa hb6
   clear hown6 hg6 hb6
   go_wp2_with fail
   exact ⟨⟨k + 1, by omega, by go_num, K1.out, K2.out⟩, by simp [intOf]; omega⟩
  ·obtain rfl : k = 8 := by omega
   rcases hownr.2 with ⟨_, h0⟩ | ⟨g, c, cur, rfl, hg, _, hc, _⟩
   ·omega
   ·clear hownr hbl
    go_wp2_with fail
    go_ret
    exact ⟨_, rfl, ⟨g, c, rfl, hc, HO.out⟩, HB.out⟩
theorem I0 (w : World) :
  Calls Tryz.prog 12 #[.slice none 0 0] w fun e w' => ∃ v, e = .returned v ∧ LentT w' w.heap.size v [] ∧ Below w.heap.size w w' := by
 obtain ⟨i0, hi, hz0, hz1, hz2⟩ := info_parts Tryz.infoS
 have hown0 := World.ownsRow_nil w w.heap.size 9 1
 go_enter Tryz.func12, Tryz.ntmps12
 go_wp2_with (at_builtin; refine wpList_append_own_none rfl (.tmp 5) (.tmp 6) 23 rfl w.heap.size 9 i0 1 Tryz.underlying23 hi _ _ _ rfl hown0 rfl ?_)
 go_loopw [3, 4] (fun v i wr => ∃ k : Nat, k ≤ 8 ∧ i = .int .i64 (k : Int) ∧ wr.ownsRow w.heap.size 9 1 v k (AM (Fa [] k)) ∧ Below w.heap.size w wr)
  (fun _ i _ => 8 - (intOf i).toNat)
 case atStart => exact ⟨0, by omega, rfl, hown0, Below.refl _ _⟩
 case round =>
  clear hown0
  obtain ⟨k, hk, rfl, hownr, hbl⟩ := hrel
  have hsz := hbl.size
  have HO := Aa hownr
  have HB := Aa hbl
  by_cases hlt : k < 8
  ·clear hownr hbl
   go_wp2_with (at_builtin; refine wpList_append_own _ rfl (.tmp 12) (.tmp 13) 23 rfl w.heap.size 9 i0 (.string ByteArray.empty) 1 16 Tryz.underlying23 hi hz0 hz1 hz2 rfl (by decide) _ _ _ rfl (HO.out.alloc _) ⟨wr.heap.size, 0, none⟩ 1 1 [.string (str Bd)] rfl rfl (cell_one_new _ _ _) ?c2 ?c3 ?c4 ?c5 ?_)
   case c2 => intro u hu; simp at hu; subst hu; rfl
   case c3 => unfold maxLen; omega
   case c4 => omega
   case c5 => simp; omega
   intro v6 w6 hown6 hg6 hnil
   clear hnil
   have hb6 := Az HB.out hsz HO.out hg6
   rw [← JH] at hown6
   have K1 := Aa hown6
   have K2 := Aa hb6
   clear hown6 hg6 hb6
   go_wp2_with fail
   exact ⟨⟨k + 1, by omega, by go_num, K1.out, K2.out⟩, by simp [intOf]; omega⟩
  ·obtain rfl : k = 8 := by omega
   rcases hownr.2 with ⟨_, h0⟩ | ⟨g, c, cur, rfl, hg, _, hc, _⟩
   ·omega
   ·clear hownr hbl
    go_wp2_with fail
    go_ret
    exact ⟨_, rfl, ⟨g, c, rfl, hc, HO.out⟩, HB.out⟩
theorem FQ (l : List (List UInt8)) (a : Option Addr) (cap : Nat) (ha : a = none → cap = 0) (hn : l.length + 8 ≤ 8796093022208) (w : World) (hrd : Rd w a (AM l)) :
  Calls Tryz.prog 12 #[.slice a l.length cap] w fun e w' => ∃ v, e = .returned v ∧ LentT w' w.heap.size v l ∧ Below w.heap.size w w' := by
 cases a with
 | some ad => exact Ji l ad cap hn w hrd
 | none =>
  cases l with
  | nil => rw [ha rfl]; exact I0 w
  | cons f r =>
   obtain ⟨b, off, e, _⟩ := hrd 0 (.string (str f)) (by simp [AM])
   cases e
theorem QD (l : List (List UInt8)) (i : Nat) (h : i < l.length + 8) : ∃ t : List UInt8, (AM (Fa l 8))[i]? = some (.string (str t)) ∧ (i < l.length → l[i]? = some t) ∧ (¬ i < l.length → t = Bd) := by
 have hl : (Fa l 8).length = l.length + 8 := by simp [Fa]
 refine ⟨(Fa l 8)[i]'(by omega), by rw [AM, List.getElem?_map, List.getElem?_eq_getElem (by omega)]; rfl, fun h' => ?_, fun h' => ?_⟩
 ·simp [Fa, h']
 ·unfold Fa
  rw [List.getElem_append_right (show l.length ≤ i from by omega)]
  exact List.getElem_replicate _
theorem Fp (l : List (List UInt8)) (a : Option Addr) (cap : Nat) (v : Value) (w0 w : World) (hn : l.length + 8 ≤ 8796093022208) (hrd : Rd w0 a (AM l)) (hb : Below w0.heap.size w0 w) (hl : LentT w w0.heap.size v l) :
  Calls Tryz.prog 16 #[v, .slice a l.length cap] w fun e w' => e = .returned (.bool true) ∧ w.grownBy w' v.ownBlock := by
 obtain ⟨g, c, rfl, hc, hown⟩ := hl
 have hsz := hb.size
 have hgb0 : w0.heap.size ≤ g := (hown.lt g (by simp [Value.ownBlock])).1
 have HRD := Aa hrd
 have HO := Aa hown
 have HB := Aa hb
 have HAT := Aa (fun i h => QD l i h)
 clear hrd hown hb
 obtain ⟨n, hN⟩ : ∃ n, n = l.length := ⟨_, rfl⟩
 have HN := Aa hN
 rw [← hN] at hn hc HO HAT ⊢
 clear hN
 go_enter Tryz.func16, Tryz.ntmps16
 go_wp2_with fail
 go_loopw [5, 7, 8] (fun ok i _ W => ∃ (k : Nat) (xs : List Value), k ≤ n + 8 ∧ ok = .bool true ∧ i = .int .i64 (k : Int) ∧ W.ownsRow w0.heap.size 9 1 (.slice (some ⟨g, 0, none⟩) (n + 8) c) (n + 8) xs ∧ Hid (∀ j, k ≤ j → xs[j]? = (AM (Fa l 8))[j]?) ∧ w.grownBy W (some g))
  (fun _ i _ _ => n + 8 - (intOf i).toNat)
 case atStart => exact ⟨0, _, by omega, rfl, rfl, HO.out, Aa (fun _ _ => rfl), ⟨rfl, rfl, rfl, Nat.le_refl _, fun _ _ _ => rfl⟩⟩
 case round =>
  clear HO
  obtain ⟨k, xs, hk, rfl, rfl, hownr, HX, hgr⟩ := hrel
  have hbl : Below w0.heap.size w0 wr := HB.out.grown hgr hsz (by intro kk hkk; cases hkk; exact hgb0)
  have HGR := Aa hgr
  clear hgr
  by_cases hlt : k < n + 8
  ·obtain ⟨t, ht1, ht2, ht3⟩ := HAT.out k hlt
   rw [← HX.out _ (Nat.le_refl _)] at ht1
   have hc1 : wr.cell? ⟨g, k, none⟩ = some (.string (str t)) := by rw [hownr.cellAt _ (by omega)]; exact ht1
   have hfz := hownr.frozenAt k
   have hst := (hownr.stored k (.string ⟨#[111, 118, 101, 114]⟩)).1
   have hgs := HGR.out.trans (CQ wr ⟨g, k, none⟩ (.string ⟨#[111, 118, 101, 114]⟩))
   have hx2 : ∀ j, k + 1 ≤ j → (xs.set k (.string ⟨#[111, 118, 101, 114]⟩))[j]? = (AM (Fa l 8))[j]? := by
    intro j hj
    rw [List.getElem?_set_ne (by omega)]
    exact HX.out j (by omega)
   have K1 := Aa hst
   have K2 := Aa hx2
   have K3 := Aa hgs
   have e1 : ((str t).toList == (str t).toList) = true := by simp
   by_cases hkn : k < n
   ·have htk := ht2 hkn
    obtain ⟨b0, off0, rfl, hl1⟩ := (HRD.out.later (Nat.le_refl _) hbl) k (.string (str t)) (by rw [AM, List.getElem?_map, htk]; rfl)
    clear ht1 ht2 ht3 htk hownr hbl hst hgs hx2 HGR HX
    go_wp2_with fail
    exact ⟨⟨k + 1, _, by omega, rfl, by go_num, K1.out, K2, K3.out⟩, by simp [intOf]; omega⟩
   ·have hte := ht3 hkn
    subst hte
    have e2 : ((str Bd).toList == [115, 112, 97, 114, 101]) = true := by rw [Au]; rfl
    clear ht1 ht2 ht3 hownr hbl hst hgs hx2 HGR HX
    go_wp2_with fail
    exact ⟨⟨k + 1, _, by omega, rfl, by go_num, K1.out, K2, K3.out⟩, by simp [intOf]; omega⟩
  ·obtain rfl : k = n + 8 := by omega
   clear hownr hbl
   go_wp2_with fail
   go_ret
   exact ⟨rfl, HGR.out⟩
theorem LentT.later {w w' : World} {base : Nat} {v : Value} {l : List (List UInt8)} (h : LentT w base v l) (hb : Below w.heap.size w w') : LentT w' base v l := by
 obtain ⟨g, c, hv, hc, ho⟩ := h
 exact ⟨g, c, hv, hc, Ab ho (Nat.le_refl _) hb⟩
theorem LentT.rd {w : World} {base : Nat} {v : Value} {l : List (List UInt8)} (h : LentT w base v l) : ∃ a c, v = .slice a l.length c ∧ Rd w a (AM l) := by
 obtain ⟨g, c, hv, hc, ho⟩ := h
 refine ⟨some ⟨g, 0, none⟩, c, hv, fun k u hk => ?_⟩
 have hkl : k < (AM l).length := (List.getElem?_eq_some_iff.1 hk).1
 have := ho.cells (g := g) rfl k u (by
  unfold Fa
  unfold AM at hk hkl ⊢
  rw [List.map_append, List.getElem?_append_left hkl]
  exact hk)
 have hadd : (⟨g, 0, none⟩ : Addr).add k = ⟨g, 0 + k, none⟩ := by unfold Addr.add; split <;> simp_all
 rw [hadd] at this
 exact ⟨g, 0, rfl, this⟩
theorem Lent.rd {w : World} {base : Nat} {v : Value} {fs : List Ak} (h : Lent w base v fs) : ∃ a c, v = .slice a fs.length c ∧ Rd w a (As fs) := by
 obtain ⟨g, c, hv, hc, ho⟩ := h
 refine ⟨some ⟨g, 0, none⟩, c, hv, fun k u hk => ?_⟩
 have hkl : k < (As fs).length := (List.getElem?_eq_some_iff.1 hk).1
 have := ho.cells (g := g) rfl k u (by
  unfold EJ
  rw [DH, List.getElem?_append_left hkl]
  exact hk)
 have hadd : (⟨g, 0, none⟩ : Addr).add k = ⟨g, 0 + k, none⟩ := by unfold Addr.add; split <;> simp_all
 rw [hadd] at this
 exact ⟨g, 0, rfl, this⟩
theorem GK (l : List Int) (a b : Option Addr) (c d : Nat) (hl : l.length ≤ 1000000) (w : World) (ha : Rd w a (l.map (Value.int .i64))) (hb : Rd w b (l.map (Value.int .i64))) :
  Calls Tryz.prog 17 #[.slice a l.length c, .slice b l.length d] w fun e w' => e = .returned (.bool true) ∧ Below w.heap.size w w' := by
 have hne' : ((l.length : Int) != (l.length : Int)) = false := by simp
 have HA := Aa ha
 have HB := Aa hb
 clear ha hb
 go_enter Tryz.func17, Tryz.ntmps17
 go_wp2_with fail
 go_loopw [5] (fun i wr => ∃ k : Nat, k ≤ l.length ∧ i = .int .i64 (k : Int) ∧ Below w.heap.size w wr)
  (fun i _ => l.length - (intOf i).toNat)
 case atStart => exact ⟨0, by omega, rfl, Below.refl _ _⟩
 case round =>
  obtain ⟨k, hk, rfl, hbl⟩ := hrel
  by_cases hlt : k < l.length
  ·obtain ⟨b1, o1, rfl, hc1⟩ := (HA.out.later (Nat.le_refl _) hbl) k ((Value.int .i64) l[k]) (by simp [hlt])
   obtain ⟨b2, o2, rfl, hc2⟩ := (HB.out.later (Nat.le_refl _) hbl) k ((Value.int .i64) l[k]) (by simp [hlt])
   have HBL := Aa hbl
   have g1 : (k : Int) < (l.length : Int) := by omega
   obtain ⟨x, hx⟩ : ∃ x, x = l[k] := ⟨_, rfl⟩
   rw [← hx] at hc1 hc2
   have hxx : (x != x) = false := by simp
   clear hbl hx
   go_wp2_with fail
   go_quiet (fail)
   go_wp2_with fail
   exact ⟨⟨k + 1, by omega, by go_num, BJ HBL.out _⟩, by simp [intOf]; omega⟩
  ·obtain rfl : k = l.length := by omega
   have HBL := Aa hbl
   clear hbl
   go_wp2_with fail
   go_ret
   exact ⟨rfl, HBL.out⟩
theorem Ie (l : List Bool) (a b : Option Addr) (c d : Nat) (hl : l.length ≤ 1000000) (w : World) (ha : Rd w a (l.map Value.bool)) (hb : Rd w b (l.map Value.bool)) :
  Calls Tryz.prog 18 #[.slice a l.length c, .slice b l.length d] w fun e w' => e = .returned (.bool true) ∧ Below w.heap.size w w' := by
 have hne' : ((l.length : Int) != (l.length : Int)) = false := by simp
 have HA := Aa ha
 have HB := Aa hb
 clear ha hb
 go_enter Tryz.func18, Tryz.ntmps18
 go_wp2_with fail
 go_loopw [5] (fun i wr => ∃ k : Nat, k ≤ l.length ∧ i = .int .i64 (k : Int) ∧ Below w.heap.size w wr)
  (fun i _ => l.length - (intOf i).toNat)
 case atStart => exact ⟨0, by omega, rfl, Below.refl _ _⟩
 case round =>
  obtain ⟨k, hk, rfl, hbl⟩ := hrel
  by_cases hlt : k < l.length
  ·obtain ⟨b1, o1, rfl, hc1⟩ := (HA.out.later (Nat.le_refl _) hbl) k (Value.bool l[k]) (by simp [hlt])
   obtain ⟨b2, o2, rfl, hc2⟩ := (HB.out.later (Nat.le_refl _) hbl) k (Value.bool l[k]) (by simp [hlt])
   have HBL := Aa hbl
   have g1 : (k : Int) < (l.length : Int) := by omega
   obtain ⟨x, hx⟩ : ∃ x, x = l[k] := ⟨_, rfl⟩
   rw [← hx] at hc1 hc2
   have hxx : (x != x) = false := by simp
   clear hbl hx
   go_wp2_with fail
   go_quiet (fail)
   go_wp2_with fail
   exact ⟨⟨k + 1, by omega, by go_num, BJ HBL.out _⟩, by simp [intOf]; omega⟩
  ·obtain rfl : k = l.length := by omega
   have HBL := Aa hbl
   clear hbl
   go_wp2_with fail
   go_ret
   exact ⟨rfl, HBL.out⟩
def OH : LeftL ⊕ Nat → List Nat | .inl p => p.states | .inr _ => []
def OS : LeftL ⊕ Nat → List Bool | .inl p => p.flags | .inr _ => []
def Sj : LeftL ⊕ Nat → Nat | .inl p => p.lost | .inr _ => 0
def R8 : LeftL ⊕ Nat → Nat | .inl p => p.extra | .inr _ => 0
def S7 : LeftL ⊕ Nat → Nat | .inl _ => 0 | .inr n => n
theorem Sf (fs : List Ak) (vs : List (List UInt8)) : (OH (AH fs vs)).length ≤ 1000 ∧ (OS (AH fs vs)).length ≤ 1000 ∧ Sj (AH fs vs) ≤ 1000 ∧ R8 (AH fs vs) ≤ 1000 := by
 unfold AH
 cases DZ fs vs with
 | false => simp [OH, OS, Sj, R8]
 | true =>
  simp only [if_true]
  cases hr : EH (At vs) with
  | inr n => simp [OH, OS, Sj, R8]
  | inl s =>
   obtain ⟨_, _, h1, h2, h3⟩ := Gk hr
   simp only [OH, OS, Sj, R8, Ct]
   have h4 := Ng fs s.size (AF s.files)
   have h5 := Pk s.extra
   refine ⟨by simp; omega, by simp [CW]; omega, by omega, by omega⟩
theorem Rj {fs : List Ak} {vs : List (List UInt8)} {w w' : World} {e : Ending} (h : IE (I8 fs vs) w e w') : Below w.heap.size w w' ∧ ∃ (sa pa : Option Addr) (sc pc : Nat),
  e = .returned (.tuple #[.agg #[.slice sa (OH (AH fs vs)).length sc, .slice pa (OS (AH fs vs)).length pc, .int .i64 (Sj (AH fs vs) : Int), .int .i64 (R8 (AH fs vs) : Int)], .int .i64 (S7 (AH fs vs) : Int)]) ∧
  w'.ownsRow w.heap.size 3 1 (.slice sa (OH (AH fs vs)).length sc) (OH (AH fs vs)).length (Kj (OH (AH fs vs))) ∧ w'.ownsRow w.heap.size 4 1 (.slice pa (OS (AH fs vs)).length pc) (OS (AH fs vs)).length (FL (OS (AH fs vs))) := by
 obtain ⟨hb, h⟩ := h
 refine ⟨hb, ?_⟩
 rw [Ri] at h
 cases hl : AH fs vs with
 | inr n =>
  rw [hl] at h
  exact ⟨none, none, 0, 0, h, World.ownsRow_nil _ _ _ _, World.ownsRow_nil _ _ _ _⟩
 | inl p =>
  rw [hl] at h
  obtain ⟨v, he, sv, pv, rfl, h1, h2⟩ := h
  obtain ⟨sa, sc, rfl, _⟩ := AE h1
  obtain ⟨pa, pc, rfl, _⟩ := AE h2
  exact ⟨sa, pa, sc, pc, he, h1, h2⟩
theorem Rr {fs : List Ak} {vs : List (List UInt8)} {w w' : World} {e : Ending} (h : Fh (AH fs vs) w e w') : Below w.heap.size w w' ∧ ∃ (z : Nat) (fa xa la sa pa : Option Addr) (fn fc xn xc ln lc sc pc : Nat),
  e = .returned (.tuple #[.agg #[.int .i64 (z : Int), .slice fa fn fc, .slice xa xn xc, .slice la ln lc, .slice sa (OH (AH fs vs)).length sc, .slice pa (OS (AH fs vs)).length pc, .int .i64 (Sj (AH fs vs) : Int), .int .i64 (R8 (AH fs vs) : Int)], .int .i64 (S7 (AH fs vs) : Int)]) ∧
  w'.ownsRow w.heap.size 3 1 (.slice sa (OH (AH fs vs)).length sc) (OH (AH fs vs)).length (Kj (OH (AH fs vs))) ∧ w'.ownsRow w.heap.size 4 1 (.slice pa (OS (AH fs vs)).length pc) (OS (AH fs vs)).length (FL (OS (AH fs vs))) := by
 obtain ⟨hb, h⟩ := h
 refine ⟨hb, ?_⟩
 cases hl : AH fs vs with
 | inr n =>
  rw [hl] at h
  exact ⟨0, none, none, none, none, none, 0, 0, 0, 0, 0, 0, 0, 0, h, World.ownsRow_nil _ _ _ _, World.ownsRow_nil _ _ _ _⟩
 | inl p =>
  rw [hl] at h
  obtain ⟨v, he, fv, xv, svs, slv, stv, prv, rfl, h1, _, h3, h4, h5, h6⟩ := h
  obtain ⟨fa, fc, rfl, _⟩ := AE h1
  obtain ⟨xa, xc, rfl, _⟩ := AE h3
  obtain ⟨la, lc, rfl, _⟩ := AE h4
  obtain ⟨sa, sc, rfl, _⟩ := AE h5
  obtain ⟨pa, pc, rfl, _⟩ := AE h6
  exact ⟨p.set.size, fa, xa, la, sa, pa, _, fc, _, xc, _, lc, sc, pc, he, Ad (Nat.le_succ _) h5, Ad (Nat.le_succ _) h6⟩
theorem Qq (l : List Nat) : Kj l = (l.map fun n : Nat => (n : Int)).map (Value.int .i64) := by simp [Kj]
end Go.Proofs.YtonjphollmdicaaGreatDoor
