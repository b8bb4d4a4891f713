import Derived.Test.YtonjphollmdicaaGreatDoorB35
import Derived.Test.YtonjphollmdicaaGreatDoorB42
namespace Go.Proofs.YtonjphollmdicaaGreatDoor
open Go.ChangeShapes Go.WideShapes Go.ChangeAt Go.RowKit
def resL (fs : List FileL) (b x : Int) : List (List UInt8) × Int :=
 if badArg b x then ([], 1) else if goodSet fs b.toNat then (packetsL b.toNat fs x.toNat, 0) else ([], 2)
theorem packets_count (size : Nat) (fs : List FileL) (extra : Nat) : (packetsL size fs extra).length = 1 + fs.length + extra := by
 simp [packetsL, fPacketsL, rPacketsL, bodiesL]; omega
theorem resL_len (fs : List FileL) (b x : Int) : (resL fs b x).1.length ≤ 1000 := by
 unfold resL
 by_cases h1 : badArg b x = true
 ·rw [if_pos h1]; simp
 ·rw [if_neg h1]
  by_cases h2 : goodSet fs b.toNat = true
  ·rw [if_pos h2, packets_count]
   obtain ⟨size, extra, _, hx, _, _, _, hex, _⟩ := good_arg (by simpa using h1)
   unfold goodSet at h2
   rw [Bool.and_eq_true, Bool.and_eq_true] at h2
   have := set_facts h2.1.1
   omega
  ·rw [if_neg h2]; simp
theorem rCreate_any (fs : List FileL) (b x : Int) (a : Option Addr) (cap : Nat) (w : World) (hh : Handed w fs a cap) :
  Calls Tryz.prog 38 #[.slice a fs.length cap, .int .i64 b, .int .i64 x] w fun e w' => ∃ al cl, e = .returned (.tuple #[.slice al (resL fs b x).1.length cl, .int .i64 (resL fs b x).2]) ∧ w'.ownsRow w.heap.size 9 1 (.slice al (resL fs b x).1.length cl) (resL fs b x).1.length (strV (resL fs b x).1) ∧ Below w.heap.size w w' := by
 unfold resL
 by_cases h1 : badArg b x = true
 ·rw [if_pos h1]
  refine (rCreate_arg fs b x a cap h1 w).mono ?_
  rintro e w' ⟨rfl, hb⟩
  exact ⟨none, 0, rfl, World.ownsRow_nil _ _ _ _, hb⟩
 ·rw [if_neg h1]
  obtain ⟨size, extra, hb, hx, h0, h32, hev, hex, hss⟩ := good_arg (by simpa using h1)
  have e1 : b.toNat = size := by omega
  have e2 : x.toNat = extra := by omega
  rw [e1, e2]
  by_cases h2 : goodSet fs size = true
  ·rw [if_pos h2]
   refine (rCreate_ok fs b x size extra a cap hb hx h0 h32 hev hex hss h2 w hh).mono ?_
   rintro e w' ⟨v, rfl, hown, hbl⟩
   obtain ⟨al, cl, rfl, _, _, _⟩ := ownsRow_rd hown
   exact ⟨al, cl, by rw [packets_count], by rw [packets_count]; exact hown, hbl⟩
  ·rw [if_neg h2]
   refine (rCreate_file fs b x size extra a cap hb hx h0 h32 hex hss (by simpa using h2) w hh).mono ?_
   rintro e w' ⟨rfl, hbl⟩
   exact ⟨none, 0, rfl, World.ownsRow_nil _ _ _ _, hbl⟩
theorem Lent.later {w w' : World} {base : Nat} {v : Value} {fs : List FileL} (h : Lent w base v fs) (hb : Below w.heap.size w w') : Lent w' base v fs := by
 obtain ⟨g, c, hv, hc, ho⟩ := h
 exact ⟨g, c, hv, hc, ownsRow_later ho (Nat.le_refl _) hb⟩
theorem Lent.base {w : World} {base base' : Nat} {v : Value} {fs : List FileL} (h : Lent w base v fs) (hb : base' ≤ base) : Lent w base' v fs := by
 obtain ⟨g, c, hv, hc, ho⟩ := h
 exact ⟨g, c, hv, hc, ownsRow_base hb ho⟩
theorem Lent.handed {w : World} {base : Nat} {v : Value} {fs : List FileL} (h : Lent w base v fs) (hs : ∀ f ∈ fs, f.1.length < 140737488355328 ∧ f.2.length < 140737488355328) : ∃ a c, v = .slice a fs.length c ∧ Handed w fs a c := by
 obtain ⟨g, c, hv, hc, ho⟩ := h
 refine ⟨some ⟨g, 0, none⟩, c, hv, ⟨?_, by omega, hs⟩⟩
 intro k u hk
 have hkl : k < (filesV fs).length := (List.getElem?_eq_some_iff.1 hk).1
 have := ho.cells (g := g) rfl k u (by
  unfold lentL
  rw [filesV_append, List.getElem?_append_left hkl]
  exact hk)
 have hadd : (⟨g, 0, none⟩ : Addr).add k = ⟨g, 0 + k, none⟩ := by unfold Addr.add; split <;> simp_all
 rw [hadd] at this
 exact ⟨g, 0, rfl, this⟩
theorem Handed.later {w w' : World} {fs : List FileL} {a : Option Addr} {cap : Nat} (h : Handed w fs a cap) (hb : Below w.heap.size w w') : Handed w' fs a cap := ⟨h.rd.later (Nat.le_refl _) hb, h.cap1, h.short⟩
end Go.Proofs.YtonjphollmdicaaGreatDoor
namespace Go.Proofs.YtonjphollmdicaaGreatDoor
open Go.ChangeShapes Go.WideShapes Go.ChangeAt Go.RowKit
theorem resL_short (fs : List FileL) (b x : Int) : ∀ t ∈ (resL fs b x).1, t.length ≤ 4000 := by
 unfold resL
 by_cases h1 : badArg b x = true
 ·rw [if_pos h1]; simp
 ·rw [if_neg h1]
  obtain ⟨size, extra, hb, hx, h0, h32, _⟩ := good_arg (by simpa using h1)
  have e1 : b.toNat = size := by omega
  rw [e1]
  by_cases h2 : goodSet fs size = true
  ·rw [if_pos h2]; exact packets_short h0 h32 h2
  ·rw [if_neg h2]; simp
def pickN (c : Int) (n : Nat) : Nat := ((if c < 0 then -(c + 1) else c) % (n : Int)).toNat
theorem pickN_lt (c : Int) {n : Nat} (h : 0 < n) : pickN c n < n := by
 unfold pickN
 have := Int.emod_lt_of_pos (if c < 0 then -(c + 1) else c) (b := (n : Int)) (by omega)
 have := Int.emod_nonneg (if c < 0 then -(c + 1) else c) (b := (n : Int)) (by omega)
 omega
def laidS (ps : List (List UInt8)) (v : List UInt8) (ks : List Int) : List UInt8 := v ++ ks.flatMap fun c => ps.getD (pickN c ps.length) []
def laidL (ps : List (List UInt8)) (vs : List (List UInt8)) (pk : List (List Int)) : List (List UInt8) := (List.range vs.length).map fun i => laidS ps (vs.getD i []) (if 0 < ps.length then pk.getD i [] else [])
theorem laidL_len (ps : List (List UInt8)) (vs : List (List UInt8)) (pk : List (List Int)) : (laidL ps vs pk).length = vs.length := by simp [laidL]
theorem laidS_snoc (ps : List (List UInt8)) (v : List UInt8) (ks : List Int) (c : Int) : laidS ps v (ks ++ [c]) = laidS ps v ks ++ ps.getD (pickN c ps.length) [] := by
 unfold laidS
 rw [List.flatMap_append]
 simp
theorem laidS_len {ps : List (List UInt8)} (hp : ∀ t ∈ ps, t.length ≤ 4000) (v : List UInt8) (ks : List Int) : (laidS ps v ks).length ≤ v.length + 4000 * ks.length := by
 unfold laidS
 rw [List.length_append]
 have : (ks.flatMap fun c => ps.getD (pickN c ps.length) []).length ≤ 4000 * ks.length := by
  induction ks with
  | nil => simp
  | cons c r ih =>
   rw [List.flatMap_cons, List.length_append, List.length_cons]
   have h1 : (ps.getD (pickN c ps.length) []).length ≤ 4000 := by
    rw [List.getD_eq_getElem?_getD]
    cases hq : ps[pickN c ps.length]? with
    | none => simp
    | some t => exact hp t (List.mem_of_getElem? hq)
   omega
 omega
def pksOf (ps : List (List UInt8)) (pk : List (List Int)) (i : Nat) : List Int := if 0 < ps.length then pk.getD i [] else []
theorem laidL_take (ps : List (List UInt8)) (vs : List (List UInt8)) (pk : List (List Int)) (i : Nat) (h : i < vs.length) : (laidL ps vs pk).take (i + 1) = (laidL ps vs pk).take i ++ [laidS ps vs[i] (pksOf ps pk i)] := by
 rw [List.take_add_one, List.getElem?_eq_getElem (by rw [laidL_len]; exact h)]
 congr 1
 unfold laidL pksOf
 simp [List.getD_eq_getElem?_getD, List.getElem?_eq_getElem h]
def RdPk (w : World) (a : Option Addr) (pk : List (List Int)) : Prop := ∀ i ks, pk[i]? = some ks → ∃ b off sa sc, a = some ⟨b, off, none⟩ ∧ w.cell? ⟨b, off + i, none⟩ = some (.slice sa ks.length sc) ∧ Rd w sa (ks.map (Value.int .i64))
theorem RdPk.later {w w' : World} {a : Option Addr} {pk : List (List Int)} (h : RdPk w a pk) (hb : Below w.heap.size w w') : RdPk w' a pk := fun i ks hi => by
 obtain ⟨b, off, sa, sc, e, h1, h2⟩ := h i ks hi
 have hl := World.block_lt_of_cell? w _ h1
 exact ⟨b, off, sa, sc, e, by rw [hb.cell hl]; exact h1, h2.later (Nat.le_refl _) hb⟩
end Go.Proofs.YtonjphollmdicaaGreatDoor
namespace Go.Proofs.YtonjphollmdicaaGreatDoor
open Go.ChangeShapes Go.WideShapes Go.ChangeAt Go.RowKit
theorem lpick_walk (c : Int) (n : Nat) (h1 : -9223372036854775808 ≤ c) (h2 : c ≤ 9223372036854775807) (hn0 : 0 < n) (hn : n ≤ 1000) (w : World) :
  Calls Tryz.prog 39 #[.int .i64 c, .int .i64 (n : Int)] w fun e w' => e = .returned (.int .i64 (pickN c n : Int)) ∧ w' = w := by
 by_cases hc : c < 0
 ·have hm : (-(c + 1)).tmod (n : Int) = (pickN c n : Int) := by
   unfold pickN
   rw [if_pos hc, Int.tmod_eq_emod_of_nonneg (by omega)]
   have := Int.emod_nonneg (-(c + 1)) (b := (n : Int)) (by omega)
   omega
  have w1 : IntKind.i64.wrap (c + 1) = c + 1 := by rw [IntKind.wrap_i64]; omega
  have w2 : IntKind.i64.wrap (-(c + 1)) = -(c + 1) := by rw [IntKind.wrap_i64]; omega
  have hz : ¬ (n : Int) = 0 := by omega
  have hp := pickN_lt c hn0
  obtain ⟨p, hpp⟩ : ∃ p, p = pickN c n := ⟨_, rfl⟩
  rw [← hpp] at hm hp ⊢
  clear hpp
  have w3 : IntKind.i64.wrap (p : Int) = (p : Int) := by rw [IntKind.wrap_i64]; omega
  go_enter Tryz.func39, Tryz.ntmps39
  go_wp2_with fail
  go_ret
  simp_all
 ·have hm : c.tmod (n : Int) = (pickN c n : Int) := by
   unfold pickN
   rw [if_neg hc, Int.tmod_eq_emod_of_nonneg (by omega)]
   have := Int.emod_nonneg c (b := (n : Int)) (by omega)
   omega
  have hz : ¬ (n : Int) = 0 := by omega
  have hp := pickN_lt c hn0
  obtain ⟨p, hpp⟩ : ∃ p, p = pickN c n := ⟨_, rfl⟩
  rw [← hpp] at hm hp ⊢
  clear hpp
  have w3 : IntKind.i64.wrap (p : Int) = (p : Int) := by rw [IntKind.wrap_i64]; omega
  go_enter Tryz.func39, Tryz.ntmps39
  go_wp2_with fail
  go_ret
  simp_all
set_option linter.unusedSimpArgs false in
set_option maxRecDepth 100000 in
set_option maxHeartbeats 4000000 in
theorem laid_walk (fs : List FileL) (bx ex : Int) (vs : List (List UInt8)) (pk : List (List Int)) (sa va pa : Option Addr) (sc vc pc : Nat) (fv : Value)
  (hvn : vs.length ≤ 8796093022200) (hvl : ∀ v ∈ vs, v.length ≤ 140737488355328) (hpl : ∀ ks ∈ pk, ks.length ≤ 17592186044416) (hpr : ∀ ks ∈ pk, ∀ c ∈ ks, -9223372036854775808 ≤ c ∧ c ≤ 9223372036854775807) (w : World) (hh : Handed w fs sa sc) (hvr : Rd w va (strV vs)) (hpk : RdPk w pa pk) :
  Calls Tryz.prog 10 #[.agg #[.slice sa fs.length sc, .int .i64 bx, .int .i64 ex, fv, .slice va vs.length vc, .slice pa pk.length pc]] w fun e w' => ∃ v, e = .returned v ∧ w'.ownsRow w.heap.size 9 1 v vs.length (strV (laidL (resL fs bx ex).1 vs pk)) ∧ Below w.heap.size w w' := by
 obtain ⟨it, hit, htz0, htz1, htz2⟩ := info_parts Tryz.infoTx
 have hC := hid_of (fun W (hW : Below w.heap.size w W) => rCreate_any fs bx ex sa sc W (hh.later hW))
 have hlen := resL_len fs bx ex
 have hsh := hid_of (resL_short fs bx ex)
 obtain ⟨P, hP⟩ : ∃ P, P = (resL fs bx ex).1 := ⟨_, rfl⟩
 rw [← hP] at hC hlen hsh ⊢
 have HVR := hid_of hvr
 have HPK := hid_of hpk
 have HVL := hid_of hvl
 have HPL := hid_of hpl
 have HPR := hid_of hpr
 clear hvr hpk hvl hpl hpr hh hP
 go_enter Tryz.func10, Tryz.ntmps10
 go_wp2_with fail
 refine (hC.out _ ((Below.refl _ _).alloc (Nat.le_refl _) _)).mono ?_
 rintro e w2 ⟨al, cl, rfl, hr2, hb2⟩
 have hpb := (Blk.new w #[.slice sa fs.length sc, .int .i64 bx, .int .i64 ex, fv, .slice va vs.length vc, .slice pa pk.length pc] 26).touch (Touch.of_below hb2 []) (by simp)
 have hbw : Below w.heap.size w w2 := Below.trans ((Below.refl _ _).alloc (Nat.le_refl _) _) (hb2.mono (by simp))
 have hsz2 : w.heap.size < w2.heap.size := hpb.lt (by simp)
 have HPB := hid_of hpb
 have HBW := hid_of hbw
 have HR2 := hid_of hr2
 obtain ⟨al', cl', ee, hrp⟩ := row_rd hr2
 cases ee
 have HRP := hid_of hrp
 clear hpb hbw hr2 hb2 hC hrp HR2
 go_wp2_with fail
 go_loopw [5, 6, 7, 8] (fun out ii _ _ W => ∃ i : Nat, i ≤ vs.length ∧ ii = .int .i64 (i : Int) ∧ Hid (W.ownsRow w2.heap.size 9 1 out i (strV ((laidL P vs pk).take i))) ∧ Hid (Below w2.heap.size w2 W))
  (fun _ ii _ _ _ => vs.length - (intOf ii).toNat)
 case atStart => exact ⟨0, by omega, rfl, hid_of (World.ownsRow_nil _ _ _ _), hid_of (Below.refl _ _)⟩
 case round =>
  obtain ⟨i, hi, rfl, HOUT, HB⟩ := hrel
  have p4 : wr.cell? ⟨w.heap.size, 4, none⟩ = some (.slice va vs.length vc) := by rw [HB.out.cell hsz2]; exact (HPB.out 4 _ rfl).1
  have p5 : wr.cell? ⟨w.heap.size, 5, none⟩ = some (.slice pa pk.length pc) := by rw [HB.out.cell hsz2]; exact (HPB.out 5 _ rfl).1
  by_cases hlt : i < vs.length
  ·have hbww : Below w.heap.size w wr := HBW.out.trans (HB.out.mono (Nat.le_of_lt hsz2))
   obtain ⟨bb, off, rfl, hc0⟩ := HVR.out i (.string (str vs[i])) (by simp [strV, hlt])
   have d0 : wr.cell? ⟨bb, off + i, none⟩ = some (.string (str vs[i])) := by rw [hbww.cell (World.block_lt_of_cell? w _ hc0)]; exact hc0
   have htk := laidL_take P vs pk i hlt
   have hvl := HVL.out vs[i] (List.getElem_mem hlt)
   obtain ⟨v, hve⟩ : ∃ v, v = vs[i] := ⟨_, rfl⟩
   rw [← hve] at d0 htk hvl
   have HTK := hid_of htk
   have hpkw := HPK.out.later hbww
   have hks : (pksOf P pk i).length ≤ 17592186044416 := by
    unfold pksOf
    split
    ·rw [List.getD_eq_getElem?_getD]
     cases hq : pk[i]? with
     | none => simp
     | some kl => exact HPL.out kl (List.mem_of_getElem? hq)
    ·simp
   have HPKW := hid_of hpkw
   have HBWW := hid_of hbww
   clear hc0 htk hve hpkw hbww
   go_wp2_with fail
   go_loopw [7, 8] (fun sv kk W => ∃ k : Nat, k ≤ (pksOf P pk i).length ∧ kk = .int .i64 (k : Int) ∧ sv = .string (str (laidS P v ((pksOf P pk i).take k))) ∧ W = wr)
    (fun _ kk _ => (pksOf P pk i).length - (intOf kk).toNat)
   case atStart => exact ⟨0, by omega, rfl, by rw [List.take_zero]; simp [laidS], rfl⟩
   case round =>
    obtain ⟨k, hk, rfl, rfl, rfl⟩ := hrel
    have hsz3 : w2.heap.size ≤ wr.heap.size := HB.out.size
    by_cases hgo : k < (pksOf P pk i).length
    ·have hP0 : 0 < P.length := by
      apply Nat.pos_of_ne_zero
      intro e0
      unfold pksOf at hgo
      rw [if_neg (by omega)] at hgo
      simp at hgo
     obtain ⟨kl, hkl⟩ : ∃ kl, pk[i]? = some kl := by
      cases hq : pk[i]? with
      | some kl => exact ⟨kl, rfl⟩
      | none =>
       unfold pksOf at hgo
       rw [if_pos hP0, List.getD_eq_getElem?_getD, hq] at hgo
       simp at hgo
     have hpks : pksOf P pk i = kl := by
      unfold pksOf
      rw [if_pos hP0, List.getD_eq_getElem?_getD, hkl]
      rfl
     rw [hpks] at hgo hk hks ⊢
     have hil : i < pk.length := (List.getElem?_eq_some_iff.1 hkl).1
     obtain ⟨pb, po, ka, kc, rfl, x0, x1⟩ := HPKW.out i kl hkl
     obtain ⟨kb, ko, rfl, x2⟩ := x1 k (.int .i64 kl[k]) (by simp [hgo])
     have hcr := HPR.out kl (List.mem_of_getElem? hkl) kl[k] (List.getElem_mem hgo)
     have htk2 : kl.take (k + 1) = kl.take k ++ [kl[k]] := by rw [List.take_add_one, List.getElem?_eq_getElem hgo]; rfl
     obtain ⟨c, hc⟩ : ∃ c, c = kl[k] := ⟨_, rfl⟩
     rw [← hc] at x2 hcr htk2
     have hpi := pickN_lt c hP0
     have hPi := hid_of (fun W => lpick_walk c P.length hcr.1 hcr.2 hP0 hlen W)
     obtain ⟨q, hq⟩ : ∃ q, q = pickN c P.length := ⟨_, rfl⟩
     rw [← hq] at hpi hPi
     obtain ⟨ab, ao, rfl, y0⟩ := HRP.out q (.string (str P[q])) (by simp [strV, hpi])
     have y1 : wr.cell? ⟨ab, ao + q, none⟩ = some (.string (str P[q])) := by rw [HB.out.cell (World.block_lt_of_cell? w2 _ y0)]; exact y0
     have hsn := laidS_snoc P v (kl.take k) c
     rw [← htk2, ← hq] at hsn
     have hgd : P.getD q [] = P[q] := by simp [List.getD_eq_getElem?_getD, List.getElem?_eq_getElem hpi]
     rw [hgd] at hsn
     have hPl := hsh.out P[q] (List.getElem_mem hpi)
     have hll := laidS_len hsh.out v (kl.take k)
     rw [List.length_take] at hll
     obtain ⟨t, ht⟩ : ∃ t, t = P[q] := ⟨_, rfl⟩
     rw [← ht] at y1 hsn hPl
     obtain ⟨sx, hsx⟩ : ∃ x, x = laidS P v (kl.take k) := ⟨_, rfl⟩
     rw [← hsx] at hsn hll ⊢
     have hs1 := str_size sx
     have hs2 := str_size t
     have hadd : str sx ++ str t = str (sx ++ t) := strs sx t
     have hfit : (9223372036854775807 < sx.length + t.length) = False := by
      apply eq_false
      omega
     have HSN := hid_of hsn
     have gk : (k : Int) < (kl.length : Int) := by omega
     have gi : (i : Int) < (pk.length : Int) := by omega
     have gP : (0 : Int) < (P.length : Int) := by omega
     clear hsn htk2 hc hq ht hsx y0 hgd hkl x1 hll hcr
     go_wp2_with fail
     refine (hPi.out _).mono ?_
     rintro e w' ⟨rfl, hw'⟩
     have hw' := hw'.symm
     subst hw'
     go_wp2_with fail
     exact ⟨⟨k + 1, by omega, by go_num, by rw [HSN.out], trivial⟩, by simp [intOf]; omega⟩
    ·have hfull : (pksOf P pk i).take k = pksOf P pk i := List.take_of_length_le (by omega)
     rw [hfull]
     have hcase : pk[i]? = none ∨ ∃ kl, pk[i]? = some kl ∧ (kl.length ≤ k ∨ (k < kl.length ∧ P.length = 0)) := by
      cases hq : pk[i]? with
      | none => exact Or.inl rfl
      | some kl =>
       refine Or.inr ⟨kl, rfl, ?_⟩
       by_cases hP0 : 0 < P.length
       ·have hpks : pksOf P pk i = kl := by
         unfold pksOf
         rw [if_pos hP0, List.getD_eq_getElem?_getD, hq]
         rfl
        rw [hpks] at hgo
        omega
       ·omega
     obtain ⟨sx, hsx⟩ : ∃ x, x = laidS P v (pksOf P pk i) := ⟨_, rfl⟩
     rw [← hsx] at HTK ⊢
     obtain ⟨outs, houts⟩ : ∃ x, x = strV ((laidL P vs pk).take i) := ⟨_, rfl⟩
     rw [← houts] at HOUT
     have HLT := hid_of houts
     clear hsx hfull hgo hk hks hvl d0 houts
     rcases hcase with h0 | ⟨kl, h0, h1 | ⟨h1, h2⟩⟩
     ·have gi : ¬ (i : Int) < (pk.length : Int) := by
       have := List.getElem?_eq_none_iff.1 h0
       omega
      clear h0
      go_wp2_with (at_builtin; refine wpList_append_own _ rfl (.tmp 69) (.tmp 71) 23 rfl w2.heap.size 9 it (.string ByteArray.empty) 1 16 Tryz.underlying23 hit htz0 htz1 htz2 rfl (by decide) _ _ _ rfl (HOUT.out.alloc _) ⟨wr.heap.size, 0, none⟩ 1 1 [.string (str sx)] rfl rfl ?k11 ?k12 ?k13 ?k14 ?k15 ?_)
      first | (case k11 => exact new_one wr _ _) | skip
      case k12 => first | rfl | exact one_cell rfl
      case k13 => unfold maxLen; omega
      case k14 => omega
      case k15 => first | omega | (simp; omega)
      intro v6 w6 hown6 hg6 _
      have hb6 : Below w2.heap.size w2 w6 := below_step HB.out hsz3 HOUT.out hg6
      have hout6 : w6.ownsRow w2.heap.size 9 1 v6 (i + 1) (strV ((laidL P vs pk).take (i + 1))) := by
       rw [HTK.out]
       rw [HLT.out] at hown6
       unfold strV at hown6 ⊢
       rw [List.map_append]
       exact hown6
      have HO6 := hid_of hout6
      have HB6 := hid_of hb6
      clear hown6 hg6 hb6 hout6 HOUT HB
      go_wp2_with fail
      exact ⟨⟨i + 1, by omega, by go_num, HO6, HB6⟩, by simp [intOf]; omega⟩
     ·have hil : i < pk.length := (List.getElem?_eq_some_iff.1 h0).1
      have gi : (i : Int) < (pk.length : Int) := by omega
      have gk : ¬ (k : Int) < (kl.length : Int) := by omega
      obtain ⟨pb, po, ka, kc, rfl, x0, -⟩ := HPKW.out i kl h0
      clear h0 h1
      go_wp2_with (at_builtin; refine wpList_append_own _ rfl (.tmp 69) (.tmp 71) 23 rfl w2.heap.size 9 it (.string ByteArray.empty) 1 16 Tryz.underlying23 hit htz0 htz1 htz2 rfl (by decide) _ _ _ rfl (HOUT.out.alloc _) ⟨wr.heap.size, 0, none⟩ 1 1 [.string (str sx)] rfl rfl ?k21 ?k22 ?k23 ?k24 ?k25 ?_)
      first | (case k21 => exact new_one wr _ _) | skip
      case k22 => first | rfl | exact one_cell rfl
      case k23 => unfold maxLen; omega
      case k24 => omega
      case k25 => first | omega | (simp; omega)
      intro v6 w6 hown6 hg6 _
      have hb6 : Below w2.heap.size w2 w6 := below_step HB.out hsz3 HOUT.out hg6
      have hout6 : w6.ownsRow w2.heap.size 9 1 v6 (i + 1) (strV ((laidL P vs pk).take (i + 1))) := by
       rw [HTK.out]
       rw [HLT.out] at hown6
       unfold strV at hown6 ⊢
       rw [List.map_append]
       exact hown6
      have HO6 := hid_of hout6
      have HB6 := hid_of hb6
      clear hown6 hg6 hb6 hout6 HOUT HB
      go_wp2_with fail
      exact ⟨⟨i + 1, by omega, by go_num, HO6, HB6⟩, by simp [intOf]; omega⟩
     ·have hil : i < pk.length := (List.getElem?_eq_some_iff.1 h0).1
      have gi : (i : Int) < (pk.length : Int) := by omega
      have gk : (k : Int) < (kl.length : Int) := by omega
      have gP : ¬ (0 : Int) < (P.length : Int) := by omega
      obtain ⟨pb, po, ka, kc, rfl, x0, -⟩ := HPKW.out i kl h0
      clear h0 h1 h2
      go_wp2_with (at_builtin; refine wpList_append_own _ rfl (.tmp 69) (.tmp 71) 23 rfl w2.heap.size 9 it (.string ByteArray.empty) 1 16 Tryz.underlying23 hit htz0 htz1 htz2 rfl (by decide) _ _ _ rfl (HOUT.out.alloc _) ⟨wr.heap.size, 0, none⟩ 1 1 [.string (str sx)] rfl rfl ?k31 ?k32 ?k33 ?k34 ?k35 ?_)
      first | (case k31 => exact new_one wr _ _) | skip
      case k32 => first | rfl | exact one_cell rfl
      case k33 => unfold maxLen; omega
      case k34 => omega
      case k35 => first | omega | (simp; omega)
      intro v6 w6 hown6 hg6 _
      have hb6 : Below w2.heap.size w2 w6 := below_step HB.out hsz3 HOUT.out hg6
      have hout6 : w6.ownsRow w2.heap.size 9 1 v6 (i + 1) (strV ((laidL P vs pk).take (i + 1))) := by
       rw [HTK.out]
       rw [HLT.out] at hown6
       unfold strV at hown6 ⊢
       rw [List.map_append]
       exact hown6
      have HO6 := hid_of hout6
      have HB6 := hid_of hb6
      clear hown6 hg6 hb6 hout6 HOUT HB
      go_wp2_with fail
      exact ⟨⟨i + 1, by omega, by go_num, HO6, HB6⟩, by simp [intOf]; omega⟩
  ·obtain rfl : vs.length = i := by omega
   have h1 := HOUT.out
   rw [List.take_of_length_le (by rw [laidL_len]; omega)] at h1
   have H1 := hid_of h1
   clear h1 HOUT
   go_wp2_with fail
   go_ret
   exact ⟨_, rfl, ownsRow_base (Nat.le_of_lt hsz2) H1.out, HBW.out.trans (HB.out.mono (Nat.le_of_lt hsz2))⟩
end Go.Proofs.YtonjphollmdicaaGreatDoor
namespace Go.Proofs.YtonjphollmdicaaGreatDoor
open Go.ChangeShapes Go.WideShapes Go.ChangeAt Go.RowKit
def lentT (l : List (List UInt8)) (k : Nat) : List (List UInt8) := l ++ List.replicate k spareL
theorem lentT_succ (l : List (List UInt8)) (k : Nat) : strV (lentT l (k + 1)) = strV (lentT l k) ++ [.string (str spareL)] := by
 unfold lentT
 rw [List.replicate_succ', ← List.append_assoc, strV_append]
 rfl
def LentT (w : World) (base : Nat) (v : Value) (l : List (List UInt8)) : Prop :=
 ∃ g c, v = .slice (some ⟨g, 0, none⟩) l.length c ∧ l.length + 8 ≤ c ∧ w.ownsRow base 9 1 (.slice (some ⟨g, 0, none⟩) (l.length + 8) c) (l.length + 8) (strV (lentT l 8))
theorem strV_one (l : List (List UInt8)) : ∀ u ∈ strV l, u.oneCell' = true := by
 intro u hu
 simp only [strV, List.mem_map] at hu
 obtain ⟨x, _, rfl⟩ := hu
 rfl
theorem rd_cells {W : World} {ad : Addr} {xs : List Value} (h : Rd W (some ad) xs) : ∀ j u, xs[j]? = some u → W.cell? (ad.add j) = some u := by
 intro j u hj
 obtain ⟨b, off, e, hc⟩ := h j u hj
 cases e
 rw [show (⟨b, off, none⟩ : Addr).add j = ⟨b, off + j, none⟩ from by simp [Addr.add]]
 exact hc
set_option maxRecDepth 100000 in
set_option maxHeartbeats 1000000 in
theorem lentTexts_some (l : List (List UInt8)) (ad : Addr) (cap : Nat) (hn : l.length + 8 ≤ 8796093022208) (w : World) (hrd : Rd w (some ad) (strV l)) :
  Calls Tryz.prog 12 #[.slice (some ad) l.length cap] w fun e w' => ∃ v, e = .returned v ∧ LentT w' w.heap.size v l ∧ Below w.heap.size w w' := by
 obtain ⟨i0, hi, hz0, hz1, hz2⟩ := info_parts Tryz.infoS
 have hown0 := World.ownsRow_nil w w.heap.size 9 1
 have HRD := hid_of hrd
 have HBD : Hid (∀ k, k < 8 → (l.length + k + 1) * 16 ≤ 140737488355328) := hid_of (fun k hk => Nat.mul_le_mul_right 16 (show l.length + k + 1 ≤ 8796093022208 by omega))
 have HML : Hid (∀ k, k < 8 → l.length + k + 1 ≤ maxLen) := hid_of (by intro k hk; unfold maxLen; omega)
 have hml : l.length ≤ maxLen := by unfold maxLen; omega
 have hbd : l.length * 16 ≤ 140737488355328 := Nat.mul_le_mul_right 16 (show l.length ≤ 8796093022208 by omega)
 have HL0 : Hid (strV l = strV (lentT l 0)) := hid_of (by simp [lentT])
 clear hrd hn
 go_enter Tryz.func12, Tryz.ntmps12
 go_wp2_with (at_builtin; refine wpList_append_own _ rfl (.tmp 5) (.tmp 6) 23 rfl w.heap.size 9 i0 (.string ByteArray.empty) 1 16 Tryz.underlying23 hi hz0 hz1 hz2 rfl (by decide) _ _ _ rfl hown0 ad l.length cap (strV l) rfl ?d1 ?d0 ?d2 ?d3 ?d4 ?d5 ?_)
 case d1 => simp [strV]
 case d0 => exact rd_cells HRD.out
 case d2 => exact strV_one l
 case d3 => rw [Nat.zero_add]; exact hml
 case d4 => rw [Nat.zero_add]; exact hbd
 case d5 => omega
 intro v1 w1 hown1 hg1 hnil
 clear hnil
 have hb1 := below_grown (Below.refl w.heap.size w) (Nat.le_refl _) hown0 hg1
 have HO1 := hid_of hown1
 have HB1 := hid_of hb1
 clear hown1 hb1 hg1 hown0
 go_wp2_with fail
 go_loopw [3, 4] (fun v i wr => ∃ k : Nat, k ≤ 8 ∧ i = .int .i64 (k : Int) ∧ wr.ownsRow w.heap.size 9 1 v (l.length + k) (strV (lentT l k)) ∧ Below w.heap.size w wr)
  (fun _ i _ => 8 - (intOf i).toNat)
 case atStart => exact ⟨0, Nat.zero_le _, rfl, HL0.out ▸ HO1.out, HB1.out⟩
 case round =>
  clear HO1 HB1
  obtain ⟨k, hk, rfl, hownr, hbl⟩ := hrel
  have hsz := hbl.size
  have HO := hid_of hownr
  have HB := hid_of hbl
  by_cases hlt : k < 8
  ·clear hownr hbl
   go_wp2_with (at_builtin; refine wpList_append_own _ rfl (.tmp 12) (.tmp 13) 23 rfl w.heap.size 9 i0 (.string ByteArray.empty) 1 16 Tryz.underlying23 hi hz0 hz1 hz2 rfl (by decide) _ _ _ rfl (HO.out.alloc _) ⟨wr.heap.size, 0, none⟩ 1 1 [.string (str spareL)] rfl rfl (cell_one_new _ _ _) ?c2 ?c3 ?c4 ?c5 ?_)
   case c2 => intro u hu; simp at hu; subst hu; rfl
   case c3 => exact HML.out k hlt
   case c4 => exact HBD.out k hlt
   case c5 => simp; omega
   intro v6 w6 hown6 hg6 hnil
   clear hnil
   have hb6 := below_step HB.out hsz HO.out hg6
   rw [← lentT_succ] at hown6
   have K1 := hid_of hown6
   have K2 := hid_of hb6
   clear hown6 hg6 hb6
   go_wp2_with fail
   exact ⟨⟨k + 1, by omega, by go_num, K1.out, K2.out⟩, by simp [intOf]; omega⟩
  ·obtain rfl : k = 8 := by omega
   rcases hownr.2 with ⟨_, h0⟩ | ⟨g, c, cur, rfl, hg, _, hc, _⟩
   ·omega
   ·clear hownr hbl
    go_wp2_with fail
    go_ret
    exact ⟨_, rfl, ⟨g, c, rfl, hc, HO.out⟩, HB.out⟩
set_option maxRecDepth 100000 in
set_option maxHeartbeats 1000000 in
theorem lentTexts_none (w : World) :
  Calls Tryz.prog 12 #[.slice none 0 0] w fun e w' => ∃ v, e = .returned v ∧ LentT w' w.heap.size v [] ∧ Below w.heap.size w w' := by
 obtain ⟨i0, hi, hz0, hz1, hz2⟩ := info_parts Tryz.infoS
 have hown0 := World.ownsRow_nil w w.heap.size 9 1
 go_enter Tryz.func12, Tryz.ntmps12
 go_wp2_with (at_builtin; refine wpList_append_own_none rfl (.tmp 5) (.tmp 6) 23 rfl w.heap.size 9 i0 1 Tryz.underlying23 hi _ _ _ rfl hown0 rfl ?_)
 go_loopw [3, 4] (fun v i wr => ∃ k : Nat, k ≤ 8 ∧ i = .int .i64 (k : Int) ∧ wr.ownsRow w.heap.size 9 1 v k (strV (lentT [] k)) ∧ Below w.heap.size w wr)
  (fun _ i _ => 8 - (intOf i).toNat)
 case atStart => exact ⟨0, by omega, rfl, hown0, Below.refl _ _⟩
 case round =>
  clear hown0
  obtain ⟨k, hk, rfl, hownr, hbl⟩ := hrel
  have hsz := hbl.size
  have HO := hid_of hownr
  have HB := hid_of hbl
  by_cases hlt : k < 8
  ·clear hownr hbl
   go_wp2_with (at_builtin; refine wpList_append_own _ rfl (.tmp 12) (.tmp 13) 23 rfl w.heap.size 9 i0 (.string ByteArray.empty) 1 16 Tryz.underlying23 hi hz0 hz1 hz2 rfl (by decide) _ _ _ rfl (HO.out.alloc _) ⟨wr.heap.size, 0, none⟩ 1 1 [.string (str spareL)] rfl rfl (cell_one_new _ _ _) ?c2 ?c3 ?c4 ?c5 ?_)
   case c2 => intro u hu; simp at hu; subst hu; rfl
   case c3 => unfold maxLen; omega
   case c4 => omega
   case c5 => simp; omega
   intro v6 w6 hown6 hg6 hnil
   clear hnil
   have hb6 := below_step HB.out hsz HO.out hg6
   rw [← lentT_succ] at hown6
   have K1 := hid_of hown6
   have K2 := hid_of hb6
   clear hown6 hg6 hb6
   go_wp2_with fail
   exact ⟨⟨k + 1, by omega, by go_num, K1.out, K2.out⟩, by simp [intOf]; omega⟩
  ·obtain rfl : k = 8 := by omega
   rcases hownr.2 with ⟨_, h0⟩ | ⟨g, c, cur, rfl, hg, _, hc, _⟩
   ·omega
   ·clear hownr hbl
    go_wp2_with fail
    go_ret
    exact ⟨_, rfl, ⟨g, c, rfl, hc, HO.out⟩, HB.out⟩
theorem lentTexts_walk (l : List (List UInt8)) (a : Option Addr) (cap : Nat) (ha : a = none → cap = 0) (hn : l.length + 8 ≤ 8796093022208) (w : World) (hrd : Rd w a (strV l)) :
  Calls Tryz.prog 12 #[.slice a l.length cap] w fun e w' => ∃ v, e = .returned v ∧ LentT w' w.heap.size v l ∧ Below w.heap.size w w' := by
 cases a with
 | some ad => exact lentTexts_some l ad cap hn w hrd
 | none =>
  cases l with
  | nil => rw [ha rfl]; exact lentTexts_none w
  | cons f r =>
   obtain ⟨b, off, e, _⟩ := hrd 0 (.string (str f)) (by simp [strV])
   cases e
end Go.Proofs.YtonjphollmdicaaGreatDoor
namespace Go.Proofs.YtonjphollmdicaaGreatDoor
open Go.ChangeShapes Go.WideShapes Go.ChangeAt Go.RowKit
theorem lentT_at (l : List (List UInt8)) (i : Nat) (h : i < l.length + 8) : ∃ t : List UInt8, (strV (lentT l 8))[i]? = some (.string (str t)) ∧ (i < l.length → l[i]? = some t) ∧ (¬ i < l.length → t = spareL) := by
 have hl : (lentT l 8).length = l.length + 8 := by simp [lentT]
 refine ⟨(lentT l 8)[i]'(by omega), by rw [strV, List.getElem?_map, List.getElem?_eq_getElem (by omega)]; rfl, fun h' => ?_, fun h' => ?_⟩
 ·simp [lentT, h']
 ·unfold lentT
  rw [List.getElem_append_right (show l.length ≤ i from by omega)]
  exact List.getElem_replicate _
set_option maxRecDepth 100000 in
set_option maxHeartbeats 1000000 in
theorem wholeTexts_walk (l : List (List UInt8)) (a : Option Addr) (cap : Nat) (v : Value) (w0 w : World) (hn : l.length + 8 ≤ 8796093022208) (hrd : Rd w0 a (strV l)) (hb : Below w0.heap.size w0 w) (hl : LentT w w0.heap.size v l) :
  Calls Tryz.prog 16 #[v, .slice a l.length cap] w fun e w' => e = .returned (.bool true) ∧ w.grownBy w' v.ownBlock := by
 obtain ⟨g, c, rfl, hc, hown⟩ := hl
 have hsz := hb.size
 have hgb0 : w0.heap.size ≤ g := (hown.lt g (by simp [Value.ownBlock])).1
 have HRD := hid_of hrd
 have HO := hid_of hown
 have HB := hid_of hb
 have HAT := hid_of (fun i h => lentT_at l i h)
 clear hrd hown hb
 obtain ⟨n, hN⟩ : ∃ n, n = l.length := ⟨_, rfl⟩
 have HN := hid_of hN
 rw [← hN] at hn hc HO HAT ⊢
 clear hN
 go_enter Tryz.func16, Tryz.ntmps16
 go_wp2_with fail
 go_loopw [5, 7, 8] (fun ok i _ W => ∃ (k : Nat) (xs : List Value), k ≤ n + 8 ∧ ok = .bool true ∧ i = .int .i64 (k : Int) ∧ W.ownsRow w0.heap.size 9 1 (.slice (some ⟨g, 0, none⟩) (n + 8) c) (n + 8) xs ∧ Hid (∀ j, k ≤ j → xs[j]? = (strV (lentT l 8))[j]?) ∧ w.grownBy W (some g))
  (fun _ i _ _ => n + 8 - (intOf i).toNat)
 case atStart => exact ⟨0, _, by omega, rfl, rfl, HO.out, hid_of (fun _ _ => rfl), ⟨rfl, rfl, rfl, Nat.le_refl _, fun _ _ _ => rfl⟩⟩
 case round =>
  clear HO
  obtain ⟨k, xs, hk, rfl, rfl, hownr, HX, hgr⟩ := hrel
  have hbl : Below w0.heap.size w0 wr := HB.out.grown hgr hsz (by intro kk hkk; cases hkk; exact hgb0)
  have HGR := hid_of hgr
  clear hgr
  by_cases hlt : k < n + 8
  ·obtain ⟨t, ht1, ht2, ht3⟩ := HAT.out k hlt
   rw [← HX.out _ (Nat.le_refl _)] at ht1
   have hc1 : wr.cell? ⟨g, k, none⟩ = some (.string (str t)) := by rw [hownr.cellAt _ (by omega)]; exact ht1
   have hfz := hownr.frozenAt k
   have hst := (hownr.stored k (.string ⟨#[111, 118, 101, 114]⟩)).1
   have hgs := HGR.out.trans (grown_set wr ⟨g, k, none⟩ (.string ⟨#[111, 118, 101, 114]⟩))
   have hx2 : ∀ j, k + 1 ≤ j → (xs.set k (.string ⟨#[111, 118, 101, 114]⟩))[j]? = (strV (lentT l 8))[j]? := by
    intro j hj
    rw [List.getElem?_set_ne (by omega)]
    exact HX.out j (by omega)
   have K1 := hid_of hst
   have K2 := hid_of hx2
   have K3 := hid_of hgs
   have e1 : ((str t).toList == (str t).toList) = true := by simp
   by_cases hkn : k < n
   ·have htk := ht2 hkn
    obtain ⟨b0, off0, rfl, hl1⟩ := (HRD.out.later (Nat.le_refl _) hbl) k (.string (str t)) (by rw [strV, List.getElem?_map, htk]; rfl)
    clear ht1 ht2 ht3 htk hownr hbl hst hgs hx2 HGR HX
    go_wp2_with fail
    exact ⟨⟨k + 1, _, by omega, rfl, by go_num, K1.out, K2, K3.out⟩, by simp [intOf]; omega⟩
   ·have hte := ht3 hkn
    subst hte
    have e2 : ((str spareL).toList == [115, 112, 97, 114, 101]) = true := by rw [str_toList]; rfl
    clear ht1 ht2 ht3 hownr hbl hst hgs hx2 HGR HX
    go_wp2_with fail
    exact ⟨⟨k + 1, _, by omega, rfl, by go_num, K1.out, K2, K3.out⟩, by simp [intOf]; omega⟩
  ·obtain rfl : k = n + 8 := by omega
   clear hownr hbl
   go_wp2_with fail
   go_ret
   exact ⟨rfl, HGR.out⟩
end Go.Proofs.YtonjphollmdicaaGreatDoor
