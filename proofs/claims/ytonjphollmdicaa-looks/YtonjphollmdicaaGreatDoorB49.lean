import Derived.Test.YtonjphollmdicaaGreatDoorB38
import Derived.Test.YtonjphollmdicaaGreatDoorB43
import Derived.Test.YtonjphollmdicaaGreatDoorB48
namespace Go.Proofs.YtonjphollmdicaaGreatDoor
open Go.ChangeShapes Go.WideShapes Go.ChangeAt Go.RowKit

/-! what both sides answer, as plain lists -/
def outS : LeftL ⊕ Nat → List Nat | .inl p => p.states | .inr _ => []
def outF : LeftL ⊕ Nat → List Bool | .inl p => p.flags | .inr _ => []
def outL : LeftL ⊕ Nat → Nat | .inl p => p.lost | .inr _ => 0
def outE : LeftL ⊕ Nat → Nat | .inl p => p.extra | .inr _ => 0
def outN : LeftL ⊕ Nat → Nat | .inl _ => 0 | .inr n => n
theorem out_len (fs : List FileL) (vs : List (List UInt8)) : (outS (lookedL fs vs)).length ≤ 1000 ∧ (outF (lookedL fs vs)).length ≤ 1000 ∧ outL (lookedL fs vs) ≤ 1000 ∧ outE (lookedL fs vs) ≤ 1000 := by
  unfold lookedL
  cases handedL fs vs with
  | false => simp [outS, outF, outL, outE]
  | true =>
    simp only [if_true]
    cases hr : readL (findL vs) with
    | inr n => simp [outS, outF, outL, outE]
    | inl s =>
      obtain ⟨_, _, h1, h2, h3⟩ := readL_yes hr
      simp only [outS, outF, outL, outE, leftOf]
      have h4 := lostN_le fs s.size (dHashes s.files)
      have h5 := exN_le s.extra
      refine ⟨by simp; omega, by simp [flagsOf]; omega, by omega, by omega⟩
theorem look_out {fs : List FileL} {vs : List (List UInt8)} {w w' : World} {e : Ending} (h : LookRes (lookP fs vs) w e w') : Below w.heap.size w w' ∧ ∃ (sa pa : Option Addr) (sc pc : Nat),
    e = .returned (.tuple #[.agg #[.slice sa (outS (lookedL fs vs)).length sc, .slice pa (outF (lookedL fs vs)).length pc, .int .i64 (outL (lookedL fs vs) : Int), .int .i64 (outE (lookedL fs vs) : Int)], .int .i64 (outN (lookedL fs vs) : Int)]) ∧
    w'.ownsRow w.heap.size 3 1 (.slice sa (outS (lookedL fs vs)).length sc) (outS (lookedL fs vs)).length (natsI (outS (lookedL fs vs))) ∧ w'.ownsRow w.heap.size 4 1 (.slice pa (outF (lookedL fs vs)).length pc) (outF (lookedL fs vs)).length (boolsI (outF (lookedL fs vs))) := by
  obtain ⟨hb, h⟩ := h
  refine ⟨hb, ?_⟩
  rw [lookP_eq] at h
  cases hl : lookedL fs vs with
  | inr n =>
    rw [hl] at h
    exact ⟨none, none, 0, 0, h, World.ownsRow_nil _ _ _ _, World.ownsRow_nil _ _ _ _⟩
  | inl p =>
    rw [hl] at h
    obtain ⟨v, he, sv, pv, rfl, h1, h2⟩ := h
    obtain ⟨sa, sc, rfl, _⟩ := row_rd h1
    obtain ⟨pa, pc, rfl, _⟩ := row_rd h2
    exact ⟨sa, pa, sc, pc, he, h1, h2⟩
theorem left_out {fs : List FileL} {vs : List (List UInt8)} {w w' : World} {e : Ending} (h : LeftRes (lookedL fs vs) w e w') : Below w.heap.size w w' ∧ ∃ (z : Nat) (fa xa la sa pa : Option Addr) (fn fc xn xc ln lc sc pc : Nat),
    e = .returned (.tuple #[.agg #[.int .i64 (z : Int), .slice fa fn fc, .slice xa xn xc, .slice la ln lc, .slice sa (outS (lookedL fs vs)).length sc, .slice pa (outF (lookedL fs vs)).length pc, .int .i64 (outL (lookedL fs vs) : Int), .int .i64 (outE (lookedL fs vs) : Int)], .int .i64 (outN (lookedL fs vs) : Int)]) ∧
    w'.ownsRow w.heap.size 3 1 (.slice sa (outS (lookedL fs vs)).length sc) (outS (lookedL fs vs)).length (natsI (outS (lookedL fs vs))) ∧ w'.ownsRow w.heap.size 4 1 (.slice pa (outF (lookedL fs vs)).length pc) (outF (lookedL fs vs)).length (boolsI (outF (lookedL fs vs))) := by
  obtain ⟨hb, h⟩ := h
  refine ⟨hb, ?_⟩
  cases hl : lookedL fs vs with
  | inr n =>
    rw [hl] at h
    exact ⟨0, none, none, none, none, none, 0, 0, 0, 0, 0, 0, 0, 0, h, World.ownsRow_nil _ _ _ _, World.ownsRow_nil _ _ _ _⟩
  | inl p =>
    rw [hl] at h
    obtain ⟨v, he, fv, xv, svs, slv, stv, prv, rfl, h1, _, h3, h4, h5, h6⟩ := h
    obtain ⟨fa, fc, rfl, _⟩ := row_rd h1
    obtain ⟨xa, xc, rfl, _⟩ := row_rd h3
    obtain ⟨la, lc, rfl, _⟩ := row_rd h4
    obtain ⟨sa, sc, rfl, _⟩ := row_rd h5
    obtain ⟨pa, pc, rfl, _⟩ := row_rd h6
    exact ⟨p.set.size, fa, xa, la, sa, pa, _, fc, _, xc, _, lc, sc, pc, he, ownsRow_base (Nat.le_succ _) h5, ownsRow_base (Nat.le_succ _) h6⟩

theorem LentT.later {w w' : World} {base : Nat} {v : Value} {l : List (List UInt8)} (h : LentT w base v l) (hb : Below w.heap.size w w') : LentT w' base v l := by
  obtain ⟨g, c, hv, hc, ho⟩ := h
  exact ⟨g, c, hv, hc, ownsRow_later ho (Nat.le_refl _) hb⟩
theorem LentT.rd {w : World} {base : Nat} {v : Value} {l : List (List UInt8)} (h : LentT w base v l) : ∃ a c, v = .slice a l.length c ∧ Rd w a (strV l) := by
  obtain ⟨g, c, hv, hc, ho⟩ := h
  refine ⟨some ⟨g, 0, none⟩, c, hv, fun k u hk => ?_⟩
  have hkl : k < (strV l).length := (List.getElem?_eq_some_iff.1 hk).1
  have := ho.cells (g := g) rfl k u (by
    unfold lentT
    unfold strV at hk hkl ⊢
    rw [List.map_append, List.getElem?_append_left hkl]
    exact hk)
  have hadd : (⟨g, 0, none⟩ : Addr).add k = ⟨g, 0 + k, none⟩ := by unfold Addr.add; split <;> simp_all
  rw [hadd] at this
  exact ⟨g, 0, rfl, this⟩
theorem Lent.rd {w : World} {base : Nat} {v : Value} {fs : List FileL} (h : Lent w base v fs) : ∃ a c, v = .slice a fs.length c ∧ Rd w a (filesV fs) := by
  obtain ⟨g, c, hv, hc, ho⟩ := h
  refine ⟨some ⟨g, 0, none⟩, c, hv, fun k u hk => ?_⟩
  have hkl : k < (filesV fs).length := (List.getElem?_eq_some_iff.1 hk).1
  have := ho.cells (g := g) rfl k u (by
    unfold lentL
    rw [filesV_append, List.getElem?_append_left hkl]
    exact hk)
  have hadd : (⟨g, 0, none⟩ : Addr).add k = ⟨g, 0 + k, none⟩ := by unfold Addr.add; split <;> simp_all
  rw [hadd] at this
  exact ⟨g, 0, rfl, this⟩
theorem nats_ints (l : List Nat) : natsI l = (l.map fun n : Nat => (n : Int)).map (Value.int .i64) := by simp [natsI]

set_option linter.unusedSimpArgs false in
set_option maxRecDepth 100000 in
set_option maxHeartbeats 4000000 in
theorem looks_walk (fs0 fs : List FileL) (bx ex : Int) (vs : List (List UInt8)) (pk : List (List Int)) (sa fa va pa : Option Addr) (sc fc vc pc : Nat) (hfn : fs.length + 8 ≤ 4398046511104) (hfa : fa = none → fc = 0)
    (hvn : vs.length ≤ 8796093022200) (hvl : ∀ v ∈ vs, v.length ≤ 140737488355328) (hpl : ∀ ks ∈ pk, ks.length ≤ 17592186044416) (hpr : ∀ ks ∈ pk, ∀ c ∈ ks, -9223372036854775808 ≤ c ∧ c ≤ 9223372036854775807) (w : World) (hK : Kinds w) (hh0 : Handed w fs0 sa sc) (hh : Handed w fs fa fc) (hvr : Rd w va (strV vs)) (hpk : RdPk w pa pk) :
    Calls Tryz.prog 3 #[.agg #[.slice sa fs0.length sc, .int .i64 bx, .int .i64 ex, .slice fa fs.length fc, .slice va vs.length vc, .slice pa pk.length pc]] w fun e w' => e = .returned (.bool true) ∧ Below w.heap.size w w' := by
  obtain ⟨L, hL⟩ : ∃ L, L = laidL (resL fs0 bx ex).1 vs pk := ⟨_, rfl⟩
  have hLn : L.length = vs.length := by rw [hL, laidL_len]
  have hLd := hid_of (fun W (hW : Below w.heap.size w W) => laid_walk fs0 bx ex vs pk sa va pa sc vc pc (.slice fa fs.length fc) hvn hvl hpl hpr W (hh0.later hW) (hvr.later (Nat.le_refl _) hW) (hpk.later hW))
  rw [← hL] at hLd
  have hLe := hid_of (fun W (hW : Below w.heap.size w W) => lentFiles_walk fs fa fc hfa hfn W (hh.rd.later (Nat.le_refl _) hW))
  have hLT := hid_of (fun W a c (ha : a = none → c = 0) (hr : Rd W a (strV L)) => lentTexts_walk L a c ha (by omega) W hr)
  have hLK := hid_of (fun W a b ca cb (hK : Kinds W) (h1 : Rd W a (filesV fs)) (h2 : Rd W b (strV L)) => Look_walk fs L a b ca cb W hK h1 h2)
  have hRL := hid_of (fun W b cb (hW : Below w.heap.size w W) (h2 : Rd W b (strV L)) => rLooked_walk fs L fa b fc cb (by omega) (by omega) W (hh.rd.later (Nat.le_refl _) hW) h2)
  have hWF := hid_of (fun v w0 W (h0 : Below w.heap.size w w0) (h1 : Below w0.heap.size w0 W) (h2 : Lent W w0.heap.size v fs) => wholeFiles_walk fs fa fc v w0 W hfn hh.short (hh.rd.later (Nat.le_refl _) h0) h1 h2)
  have hWT := hid_of (fun v a c w0 W (h0 : Rd w0 a (strV L)) (h1 : Below w0.heap.size w0 W) (h2 : LentT W w0.heap.size v L) => wholeTexts_walk L a c v w0 W (by omega) h0 h1 h2)
  obtain ⟨ol1, ol2, ol3, ol4⟩ := out_len fs L
  have hLO := hid_of (fun w w' e (h : LookRes (lookP fs L) w e w') => look_out h)
  have hRO := hid_of (fun w w' e (h : LeftRes (lookedL fs L) w e w') => left_out h)
  obtain ⟨S, hS⟩ : ∃ x, x = outS (lookedL fs L) := ⟨_, rfl⟩
  obtain ⟨F, hF⟩ : ∃ x, x = outF (lookedL fs L) := ⟨_, rfl⟩
  obtain ⟨lo, hlo⟩ : ∃ x, x = outL (lookedL fs L) := ⟨_, rfl⟩
  obtain ⟨xe, hxe⟩ : ∃ x, x = outE (lookedL fs L) := ⟨_, rfl⟩
  obtain ⟨en, hen⟩ : ∃ x, x = outN (lookedL fs L) := ⟨_, rfl⟩
  rw [← hS, ← hF, ← hlo, ← hxe, ← hen] at hLO hRO
  rw [← hS] at ol1
  rw [← hF] at ol2
  rw [← hlo] at ol3
  rw [← hxe] at ol4
  have HK := hid_of hK
  have h0 := hK.lt
  obtain ⟨n0, hn0⟩ : ∃ x, x = fs0.length := ⟨_, rfl⟩
  obtain ⟨nf, hnf⟩ : ∃ x, x = fs.length := ⟨_, rfl⟩
  obtain ⟨nv, hnv⟩ : ∃ x, x = vs.length := ⟨_, rfl⟩
  obtain ⟨np, hnp⟩ : ∃ x, x = pk.length := ⟨_, rfl⟩
  obtain ⟨nS, hnS⟩ : ∃ x, x = S.length := ⟨_, rfl⟩
  obtain ⟨nF, hnF⟩ : ∃ x, x = F.length := ⟨_, rfl⟩
  have HNS := hid_of hnS
  have HNF := hid_of hnF
  have HNFS := hid_of hnf
  have HLN := hid_of (hLn.trans hnv.symm)
  rw [← hn0, ← hnf, ← hnv, ← hnp] at hLd ⊢
  rw [← hnf] at hLe hLK hRL hWF
  rw [hLn, ← hnv] at hLT hLK hRL hWT
  rw [← hnS, ← hnF] at hLO hRO
  rw [← hnS] at ol1
  rw [← hnF] at ol2
  clear hK hh0 hh hvr hpk hvl hpl hpr hL hLn hS hF hlo hxe hen hn0 hnf hnv hnp hnS hnF hfn hfa hvn
  go_enter Tryz.func3, Tryz.ntmps3
  go_wp2_with fail
  refine (begun_walk _).mono ?_
  rintro e w1 ⟨rfl, hb1⟩
  have hpb1 := (Blk.new w #[.slice sa n0 sc, .int .i64 bx, .int .i64 ex, .slice fa nf fc, .slice va nv vc, .slice pa np pc] 26).touch (Touch.of_below hb1 []) (by simp)
  have hbw1 : Below w.heap.size w w1 := Below.trans ((Below.refl _ _).alloc (Nat.le_refl _) _) (hb1.mono (by simp))
  have hsz1 : w.heap.size < w1.heap.size := hpb1.lt (by simp)
  have p0 := (hpb1 0 _ rfl).1
  have p1 := (hpb1 1 _ rfl).1
  have p2 := (hpb1 2 _ rfl).1
  have p3 := (hpb1 3 _ rfl).1
  have p4 := (hpb1 4 _ rfl).1
  have p5 := (hpb1 5 _ rfl).1
  have HPB1 := hid_of hpb1
  have HBW1 := hid_of hbw1
  clear hpb1 hbw1 hb1
  go_wp2_with fail
  refine (hLd.out w1 HBW1.out).mono ?_
  rintro e w2 ⟨v2, rfl, hr2, hb2⟩
  have hal : ∃ al cl, v2 = .slice al nv cl ∧ (al = none → cl = 0) := by
    rcases hr2.2 with ⟨h1, h2⟩ | ⟨g, c, cur, h1, _⟩
    · exact ⟨none, 0, by rw [h1, h2], fun _ => rfl⟩
    · exact ⟨_, _, h1, fun h => by cases h⟩
  obtain ⟨al, cl, rfl, hal⟩ := hal
  obtain ⟨al', cl', ee, hrd2⟩ := row_rd hr2
  cases ee
  have hpb2 := HPB1.out.touch (Touch.of_below hb2 []) (by simp)
  have hbw2 : Below w.heap.size w w2 := Below.next HBW1.out hb2
  have hsz2 : w.heap.size < w2.heap.size := Nat.lt_of_lt_of_le hsz1 hb2.size
  have p3 := (hpb2 3 _ rfl).1
  have HPB2 := hid_of hpb2
  have HBW2 := hid_of hbw2
  have HRD2 := hid_of hrd2
  have HAL := hid_of hal
  clear hpb2 hbw2 hb2 hr2 hrd2 hal HPB1 HBW1 p0 p1 p2 p4 p5 hLd
  go_wp2_with fail
  refine (hLe.out w2 HBW2.out).mono ?_
  rintro e w3 ⟨g, rfl, hl3, hb3⟩
  have HBW3 := hid_of (Below.next HBW2.out hb3)
  have HB23 := hid_of hb3
  have HPB3 := hid_of (HPB2.out.touch (Touch.of_below hb3 []) (by simp))
  have HRD3 := hid_of (HRD2.out.later (Nat.le_refl _) hb3)
  have HL3 := hid_of hl3
  clear hl3 hb3 HPB2 hLe
  have hgl : ∀ k, g.ownBlock = some k → w2.heap.size ≤ k ∧ k < w3.heap.size := fun k hk => by
    obtain ⟨gg, c, rfl, _, ho⟩ := HL3.out
    exact ho.lt k hk
  have HGL := hid_of hgl
  clear hgl
  obtain ⟨ga, gc, hgv, hgr⟩ := HL3.out.rd
  rw [← HNFS.out] at hgv
  subst hgv
  go_wp2_with fail
  refine (hLT.out w3 al cl HAL.out HRD3.out).mono ?_
  rintro e w4 ⟨h, rfl, hl4, hb4⟩
  have hhl : ∀ k, h.ownBlock = some k → w3.heap.size ≤ k ∧ k < w4.heap.size := fun k hk => by
    obtain ⟨gg, c, rfl, _, ho⟩ := hl4
    exact ho.lt k hk
  have HHL := hid_of hhl
  clear hhl
  obtain ⟨ha, hc, hhv, hhr⟩ := hl4.rd
  rw [HLN.out] at hhv
  subst hhv
  have HBW4 := hid_of (Below.next HBW3.out hb4)
  have HB24 := hid_of (Below.next HB23.out hb4)
  have HB34 := hid_of hb4
  have HPB4 := hid_of (HPB3.out.touch (Touch.of_below hb4 []) (by simp))
  have HRD4 := hid_of (HRD3.out.later (Nat.le_refl _) hb4)
  have HL34 := hid_of (HL3.out.later hb4)
  have HL4 := hid_of hl4
  have HGR := hid_of (hgr.later (Nat.le_refl _) hb4)
  have HHR := hid_of hhr
  clear hl4 hb4 hgr hhr HPB3 HL3 hLT HAL
  go_wp2_with fail
  refine (hLK.out w4 ga ha gc hc (HK.out.later HBW4.out h0) HGR.out HHR.out).mono ?_
  rintro e w5 hres5
  obtain ⟨hb5, s5a, p5a, s5c, p5c, rfl, hs5, hp5⟩ := hLO.out _ _ _ hres5
  have HBW5 := hid_of (Below.next HBW4.out hb5)
  have HB25 := hid_of (Below.next HB24.out hb5)
  have HPB5 := hid_of (HPB4.out.touch (Touch.of_below hb5 []) (by simp))
  have HRD5 := hid_of (HRD4.out.later (Nat.le_refl _) hb5)
  have HL5 := hid_of (HL34.out.later hb5)
  have HT5 := hid_of (HL4.out.later hb5)
  have HS5 := hid_of hs5
  have HP5 := hid_of hp5
  have p3 := (HPB5.out 3 _ rfl).1
  have hsz5 : w.heap.size < w5.heap.size := HPB5.out.lt (by simp)
  have hsz45 : w4.heap.size ≤ w5.heap.size := hb5.size
  have hsz34 : w3.heap.size ≤ w4.heap.size := HB34.out.size
  have hsz23 : w2.heap.size ≤ w3.heap.size := HB23.out.size
  clear hres5 hb5 hs5 hp5 HPB4 HRD4 HL34 HL4 HGR HHR hLK HBW4 HB24 HB34 hLO
  go_wp2_with fail
  obtain ⟨W5, hW5⟩ : ∃ X, X = w5.alloc (.cells #[.slice s5a nS s5c, .slice p5a nF p5c, .int .i64 (lo : Int), .int .i64 (xe : Int)] 34) := ⟨_, rfl⟩
  rw [← hW5]
  have hbA : Below w5.heap.size w5 W5 := by rw [hW5]; exact (Below.refl _ _).alloc (Nat.le_refl _) _
  have hRB : Blk W5 w5.heap.size [.slice s5a nS s5c, .slice p5a nF p5c, .int .i64 (lo : Int), .int .i64 (xe : Int)] := by rw [hW5]; exact Blk.new w5 _ _
  refine (hRL.out W5 al cl (Below.next HBW5.out hbA) (HRD5.out.later (Nat.le_refl _) hbA)).mono ?_
  rintro e w6 hres6
  obtain ⟨hb6, z6, fa6, xa6, la6, s6a, p6a, fn6, fc6, xn6, xc6, ln6, lc6, s6c, p6c, rfl, hs6, hp6⟩ := hRO.out _ _ _ hres6
  have hb56 : Below w5.heap.size w5 w6 := Below.next hbA hb6
  have HBW6 := hid_of (Below.next HBW5.out hb56)
  have HB26 := hid_of (Below.next HB25.out hb56)
  have HPB6 := hid_of (HPB5.out.touch (Touch.of_below hb56 []) (by simp))
  have HRB6 := hid_of (hRB.touch (Touch.of_below hb6 []) (by simp))
  have HL6 := hid_of (HL5.out.later hb56)
  have HT6 := hid_of (HT5.out.later hb56)
  have HS56 := hid_of (ownsRow_later HS5.out (Nat.le_refl _) hb56)
  have HP56 := hid_of (ownsRow_later HP5.out (Nat.le_refl _) hb56)
  have HS6 := hid_of hs6
  have HP6 := hid_of hp6
  have p3 := (HPB6.out 3 _ rfl).1
  have hsz6 : w.heap.size < w6.heap.size := HPB6.out.lt (by simp)
  have hsz56 : w5.heap.size < w6.heap.size := HRB6.out.lt (by simp)
  have hszW5 : w5.heap.size ≤ W5.heap.size := hbA.size
  clear hW5 hres6 hb6 hs6 hp6 hRB hbA hb56 HPB5 HRD5 HL5 HT5 HS5 HP5 HBW5 HB25 hRO hRL
  go_wp2_with fail
  obtain ⟨W6, hW6⟩ : ∃ X, X = w6.alloc (.cells #[.int .i64 (z6 : Int), .slice fa6 fn6 fc6, .slice xa6 xn6 xc6, .slice la6 ln6 lc6, .slice s6a nS s6c, .slice p6a nF p6c, .int .i64 (lo : Int), .int .i64 (xe : Int)] 42) := ⟨_, rfl⟩
  rw [← hW6]
  have hbB : Below w6.heap.size w6 W6 := by rw [hW6]; exact (Below.refl _ _).alloc (Nat.le_refl _) _
  have hLB : Blk W6 w6.heap.size [.int .i64 (z6 : Int), .slice fa6 fn6 fc6, .slice xa6 xn6 xc6, .slice la6 ln6 lc6, .slice s6a nS s6c, .slice p6a nF p6c, .int .i64 (lo : Int), .int .i64 (xe : Int)] := by rw [hW6]; exact Blk.new w6 _ _
  have hL6' := HL6.out.later hbB
  refine (hWF.out _ w2 W6 HBW2.out (Below.next HB26.out hbB) hL6').mono ?_
  rintro e w7 ⟨rfl, hg7⟩
  have t7 : Touch (blkL (.slice ga nf gc)) W6 w7 := Touch.of_row hg7
  have m7 : ∀ x ∈ blkL (.slice ga nf gc), w2.heap.size ≤ x ∧ x < w3.heap.size := fun x hx => HGL.out x (blkL_mem.1 hx)
  have hszW6 : w6.heap.size < W6.heap.size := hLB.lt (by simp)
  have HBW7 := hid_of ((Below.next HBW6.out hbB).trans (t7.below (by omega) (fun x hx => by have := m7 x hx; omega)))
  have hb27 : Below w2.heap.size w2 w7 := (Below.next HB26.out hbB).trans (t7.below (by omega) (fun x hx => (m7 x hx).1))
  have HPB7 := hid_of ((HPB6.out.touch (Touch.of_below hbB []) (by simp)).touch t7 (fun hm => by have := m7 _ hm; omega))
  have HRB7 := hid_of ((HRB6.out.touch (Touch.of_below hbB []) (by simp)).touch t7 (fun hm => by have := m7 _ hm; omega))
  have HLB7 := hid_of (hLB.touch t7 (fun hm => by have := m7 _ hm; omega))
  have HS57 := hid_of (owns_touch (ownsRow_later HS56.out (Nat.le_refl _) hbB) t7 (fun x hx => by have := m7 x hx; omega))
  have HP57 := hid_of (owns_touch (ownsRow_later HP56.out (Nat.le_refl _) hbB) t7 (fun x hx => by have := m7 x hx; omega))
  have HS67 := hid_of (owns_touch (ownsRow_later HS6.out (Nat.le_refl _) hbB) t7 (fun x hx => by have := m7 x hx; omega))
  have HP67 := hid_of (owns_touch (ownsRow_later HP6.out (Nat.le_refl _) hbB) t7 (fun x hx => by have := m7 x hx; omega))
  have hT7 : LentT w7 w2.heap.size (.slice ha nv hc) L := by
    obtain ⟨gg, c, hv, hcc, ho⟩ := HT6.out.later hbB
    exact ⟨gg, c, hv, hcc, ownsRow_base hsz23 (owns_touch ho t7 (fun x hx => (m7 x hx).2))⟩
  have hsz7 : W6.heap.size ≤ w7.heap.size := t7.size
  have HWT := hid_of (hWT.out (.slice ha nv hc) al cl w2 w7 HRD2.out hb27 hT7)
  clear hW6 hg7 t7 m7 hbB hLB hL6' hb27 hT7 HPB6 HRB6 HL6 HT6 HS56 HP56 HS6 HP6 HBW6 HB26 hWF hWT HGL
  go_wp2_with fail
  refine HWT.out.mono ?_
  rintro e w8 ⟨rfl, hg8⟩
  have t8 : Touch (blkL (.slice ha nv hc)) w7 w8 := Touch.of_row hg8
  have m8 : ∀ x ∈ blkL (.slice ha nv hc), w3.heap.size ≤ x ∧ x < w4.heap.size := fun x hx => HHL.out x (blkL_mem.1 hx)
  have HBW8 := hid_of (HBW7.out.trans (t8.below (by omega) (fun x hx => by have := m8 x hx; omega)))
  have hrb8 := HRB7.out.touch t8 (fun hm => by have := m8 _ hm; omega)
  have hlb8 := HLB7.out.touch t8 (fun hm => by have := m8 _ hm; omega)
  have hs58 := owns_touch HS57.out t8 (fun x hx => by have := m8 x hx; omega)
  have hp58 := owns_touch HP57.out t8 (fun x hx => by have := m8 x hx; omega)
  have hs68 := owns_touch HS67.out t8 (fun x hx => by have := m8 x hx; omega)
  have hp68 := owns_touch HP67.out t8 (fun x hx => by have := m8 x hx; omega)
  have hsz8 : w7.heap.size ≤ w8.heap.size := t8.size
  have r0 := (hrb8 0 _ rfl).1
  have l4 := (hlb8 4 _ rfl).1
  obtain ⟨_, _, e1, hd1⟩ := row_rd hs58
  cases e1
  obtain ⟨_, _, e2, hd2⟩ := row_rd hs68
  cases e2
  rw [nats_ints] at hd1 hd2
  have hSN := lsameNumbers_walk (S.map fun n : Nat => (n : Int)) s5a s6a s5c s6c (by rw [List.length_map, ← HNS.out]; omega) w8 hd1 hd2
  rw [List.length_map, ← HNS.out] at hSN
  have HSN := hid_of hSN
  have HRB8 := hid_of hrb8
  have HLB8 := hid_of hlb8
  have HP58 := hid_of hp58
  have HP68 := hid_of hp68
  clear hSN hrb8 hlb8 hs58 hp58 hs68 hp68 hd1 hd2 t8 m8 hg8 HS57 HP57 HS67 HP67 HRB7 HLB7 HPB7 HBW7 HWT HHL
  go_wp2_with fail
  refine HSN.out.mono ?_
  rintro e w9 ⟨rfl, hb9⟩
  have HBW9 := hid_of (Below.next HBW8.out hb9)
  have hrb9 := HRB8.out.touch (Touch.of_below hb9 []) (by simp)
  have hlb9 := HLB8.out.touch (Touch.of_below hb9 []) (by simp)
  have r1 := (hrb9 1 _ rfl).1
  have l5 := (hlb9 5 _ rfl).1
  obtain ⟨_, _, e1, hd1⟩ := row_rd (ownsRow_later HP58.out (Nat.le_refl _) hb9)
  cases e1
  obtain ⟨_, _, e2, hd2⟩ := row_rd (ownsRow_later HP68.out (Nat.le_refl _) hb9)
  cases e2
  have hSF := lsameFlags_walk F p5a p6a p5c p6c (by rw [← HNF.out]; omega) w9 hd1 hd2
  rw [← HNF.out] at hSF
  have HSF := hid_of hSF
  have HRB9 := hid_of hrb9
  have HLB9 := hid_of hlb9
  clear hSF hrb9 hlb9 hd1 hd2 hb9 HSN HRB8 HLB8 HP58 HP68 HBW8 r0 l4
  go_wp2_with fail
  refine HSF.out.mono ?_
  rintro e wA ⟨rfl, hbA⟩
  have HBWA := hid_of (Below.next HBW9.out hbA)
  have hrbA := HRB9.out.touch (Touch.of_below hbA []) (by simp)
  have hlbA := HLB9.out.touch (Touch.of_below hbA []) (by simp)
  have r2 := (hrbA 2 _ rfl).1
  have r3 := (hrbA 3 _ rfl).1
  have l6 := (hlbA 6 _ rfl).1
  have l7 := (hlbA 7 _ rfl).1
  clear hrbA hlbA hbA HSF HRB9 HLB9 HBW9 r1 l5
  go_wp2_with fail
  refine (lnum_walk _ wA).mono ?_
  rintro e wB ⟨rfl, hwB⟩
  have hwB := hwB.symm
  subst hwB
  go_wp2_with fail
  refine (lnum_walk _ wA).mono ?_
  rintro e wB ⟨rfl, hwB⟩
  have hwB := hwB.symm
  subst hwB
  go_wp2_with fail
  go_ret
  exact ⟨rfl, HBWA.out⟩
end Go.Proofs.YtonjphollmdicaaGreatDoor
