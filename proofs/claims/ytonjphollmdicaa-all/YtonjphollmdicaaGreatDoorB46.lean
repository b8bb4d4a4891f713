import Derived.Test.YtonjphollmdicaaGreatDoorB05
import Derived.Test.YtonjphollmdicaaGreatDoorB21
import Derived.Test.YtonjphollmdicaaGreatDoorB38
import Derived.Test.YtonjphollmdicaaGreatDoorB45
import Derived.Test.YtonjphollmdicaaGreatDoorRows
import Derived.WalkKit
import Derived.ProofKit
import Derived.OpenShut
import Derived.ShutString
import Derived.ChangeOld
import Derived.Below
import Derived.LaidMore
import Derived.Stop.Joined
import Derived.Deep.SlicePairs
import Derived.Lib.SmallJoins
import Derived.Lib.LaidTab
set_option maxRecDepth 100000
set_option maxHeartbeats 4000000
set_option linter.unusedSimpArgs false
namespace Go.Proofs.YtonjphollmdicaaGreatDoor
open Go.ChangeShapes Go.WideShapes Go.ChangeAt Go.RowKit
theorem ME {base B : Nat} {rs : Nat → Value} {T : Nat → List Value} {M : Nat → List Int} (a b : Nat) (fs0 fs : List Ak) (bx ex : Int) (vs : List (List UInt8)) (pk : List (List Int)) (sa fa va pa : Option Addr) (sc fc vc pc : Nat) (hfn : fs.length + 8 ≤ 4398046511104) (hfa : fa = none → fc = 0)
  (hvn : vs.length ≤ 8796093022200) (hvl : ∀ v ∈ vs, v.length ≤ 140737488355328) (hpl : ∀ ks ∈ pk, ks.length ≤ 17592186044416) (hpr : ∀ ks ∈ pk, ∀ c ∈ ks, -9223372036854775808 ≤ c ∧ c ≤ 9223372036854775807) (w : World) (hbk : BookI w base B (· < w.heap.size) rs T M) (hMs : ∀ j, j < 4 → (M j).length + 4 ≤ 4398046511104) (hK : Kinds w) (hh0 : Handed w fs0 sa sc) (hh : Handed w fs fa fc) (hvr : Rd w va (AM vs)) (hpk : RdPk w pa pk) :
  Calls Tryz.prog 34 #[.pointer (some ⟨B, 0, none⟩), .agg #[.int .i64 4, .int .u16 (a : Int), .int .u16 (b : Int), .slice sa fs0.length sc, .int .i64 bx, .int .i64 ex, .slice fa fs.length fc, .slice va vs.length vc, .slice pa pk.length pc]] w (Es w base B M) := by
 obtain ⟨L, hL⟩ : ∃ L, L = GB (IY fs0 bx ex).1 vs pk := ⟨_, rfl⟩
 have hLn : L.length = vs.length := by rw [hL, Gj]
 have hLd := Aa (fun W (hW : Below w.heap.size w W) => LM fs0 bx ex vs pk sa va pa sc vc pc (.slice fa fs.length fc) hvn hvl hpl hpr W (hh0.later hW) (hvr.later (Nat.le_refl _) hW) (hpk.later hW))
 rw [← hL] at hLd
 have hLe := Aa (fun W (hW : Below w.heap.size w W) => Ep fs fa fc hfa hfn W (hh.rd.later (Nat.le_refl _) hW))
 have hLT := Aa (fun W a c (ha : a = none → c = 0) (hr : Rd W a (AM L)) => FQ L a c ha (by omega) W hr)
 have hLK0 := fun W a b ca cb (hK : Kinds W) (h1 : Rd W a (As fs)) (h2 : Rd W b (AM L)) => Mg fs L a b ca cb W hK h1 h2
 simp only [OA] at hLK0
 have hLK := Aa hLK0
 have hRL := Aa (fun W b cb (hW : Below w.heap.size w W) (h2 : Rd W b (AM L)) => KL fs L fa b fc cb (by omega) (by omega) W (hh.rd.later (Nat.le_refl _) hW) h2)
 have hWF := Aa (fun v w0 W (h0 : Below w.heap.size w w0) (h1 : Below w0.heap.size w0 W) (h2 : Lent W w0.heap.size v fs) => D7 fs fa fc v w0 W hfn hh.short (hh.rd.later (Nat.le_refl _) h0) h1 h2)
 have hWT := Aa (fun v a c w0 W (h0 : Rd w0 a (AM L)) (h1 : Below w0.heap.size w0 W) (h2 : LentT W w0.heap.size v L) => Fp L a c v w0 W (by omega) h0 h1 h2)
 have ol1 := Rm fs L
 have hLO := Aa (fun w w' e (h : Gf (C9 fs L) w e w') => OE h)
 obtain ⟨S, hS⟩ : ∃ x, x = Qz (C9 fs L) := ⟨_, rfl⟩
 obtain ⟨en, hen⟩ : ∃ x, x = SJ (C9 fs L) := ⟨_, rfl⟩
 rw [← hS, ← hen] at hLO
 rw [← hS] at ol1
 have HK := Aa hK
 have HBK := Aa (fun W (hW : Below w.heap.size w W) => hbk.later (fun _ hk => hk) hW)
 have hbs := hbk.bas
 have hM1 := hMs 1 (by omega)
 have HLK := Aa (fun W (hW : Below w.heap.size w W) => Du (hbk.later (fun _ hk => hk) hW) (fun j hj => by have := hMs j hj; omega))
 have h0 := hK.lt
 obtain ⟨n0, hn0⟩ : ∃ x, x = fs0.length := ⟨_, rfl⟩
 obtain ⟨nf, hnf⟩ : ∃ x, x = fs.length := ⟨_, rfl⟩
 obtain ⟨nv, hnv⟩ : ∃ x, x = vs.length := ⟨_, rfl⟩
 obtain ⟨np, hnp⟩ : ∃ x, x = pk.length := ⟨_, rfl⟩
 obtain ⟨nS, hnS⟩ : ∃ x, x = S.length := ⟨_, rfl⟩
 have HNS := Aa hnS
 have HNFS := Aa hnf
 have HLN := Aa (hLn.trans hnv.symm)
 rw [← hn0, ← hnf, ← hnv, ← hnp] at hLd ⊢
 rw [← hnf] at hLe hLK hRL hWF
 rw [hLn, ← hnv] at hLT hLK hRL hWT
 rw [← hnS] at hLO
 rw [← hnS] at ol1
 clear hK hh0 hh hvr hpk hvl hpl hpr hL hLn hS hen hn0 hnf hnv hnp hnS hfn hfa hvn hLK0 hbk hMs
 go_enter Tryz.func34, Tryz.ntmps34
 go_wp2_with fail
 obtain ⟨w1, hw1⟩ : ∃ X, X = w.alloc (.cells #[.int .i64 4, .int .u16 (a : Int), .int .u16 (b : Int), .slice sa n0 sc, .int .i64 bx, .int .i64 ex, .slice fa nf fc, .slice va nv vc, .slice pa np pc] 82) := ⟨_, rfl⟩
 rw [← hw1]
 have hbw1 : Below w.heap.size w w1 := by rw [hw1]; exact (Below.refl _ _).alloc (Nat.le_refl _) _
 have hpb1 : Blk w1 w.heap.size [.int .i64 4, .int .u16 (a : Int), .int .u16 (b : Int), .slice sa n0 sc, .int .i64 bx, .int .i64 ex, .slice fa nf fc, .slice va nv vc, .slice pa np pc] := by rw [hw1]; exact Blk.new w _ _
 have hsz1 : w.heap.size < w1.heap.size := hpb1.lt (by simp)
 have HPB1 := Aa hpb1
 have HBW1 := Aa hbw1
 clear hpb1 hbw1 hw1
 refine (hLd.out w1 HBW1.out).mono ?_
 rintro e w2 ⟨v2, rfl, hr2, hb2⟩
 have hal : ∃ al cl, v2 = .slice al nv cl ∧ (al = none → cl = 0) := by
  rcases hr2.2 with ⟨h1, h2⟩ | ⟨g, c, cur, h1, _⟩
  ·exact ⟨none, 0, by rw [h1, h2], fun _ => rfl⟩
  ·exact ⟨_, _, h1, fun h => by cases h⟩
 obtain ⟨al, cl, rfl, hal⟩ := hal
 obtain ⟨al', cl', ee, hrd2⟩ := AE hr2
 cases ee
 have hpb2 := HPB1.out.touch (Touch.of_below hb2 []) (by simp)
 have hbw2 : Below w.heap.size w w2 := Below.next HBW1.out hb2
 have hsz2 : w.heap.size < w2.heap.size := Nat.lt_of_lt_of_le hsz1 hb2.size
 have p3 := (hpb2 6 _ rfl).1
 have HPB2 := Aa hpb2
 have HBW2 := Aa hbw2
 have HRD2 := Aa hrd2
 have HAL := Aa hal
 clear hpb2 hbw2 hb2 hr2 hrd2 hal HPB1 HBW1 hLd
 go_wp2_with fail
 refine (hLe.out w2 HBW2.out).mono ?_
 rintro e w3 ⟨g, rfl, hl3, hb3⟩
 have HBW3 := Aa (Below.next HBW2.out hb3)
 have HB23 := Aa hb3
 have HPB3 := Aa (HPB2.out.touch (Touch.of_below hb3 []) (by simp))
 have HRD3 := Aa (HRD2.out.later (Nat.le_refl _) hb3)
 have HL3 := Aa hl3
 clear hl3 hb3 HPB2 hLe
 have hgl : ∀ k, g.ownBlock = some k → w2.heap.size ≤ k ∧ k < w3.heap.size := fun k hk => by
  obtain ⟨gg, c, rfl, _, ho⟩ := HL3.out
  exact ho.lt k hk
 have HGL := Aa hgl
 clear hgl
 obtain ⟨ga, gc, hgv, hgr⟩ := HL3.out.rd
 rw [← HNFS.out] at hgv
 subst hgv
 go_wp2_with fail
 refine (hLT.out w3 al cl HAL.out HRD3.out).mono ?_
 rintro e w4 ⟨h, rfl, hl4, hb4⟩
 have hhl : ∀ k, h.ownBlock = some k → w3.heap.size ≤ k ∧ k < w4.heap.size := fun k hk => by
  obtain ⟨gg, c, rfl, _, ho⟩ := hl4
  exact ho.lt k hk
 have HHL := Aa hhl
 clear hhl
 obtain ⟨ha, hc, hhv, hhr⟩ := hl4.rd
 rw [HLN.out] at hhv
 subst hhv
 have HBW4 := Aa (Below.next HBW3.out hb4)
 have HB24 := Aa (Below.next HB23.out hb4)
 have HB34 := Aa hb4
 have HPB4 := Aa (HPB3.out.touch (Touch.of_below hb4 []) (by simp))
 have HRD4 := Aa (HRD3.out.later (Nat.le_refl _) hb4)
 have HL34 := Aa (HL3.out.later hb4)
 have HL4 := Aa hl4
 have HGR := Aa (hgr.later (Nat.le_refl _) hb4)
 have HHR := Aa hhr
 clear hl4 hb4 hgr hhr HPB3 HL3 hLT HAL
 go_wp2_with fail
 refine (hLK.out w4 ga ha gc hc (HK.out.later HBW4.out h0) HGR.out HHR.out).mono ?_
 rintro e w5 hres5
 obtain ⟨hb5, s5a, s5c, rfl, hs5⟩ := hLO.out _ _ _ hres5
 have HBW5 := Aa (Below.next HBW4.out hb5)
 have HB25 := Aa (Below.next HB24.out hb5)
 have HPB5 := Aa (HPB4.out.touch (Touch.of_below hb5 []) (by simp))
 have HRD5 := Aa (HRD4.out.later (Nat.le_refl _) hb5)
 have HL5 := Aa (HL34.out.later hb5)
 have HT5 := Aa (HL4.out.later hb5)
 have HS5 := Aa hs5
 have p3 := (HPB5.out 6 _ rfl).1
 have hsz5 : w.heap.size < w5.heap.size := HPB5.out.lt (by simp)
 have hsz45 : w4.heap.size ≤ w5.heap.size := hb5.size
 have hsz34 : w3.heap.size ≤ w4.heap.size := HB34.out.size
 have hsz23 : w2.heap.size ≤ w3.heap.size := HB23.out.size
 clear hres5 hb5 hs5 HPB4 HRD4 HL34 HL4 HGR HHR hLK HBW4 HB24 HB34
 go_wp2_with fail
 refine (hRL.out w5 al cl HBW5.out HRD5.out).mono ?_
 rintro e w6 hres6
 obtain ⟨hb6, s6a, s6c, rfl, hs6⟩ := hLO.out _ _ _ hres6
 have HBW6 := Aa (Below.next HBW5.out hb6)
 have HB26 := Aa (Below.next HB25.out hb6)
 have HPB6 := Aa (HPB5.out.touch (Touch.of_below hb6 []) (by simp))
 have HL6 := Aa (HL5.out.later hb6)
 have HT6 := Aa (HT5.out.later hb6)
 have HS56 := Aa (Ab HS5.out (Nat.le_refl _) hb6)
 have HS6 := Aa hs6
 have p3 := (HPB6.out 6 _ rfl).1
 have hsz6 : w.heap.size < w6.heap.size := HPB6.out.lt (by simp)
 have hsz56 : w5.heap.size ≤ w6.heap.size := hb6.size
 clear hres6 hb6 hs6 HPB5 HRD5 HL5 HT5 HS5 HBW5 HB25 hRL
 go_wp2_with fail
 refine (HLK.out w6 HBW6.out).mono ?_
 rintro e wk ⟨rfl, hbk⟩
 have HBW6 := Aa (Below.next HBW6.out hbk)
 have HB26 := Aa (Below.next HB26.out hbk)
 have HPB6 := Aa (HPB6.out.touch (Touch.of_below hbk []) (by simp))
 have HL6 := Aa (HL6.out.later hbk)
 have HT6 := Aa (HT6.out.later hbk)
 have HS56 := Aa (Ab HS56.out (Nat.le_refl _) hbk)
 have HS6 := Aa (Ab HS6.out (Nat.le_refl _) hbk)
 have p3 := (HPB6.out 6 _ rfl).1
 have hsz6k : w6.heap.size ≤ wk.heap.size := hbk.size
 clear hbk
 go_wp2_with fail
 refine (hWF.out _ w2 wk HBW2.out HB26.out HL6.out).mono ?_
 rintro e w7 ⟨rfl, hg7⟩
 have t7 : Touch (Ed (.slice ga nf gc)) wk w7 := Touch.of_row hg7
 have m7 : ∀ x ∈ Ed (.slice ga nf gc), w2.heap.size ≤ x ∧ x < w3.heap.size := fun x hx => HGL.out x (blkL_mem.1 hx)
 have HBW7 := Aa (HBW6.out.trans (t7.below (by omega) (fun x hx => by have := m7 x hx; omega)))
 have hb27 : Below w2.heap.size w2 w7 := HB26.out.trans (t7.below (by omega) (fun x hx => (m7 x hx).1))
 have HS57 := Aa (Ac HS56.out t7 (fun x hx => by have := m7 x hx; omega))
 have HS67 := Aa (Ac HS6.out t7 (fun x hx => by have := m7 x hx; omega))
 have hT7 : LentT w7 w2.heap.size (.slice ha nv hc) L := by
  obtain ⟨gg, c, hv, hcc, ho⟩ := HT6.out
  exact ⟨gg, c, hv, hcc, Ad hsz23 (Ac ho t7 (fun x hx => (m7 x hx).2))⟩
 have hsz7 : wk.heap.size ≤ w7.heap.size := t7.size
 have HWT := Aa (hWT.out (.slice ha nv hc) al cl w2 w7 HRD2.out hb27 hT7)
 clear hg7 t7 m7 hb27 hT7 HPB6 HL6 HT6 HS56 HS6 HBW6 HB26 hWF hWT HGL
 go_wp2_with fail
 refine HWT.out.mono ?_
 rintro e w8 ⟨rfl, hg8⟩
 have t8 : Touch (Ed (.slice ha nv hc)) w7 w8 := Touch.of_row hg8
 have m8 : ∀ x ∈ Ed (.slice ha nv hc), w3.heap.size ≤ x ∧ x < w4.heap.size := fun x hx => HHL.out x (blkL_mem.1 hx)
 have HBW8 := Aa (HBW7.out.trans (t8.below (by omega) (fun x hx => by have := m8 x hx; omega)))
 have hs58 := Ac HS57.out t8 (fun x hx => by have := m8 x hx; omega)
 have hs68 := Ac HS67.out t8 (fun x hx => by have := m8 x hx; omega)
 obtain ⟨_, _, e1, hd1⟩ := AE hs58
 cases e1
 obtain ⟨_, _, e2, hd2⟩ := AE hs68
 cases e2
 have hSN := Iu S s5a s6a s5c s6c (by rw [← HNS.out]; omega) w8 hd1 hd2
 rw [← HNS.out] at hSN
 have HSN := Aa hSN
 have HS58 := Aa hs58
 clear hSN hs58 hs68 hd1 hd2 t8 m8 hg8 HS57 HS67 HBW7 HWT HHL
 go_wp2_with fail
 refine HSN.out.mono ?_
 rintro e wA ⟨rfl, hb9⟩
 have HBWA := Aa (Below.next HBW8.out hb9)
 have hKF := Jb (HBK.out wA HBWA.out) s5a nS s5c (As S) ol1 hM1 (Ad (by omega) (Ab HS58.out (Nat.le_refl _) hb9)) (fun k hk => by have := (HS58.out.lt k hk).1; omega)
 have HKF := Aa hKF
 clear hb9 HSN HBW8 hKF HS58
 go_wp2_with fail
 refine HKF.out.mono ?_
 rintro e wK hres
 obtain ⟨rfl, hkb, -, rs', T', M', hbook, hlen⟩ := hres
 have HFIN : Hid (Es w base B M (.returned (.bool true)) wK) := Aa ⟨rfl, (HBWA.out.mono hbs).trans hkb, rs', T', M', hbook.mono (fun k hk => hbook.le k hk) (fun _ hk => hk), fun j => by rw [hlen]; split <;> omega⟩
 clear hkb hbook hlen HKF HBWA
 go_wp2_with fail
 refine (EB _ wK).mono ?_
 rintro e wB ⟨rfl, hwB⟩
 have hwB := hwB.symm
 subst hwB
 go_wp2_with fail
 refine (EB _ wK).mono ?_
 rintro e wB ⟨rfl, hwB⟩
 have hwB := hwB.symm
 subst hwB
 go_wp2_with fail
 go_ret
 exact HFIN.out
open Go.Joins Go.Deep
theorem Tryz.gKinds : Tryz.prog.globalNamed "salvage/volume.kinds" = some 0 := by kernel_rfl
theorem Tryz.tKinds : (Tryz.prog.globals[0]?).map (·.type) = some 179 := by kernel_rfl
theorem Tryz.cellsK : Tryz.prog.cellsOf 179 = 6 := by kernel_rfl
theorem Tryz.cellsE : Tryz.prog.cellsOf 178 = 2 := by kernel_rfl
theorem Tryz.cellsB : Tryz.prog.cellsOf 5 = 1 := by kernel_rfl
theorem Tryz.cellsR : Tryz.prog.cellsOf 177 = 1 := by kernel_rfl
theorem Px {H : Type} {enc : TypeId × Value → H} {W : World} {fuel : Nat} {t e : TypeId} {f0 f1 : Field} {cs : List Value} {a0 b0 a1 b1 a2 b2 : DataW H} {p : List MemPlace} (ht : Tryz.prog.underlying t = some (.array 3 e)) (he : Tryz.prog.underlying e = some (.struct #[f0, f1]))
  (ce : Tryz.prog.cellsOf e = 2) (ct : Tryz.prog.cellsOf t = 6) (o0 : f0.offset = 0) (o1 : f1.offset = 1) (k0 : Tryz.prog.cellsOf f0.type = 1) (k1 : Tryz.prog.cellsOf f1.type = 1)
  (h : DataW.trod enc Tryz.prog W 0 (fun _ => true) true fuel t cs = some (.agg [.agg [a0, b0], .agg [a1, b1], .agg [a2, b2]], p)) :
  ∃ (c0 c1 c2 c3 c4 c5 : Value) (n0 n1 n2 : Nat) (q0 q1 q2 q3 q4 q5 : List MemPlace), cs = [c0, c1, c2, c3, c4, c5] ∧
   DataW.trod enc Tryz.prog W 0 (fun _ => true) true n0 f0.type [c0] = some (a0, q0) ∧ DataW.trod enc Tryz.prog W 0 (fun _ => true) true n0 f1.type [c1] = some (b0, q1) ∧
   DataW.trod enc Tryz.prog W 0 (fun _ => true) true n1 f0.type [c2] = some (a1, q2) ∧ DataW.trod enc Tryz.prog W 0 (fun _ => true) true n1 f1.type [c3] = some (b1, q3) ∧
   DataW.trod enc Tryz.prog W 0 (fun _ => true) true n2 f0.type [c4] = some (a2, q4) ∧ DataW.trod enc Tryz.prog W 0 (fun _ => true) true n2 f1.type [c5] = some (b2, q5) := by
 cases fuel with
 | zero => simp [DataW.trod] at h
 | succ fuel =>
  simp only [DataW.trod, ht, ce, ct] at h
  split at h
  ·rename_i hl
   obtain ⟨xs, hm, hx⟩ := Option.map_eq_some_iff.1 h
   have hxs : xs.map (·.1) = [.agg [a0, b0], .agg [a1, b1], .agg [a2, b2]] := by
    have := congrArg Prod.fst hx
    simpa using this
   match cs, hl with
   | [c0, c1, c2, c3, c4, c5], _ =>
    obtain ⟨y0, hy0, h0⟩ := Lib.mapM_at hm 0 0 rfl
    obtain ⟨y1, hy1, h1⟩ := Lib.mapM_at hm 1 1 rfl
    obtain ⟨y2, hy2, h2⟩ := Lib.mapM_at hm 2 2 rfl
    have z0 : y0.1 = .agg [a0, b0] := by
     have : (xs.map (·.1))[0]? = some y0.1 := by simp [hy0]
     rw [hxs] at this
     simpa using this.symm
    have z1 : y1.1 = .agg [a1, b1] := by
     have : (xs.map (·.1))[1]? = some y1.1 := by simp [hy1]
     rw [hxs] at this
     simpa using this.symm
    have z2 : y2.1 = .agg [a2, b2] := by
     have : (xs.map (·.1))[2]? = some y2.1 := by simp [hy2]
     rw [hxs] at this
     simpa using this.symm
    have key : ∀ (c c' : Value) (a b : DataW H) (y : DataW H × List MemPlace), y.1 = .agg [a, b] → DataW.trod enc Tryz.prog W 0 (fun _ => true) true fuel e [c, c'] = some y → ∃ n q q', DataW.trod enc Tryz.prog W 0 (fun _ => true) true n f0.type [c] = some (a, q) ∧ DataW.trod enc Tryz.prog W 0 (fun _ => true) true n f1.type [c'] = some (b, q') := by
     intro c c' a b y hy hh
     obtain ⟨ys, n, _, hxy, _, hyl, hfl⟩ := DataW.trod_struct he hh
     match ys, hyl with
     | [u0, u1], _ =>
      have g0 := hfl 0 f0 rfl
      have g1 := hfl 1 f1 rfl
      simp [o0, o1, k0, k1] at g0 g1
      rw [hxy] at hy
      simp at hy
      obtain ⟨rfl, rfl⟩ := hy
      exact ⟨n, u0.2, u1.2, g0, g1⟩
    obtain ⟨n0, q0, q1, r0, r1⟩ := key c0 c1 a0 b0 y0 z0 (by simpa using h0)
    obtain ⟨n1, q2, q3, r2, r3⟩ := key c2 c3 a1 b1 y1 z1 (by simpa using h1)
    obtain ⟨n2, q4, q5, r4, r5⟩ := key c4 c5 a2 b2 y2 z2 (by simpa using h2)
    exact ⟨c0, c1, c2, c3, c4, c5, n0, n1, n2, q0, q1, q2, q3, q4, q5, rfl, r0, r1, r2, r3, r4, r5⟩
  ·cases h
theorem Rk {W : World} (h : laidMetH Tryz.prog [("salvage/volume.kinds", Rows.laid_salvage_volume_kinds)] W) : Kinds W := by
 obtain ⟨g, t, cs, fuel, p, hg, ht, hv, hd⟩ := h.funcs (List.mem_singleton.2 rfl)
 obtain rfl := Option.some.inj (Tryz.gKinds.symm.trans hg)
 obtain rfl := Option.some.inj (Tryz.tKinds.symm.trans ht)
 have hd' : DataW.trod (funcToken Tryz.prog) Tryz.prog W 0 (fun _ => true) true fuel 179 cs.toList = some (.agg [.agg [.lit (.int .u8 77), .held [40, 42, 115, 97, 108, 118, 97, 103, 101, 47, 118, 111, 108, 117, 109, 101, 46, 83, 101, 116, 41, 46, 114, 101, 97, 100, 77, 97, 105, 110]], .agg [.lit (.int .u8 70), .held [40, 42, 115, 97, 108, 118, 97, 103, 101, 47, 118, 111, 108, 117, 109, 101, 46, 83, 101, 116, 41, 46, 114, 101, 97, 100, 70, 105, 108, 101]], .agg [.lit (.int .u8 82), .held [40, 42, 115, 97, 108, 118, 97, 103, 101, 47, 118, 111, 108, 117, 109, 101, 46, 83, 101, 116, 41, 46, 114, 101, 97, 100, 69, 120, 116, 114, 97]]], p) := hd
 obtain ⟨c0, c1, c2, c3, c4, c5, n0, n1, n2, q0, q1, q2, q3, q4, q5, hcs, r0, r1, r2, r3, r4, r5⟩ := Px Tryz.underlying179 Tryz.underlying178 Tryz.cellsE Tryz.cellsK rfl rfl Tryz.cellsB Tryz.cellsR hd'
 obtain ⟨z0, e0, x0, _⟩ := DataW.trod_int Tryz.underlying5 r0
 obtain ⟨z2, e2, x2, _⟩ := DataW.trod_int Tryz.underlying5 r2
 obtain ⟨z4, e4, x4, _⟩ := DataW.trod_int Tryz.underlying5 r4
 have f1 := func_of_trod (f0 := 185) Tryz.underlying177 (by kernel_rfl) r1
 have f3 := func_of_trod (f0 := 186) Tryz.underlying177 (by kernel_rfl) r3
 have f5 := func_of_trod (f0 := 187) Tryz.underlying177 (by kernel_rfl) r5
 have hcell : ∀ i, W.cell? ⟨0, i, none⟩ = cs[i]? := fun i => World.var?_cell hg hv i
 have hci : ∀ i, cs[i]? = [c0, c1, c2, c3, c4, c5][i]? := fun i => by rw [← hcs, Array.getElem?_toList]
 simp at e0 e2 e4 x0 x2 x4
 subst e0 e2 e4
 obtain ⟨rfl, _⟩ := x0
 obtain ⟨rfl, _⟩ := x2
 obtain ⟨rfl, _⟩ := x4
 exact ⟨by rw [hcell, hci]; rfl, by rw [hcell, hci, f1]; rfl, by rw [hcell, hci]; rfl, by rw [hcell, hci, f3]; rfl, by rw [hcell, hci]; rfl, by rw [hcell, hci, f5]; rfl⟩
end Go.Proofs.YtonjphollmdicaaGreatDoor
namespace Go.Proofs.YtonjphollmdicaaGreatDoor
open Go.ChangeShapes Go.WideShapes Go.ChangeAt Go.RowKit
open Go.Joins Go.Deep
def E0 {H : Type} (t : TypeId) (d : DataW H) : Prop := ∀ n ∈ d.weights Tryz.prog t, n ≤ 140737488351232
theorem KJ {H : Type} {e : TypeId} : ∀ {l : List (DataW H)} {d : DataW H}, (∀ n ∈ DataW.weightsAll Tryz.prog e l, n ≤ 140737488351232) → d ∈ l → E0 e d
 | [], _, _, hd => by cases hd
 | x :: r, d, hw, hd => by
  simp only [DataW.weightsAll, List.mem_append] at hw
  rcases List.mem_cons.1 hd with rfl | hd
  ·exact fun n hn => hw n (.inl hn)
  ·exact KJ (fun n hn => hw n (.inr hn)) hd
theorem FX {H : Type} {t e : TypeId} {elems spare : List (DataW H)} (ht : Tryz.prog.underlying t = some (.slice e)) (h : E0 t (.slice elems spare)) : elems.length * Tryz.prog.bytesOf e ≤ 140737488351232 ∧ ∀ d ∈ elems, E0 e d := by
 unfold E0 at h
 simp only [DataW.weights, ht, List.mem_cons, List.mem_append] at h
 refine ⟨Nat.le_trans (Nat.mul_le_mul_right _ (Nat.le_add_right _ _)) (h _ (.inl rfl)), fun d hd => KJ (fun n hn => h n (.inr (.inl hn))) hd⟩
theorem Oy {H : Type} {t : TypeId} {l : List UInt8} (h : E0 t (.lit (.string l) : DataW H)) : l.length ≤ 140737488351232 := h _ (by simp [DataW.weights])
theorem Tryz.bytesF : Tryz.prog.bytesOf 62 = 32 := by kernel_rfl
theorem Tryz.bytesS : Tryz.prog.bytesOf 9 = 16 := by kernel_rfl
theorem Tryz.bytesI : Tryz.prog.bytesOf 3 = 8 := by kernel_rfl
theorem Tryz.cellsF : Tryz.prog.cellsOf 62 = 2 := by kernel_rfl
theorem Tryz.cellsS : Tryz.prog.cellsOf 9 = 1 := by kernel_rfl
theorem Tryz.cellsI : Tryz.prog.cellsOf 3 = 1 := by kernel_rfl
theorem Tryz.cellsL : Tryz.prog.cellsOf 31 = 1 := by kernel_rfl
theorem Fv (b off j : Nat) : (⟨b, off, none⟩ : Addr).add j = ⟨b, off + j, none⟩ := by unfold Addr.add; split <;> simp_all
section
variable {H : Type} {enc : TypeId × Value → H} {W : World}
theorem Ic {t e : TypeId} {fuel : Nat} {c : Value} {x : DataW H × List MemPlace} (ht : Tryz.prog.underlying t = some (.slice e)) (hc1 : Tryz.prog.cellsOf e = 1) (hw : E0 t x.1) (h : DataW.trod enc Tryz.prog W 0 (fun _ => true) true fuel t [c] = some x) :
  (c = .slice none 0 0) ∨ ∃ (a : Addr) (len cap n : Nat) (V : Nat → Value) (D : Nat → DataW H) (Q : Nat → List MemPlace), c = .slice (some a) len cap ∧ len ≤ cap ∧ (len * Tryz.prog.bytesOf e ≤ 140737488351232 ∧ ∀ i, i < len → E0 e (D i)) ∧
   ∀ i, i < len → (∃ b off, a = ⟨b, off, none⟩ ∧ W.cell? ⟨b, off + i, none⟩ = some (V i)) ∧ DataW.trod enc Tryz.prog W 0 (fun _ => true) true n e [V i] = some (D i, Q i) := by
 rcases open_slice ht h with ⟨h0, _⟩ | ⟨a, len, cap, m, n, D, Pl, hcs, hb, hl, hm, hmm, rfl, hx⟩
 ·exact Or.inl (by simpa using h0)
 ·have hlm : len ≤ m := by rw [hmm]; split <;> omega
  have each : ∀ i, i < len → ∃ v : Value, W.cell? (a.add i) = some v ∧ DataW.trod enc Tryz.prog W 0 (fun _ => true) true n e [v] = some (D i, Pl i) := fun i hi => by
   obtain ⟨cs', h1, h2⟩ := hx i (by omega)
   rw [hc1, Nat.mul_one] at h1
   obtain ⟨_, hlen, hcell⟩ := World.cells?_some h1
   match cs', hlen with
   | [v], _ =>
    have := hcell 0 (by omega)
    rw [add_add, Nat.add_zero] at this
    exact ⟨v, by simpa using this, h2⟩
  obtain ⟨V, hV⟩ := choose_lt each
  refine Or.inr ⟨a, len, cap, n, V, D, Pl, by simpa using hcs, hl, ?_, fun i hi => ⟨?_, (hV i hi).2⟩⟩
  ·obtain ⟨l1, l2⟩ := FX ht hw
   rw [List.length_map, List.length_range] at l1
   exact ⟨l1, fun i hi => l2 _ (List.mem_map.2 ⟨i, List.mem_range.2 hi, rfl⟩)⟩
  ·obtain ⟨b, off, spot⟩ := a
   have h1 := (hV i hi).1
   have hspot : spot = none := by simpa [Addr.add] using World.cell?_spot (hV 0 (by omega)).1
   subst hspot
   rw [Fv] at h1
   exact ⟨b, off, rfl, h1⟩
theorem NV {fuel : Nat} {c : Value} {x : DataW H × List MemPlace} (h : DataW.trod enc Tryz.prog W 0 (fun _ => true) true fuel 23 [c] = some x) (hb : E0 23 x.1) :
  ∃ (vs : List (List UInt8)) (a : Option Addr) (cap : Nat), c = .slice a vs.length cap ∧ Rd W a (AM vs) ∧ vs.length ≤ 8796093022200 ∧ ∀ v ∈ vs, v.length ≤ 140737488355328 := by
 rcases Ic Tryz.underlying23 Tryz.cellsS hb h with rfl | ⟨a, len, cap, n, V, D, Q, rfl, hl, hbk, hV⟩
 ·exact ⟨[], none, 0, rfl, fun k u hk => by simp [AM] at hk, by simp, by simp⟩
 ·have hs : ∀ i, i < len → ∃ l : List UInt8, V i = .string (str l) ∧ D i = .lit (.string l) := fun i hi => by
   obtain ⟨s, e0, x0, _⟩ := DataW.trod_string Tryz.underlying9 (hV i hi).2
   have e1 : V i = .string s := by simpa using e0
   exact ⟨s.data.toList, by rw [e1, ← PN], congrArg Prod.fst x0⟩
  obtain ⟨f, hf⟩ := choose_lt hs
  have hlen : ((List.range len).map f).length = len := by simp
  obtain ⟨hll, hlt⟩ := hbk
  rw [Tryz.bytesS] at hll
  refine ⟨(List.range len).map f, some a, cap, by rw [hlen], ?_, by rw [hlen]; omega, ?_⟩
  ·intro k u hk
   have hkl : k < len := by
    have := (List.getElem?_eq_some_iff.1 hk).1
    simpa [AM] using this
   obtain ⟨⟨b, off, rfl, hc⟩, _⟩ := hV k hkl
   rw [(hf k hkl).1] at hc
   have : u = .string (str (f k)) := by
    simp [AM, List.getElem?_range hkl] at hk
    exact hk.symm
   rw [this]
   exact ⟨b, off, rfl, hc⟩
  ·intro v hv
   obtain ⟨i, hi, rfl⟩ := List.mem_map.1 hv
   have hi := List.mem_range.1 hi
   have h1 := hlt i hi
   rw [(hf i hi).2] at h1
   have := Oy h1
   omega
theorem Pq {fuel : Nat} {c : Value} {x : DataW H × List MemPlace} (h : DataW.trod enc Tryz.prog W 0 (fun _ => true) true fuel 31 [c] = some x) (hb : E0 31 x.1) :
  ∃ (q : List Int × Option Addr × Nat), c = .slice q.2.1 q.1.length q.2.2 ∧ Rd W q.2.1 (q.1.map (Value.int .i64)) ∧ q.1.length ≤ 17592186044416 ∧ ∀ z ∈ q.1, -9223372036854775808 ≤ z ∧ z ≤ 9223372036854775807 := by
 rcases Ic Tryz.underlying31 Tryz.cellsI hb h with rfl | ⟨a, len, cap, n, V, D, Q, rfl, hl, hbk, hV⟩
 ·exact ⟨([], none, 0), rfl, fun k u hk => by simp at hk, by simp, by simp⟩
 ·have hs : ∀ i, i < len → ∃ z : Int, V i = .int .i64 z ∧ -9223372036854775808 ≤ z ∧ z ≤ 9223372036854775807 := fun i hi => by
   obtain ⟨z, e0, _, hw⟩ := DataW.trod_int Tryz.underlying3 (hV i hi).2
   have e1 : IntKind.i64.min = -9223372036854775808 := by decide
   have e2 : IntKind.i64.max = 9223372036854775807 := by decide
   have hw : (decide (IntKind.i64.min ≤ z) && decide (z ≤ IntKind.i64.max)) = true := hw
   rw [e1, e2] at hw
   simp only [Bool.and_eq_true, decide_eq_true_eq] at hw
   exact ⟨z, by simpa using e0, hw.1, hw.2⟩
  obtain ⟨f, hf⟩ := choose_lt hs
  have hlen : ((List.range len).map f).length = len := by simp
  obtain ⟨hll, _⟩ := hbk
  rw [Tryz.bytesI] at hll
  refine ⟨((List.range len).map f, some a, cap), by rw [hlen], ?_, by rw [hlen]; omega, ?_⟩
  ·intro k u hk
   have hkl : k < len := by
    have := (List.getElem?_eq_some_iff.1 hk).1
    simpa using this
   obtain ⟨⟨b, off, rfl, hc⟩, _⟩ := hV k hkl
   rw [(hf k hkl).1] at hc
   have : u = .int .i64 (f k) := by
    simp [List.getElem?_range hkl] at hk
    exact hk.symm
   rw [this]
   exact ⟨b, off, rfl, hc⟩
  ·intro z hz
   obtain ⟨i, hi, rfl⟩ := List.mem_map.1 hz
   exact (hf i (List.mem_range.1 hi)).2
theorem Lu {fuel : Nat} {c : Value} {x : DataW H × List MemPlace} (h : DataW.trod enc Tryz.prog W 0 (fun _ => true) true fuel 24 [c] = some x) (hb : E0 24 x.1) :
  ∃ (pk : List (List Int)) (a : Option Addr) (cap : Nat), c = .slice a pk.length cap ∧ RdPk W a pk ∧ (∀ ks ∈ pk, ks.length ≤ 17592186044416) ∧ ∀ ks ∈ pk, ∀ z ∈ ks, -9223372036854775808 ≤ z ∧ z ≤ 9223372036854775807 := by
 rcases Ic Tryz.underlying24 Tryz.cellsL hb h with rfl | ⟨a, len, cap, n, V, D, Q, rfl, hl, hbk, hV⟩
 ·exact ⟨[], none, 0, rfl, fun i ks hi => by simp at hi, by simp, by simp⟩
 ·have hs : ∀ i, i < len → ∃ q : List Int × Option Addr × Nat, V i = .slice q.2.1 q.1.length q.2.2 ∧ Rd W q.2.1 (q.1.map (Value.int .i64)) ∧ q.1.length ≤ 17592186044416 ∧ ∀ z ∈ q.1, -9223372036854775808 ≤ z ∧ z ≤ 9223372036854775807 := fun i hi =>
   Pq (hV i hi).2 (hbk.2 i hi)
  obtain ⟨f, hf⟩ := choose_lt hs
  have hlen : ((List.range len).map fun i => (f i).1).length = len := by simp
  refine ⟨(List.range len).map fun i => (f i).1, some a, cap, by rw [hlen], ?_, ?_, ?_⟩
  ·intro i ks hi
   have hkl : i < len := by
    have := (List.getElem?_eq_some_iff.1 hi).1
    simpa using this
   obtain ⟨⟨b, off, rfl, hc⟩, _⟩ := hV i hkl
   rw [(hf i hkl).1] at hc
   have : ks = (f i).1 := by
    simp [List.getElem?_range hkl] at hi
    exact hi.symm
   rw [this]
   exact ⟨b, off, _, _, rfl, hc, (hf i hkl).2.1⟩
  ·intro ks hks
   obtain ⟨i, hi, rfl⟩ := List.mem_map.1 hks
   exact (hf i (List.mem_range.1 hi)).2.2.1
  ·intro ks hks
   obtain ⟨i, hi, rfl⟩ := List.mem_map.1 hks
   exact (hf i (List.mem_range.1 hi)).2.2.2
theorem JO {fuel : Nat} {c : Value} {x : DataW H × List MemPlace} (h : DataW.trod enc Tryz.prog W 0 (fun _ => true) true fuel 22 [c] = some x) (hb : E0 22 x.1) :
  ∃ (fs : List Ak) (a : Option Addr) (cap : Nat), c = .slice a fs.length cap ∧ (a = none → cap = 0) ∧ fs.length + 8 ≤ 4398046511104 ∧ Handed W fs a cap := by
 rcases open_slice_pairs Tryz.underlying22 Tryz.underlying62 Tryz.cellsF rfl rfl Tryz.cellsS Tryz.cellsS h with ⟨hcs, _⟩ | ⟨a, len, cap, m, n, V0, V1, D0, D1, P0, P1, hcs, _, hl, hm, hmm, rfl, hcell⟩
 ·have hcs : c = .slice none 0 0 := by simpa using hcs
  subst hcs
  exact ⟨[], none, 0, rfl, fun _ => rfl, by simp, ⟨fun k u hk => by simp [As] at hk, by simp, by simp⟩⟩
 ·have hcs : c = .slice (some a) len cap := by simpa using hcs
  subst hcs
  have hlm : len ≤ m := by rw [hmm]; split <;> omega
  have hs : ∀ i, i < len → ∃ f : Ak, V0 i = .string (str f.1) ∧ V1 i = .string (str f.2) ∧ D0 i = .lit (.string f.1) ∧ D1 i = .lit (.string f.2) := fun i hi => by
   obtain ⟨_, _, t0, t1⟩ := hcell i (by omega)
   obtain ⟨s0, e0, x0, _⟩ := DataW.trod_string Tryz.underlying9 t0
   obtain ⟨s1, e1, x1, _⟩ := DataW.trod_string Tryz.underlying9 t1
   have e0' : V0 i = .string s0 := by simpa using e0
   have e1' : V1 i = .string s1 := by simpa using e1
   exact ⟨(s0.data.toList, s1.data.toList), by rw [e0', ← PN], by rw [e1', ← PN], congrArg Prod.fst x0, congrArg Prod.fst x1⟩
  obtain ⟨f, hf⟩ := choose_lt hs
  have hlen : ((List.range len).map f).length = len := by simp
  obtain ⟨hll, hlt⟩ := FX Tryz.underlying22 hb
  rw [List.length_map, List.length_range, Tryz.bytesF] at hll
  refine ⟨(List.range len).map f, some a, cap, by rw [hlen], fun h0 => (by cases h0), by rw [hlen]; omega, ⟨?_, by rw [hlen]; exact hl, ?_⟩⟩
  ·intro k u hk
   have hkl : k < 2 * len := by
    have := (List.getElem?_eq_some_iff.1 hk).1
    rw [EM] at this
    simpa using this
   obtain ⟨b, off, spot⟩ := a
   have hi : k / 2 < len := by omega
   have hspot : spot = none := by
    have h2 := (hcell 0 (by omega)).1
    rw [Nat.zero_mul] at h2
    simpa [Addr.add] using World.cell?_spot h2
   subst hspot
   refine ⟨b, off, rfl, ?_⟩
   obtain ⟨g1, g2⟩ := Ez ((List.range len).map f) (k / 2) (by rw [hlen]; exact hi)
   have e1 : ((List.range len).map f)[k / 2]'(by rw [hlen]; exact hi) = f (k / 2) := by simp
   rw [e1, ← (hf _ hi).1] at g1
   rw [e1, ← (hf _ hi).2.1] at g2
   rcases Nat.mod_two_eq_zero_or_one k with h | h
   ·rw [show 2 * (k / 2) = k from by omega, hk] at g1
    cases g1
    have := (hcell (k / 2) (by omega)).1
    rw [Fv, show k / 2 * 2 = k from by omega] at this
    exact this
   ·rw [show 2 * (k / 2) + 1 = k from by omega, hk] at g2
    cases g2
    have := (hcell (k / 2) (by omega)).2.1
    rw [Fv, show k / 2 * 2 + 1 = k from by omega] at this
    exact this
  ·intro g hg
   obtain ⟨i, hi, rfl⟩ := List.mem_map.1 hg
   have hi := List.mem_range.1 hi
   have h1 := hlt _ (List.mem_map.2 ⟨i, List.mem_range.2 hi, rfl⟩ : (.agg [D0 i, D1 i] : DataW H) ∈ (List.range len).map fun i => (.agg [D0 i, D1 i] : DataW H))
   rw [(hf i hi).2.2.1, (hf i hi).2.2.2] at h1
   unfold E0 at h1
   simp [DataW.weights, DataW.weightsEach, Tryz.underlying62] at h1
   omega
end
end Go.Proofs.YtonjphollmdicaaGreatDoor
namespace Go.Proofs.YtonjphollmdicaaGreatDoor
open Go.ChangeShapes Go.WideShapes Go.ChangeAt Go.RowKit
open Go.Joins Go.Deep
structure OpD where
 kind : Int
 a : Nat
 b : Nat
 fs0 : List Ak
 fs : List Ak
 bx : Int
 ex : Int
 vs : List (List UInt8)
 pk : List (List Int)
 sa : Option Addr
 fa : Option Addr
 va : Option Addr
 pa : Option Addr
 sc : Nat
 fc : Nat
 vc : Nat
 pc : Nat
instance : Inhabited OpD := ⟨⟨0, 0, 0, [], [], 0, 0, [], [], none, none, none, none, 0, 0, 0, 0⟩⟩
def OpD.cells (o : OpD) : List Value := [.int .i64 o.kind, .int .u16 (o.a : Int), .int .u16 (o.b : Int), .slice o.sa o.fs0.length o.sc, .int .i64 o.bx, .int .i64 o.ex, .slice o.fa o.fs.length o.fc, .slice o.va o.vs.length o.vc, .slice o.pa o.pk.length o.pc]
structure OpD.ok (W : World) (o : OpD) : Prop where
 a : o.a < 65536
 b : o.b < 65536
 h0 : Handed W o.fs0 o.sa o.sc
 n0 : o.fs0.length + 8 ≤ 4398046511104
 e0 : o.sa = none → o.sc = 0
 h1 : Handed W o.fs o.fa o.fc
 n1 : o.fs.length + 8 ≤ 4398046511104
 e1 : o.fa = none → o.fc = 0
 vr : Rd W o.va (AM o.vs)
 vn : o.vs.length ≤ 8796093022200
 vl : ∀ v ∈ o.vs, v.length ≤ 140737488355328
 pr : RdPk W o.pa o.pk
 pl : ∀ ks ∈ o.pk, ks.length ≤ 17592186044416
 pn : ∀ ks ∈ o.pk, ∀ z ∈ ks, -9223372036854775808 ≤ z ∧ z ≤ 9223372036854775807
def SG (W : World) (a : Option Addr) (l : List OpD) : Prop := ∀ (i : Nat) (o : OpD), l[i]? = some o → o.ok W ∧ ∃ b off, a = some ⟨b, off, none⟩ ∧ ∀ (k : Nat) (u : Value), o.cells[k]? = some u → W.cell? ⟨b, off + i * 9 + k, none⟩ = some u
theorem Tryz.cellsOp : Tryz.prog.cellsOf 82 = 9 := by kernel_rfl
theorem Tryz.bytesOp : Tryz.prog.bytesOf 82 = 128 := by kernel_rfl
section
variable {H : Type} {enc : TypeId × Value → H} {W : World}
theorem Sd {fuel : Nat} {cs : List Value} {x : DataW H × List MemPlace} (h : DataW.trod enc Tryz.prog W 0 (fun _ => true) true fuel 82 cs = some x) (hb : E0 82 x.1) : ∃ o : OpD, cs = o.cells ∧ o.ok W := by
 obtain ⟨ys, k, _, hxy, hcl, hyl, hfl⟩ := DataW.trod_struct Tryz.underlying82 h
 rw [Tryz.cellsOp] at hcl
 have k2 : Tryz.prog.cellsOf 3 = 1 := by kernel_rfl
 have k5 : Tryz.prog.cellsOf 80 = 1 := by kernel_rfl
 have k6 : Tryz.prog.cellsOf 26 = 6 := by kernel_rfl
 match cs, hcl with
 | [d0, d1, d2, c0, c1, c2, c3, c4, c5], _ =>
  have g0 := hfl 0 _ rfl
  have g1 := hfl 1 _ rfl
  have g2 := hfl 2 _ rfl
  have g3 := hfl 3 _ rfl
  match ys, hyl with
  | [z0, z1, z2, z3], _ =>
   simp [k2, k5, k6] at g0 g1 g2 g3
   have hd : x.1 = .agg [z0.1, z1.1, z2.1, z3.1] := by simpa using congrArg Prod.fst hxy
   rw [hd] at hb
   have hb3 : E0 26 z3.1 := by
    unfold E0 at hb
    simp only [DataW.weights, DataW.weightsEach, Tryz.underlying82, List.map_cons, List.map_nil, List.mem_append] at hb
    exact fun n hn => hb n (by simp [hn])
   clear hb hd hxy
   obtain ⟨kd, e0, _, _⟩ := DataW.trod_int Tryz.underlying3 g0
   obtain ⟨xa, e1, _, r1⟩ := DataW.trod_int Tryz.underlying80 g1
   obtain ⟨xb, e2, _, r2⟩ := DataW.trod_int Tryz.underlying80 g2
   have e0 : d0 = .int .i64 kd := by simpa using e0
   have e1 : d1 = .int .u16 xa := by simpa using e1
   have e2 : d2 = .int .u16 xb := by simpa using e2
   have m1 : IntKind.u16.min = 0 := by decide
   have m2 : IntKind.u16.max = 65535 := by decide
   have r1 : (decide (IntKind.u16.min ≤ xa) && decide (xa ≤ IntKind.u16.max)) = true := r1
   have r2 : (decide (IntKind.u16.min ≤ xb) && decide (xb ≤ IntKind.u16.max)) = true := r2
   rw [m1, m2] at r1 r2
   simp only [Bool.and_eq_true, decide_eq_true_eq] at r1 r2
   obtain ⟨na, rfl⟩ : ∃ n : Nat, xa = (n : Int) := ⟨xa.toNat, by omega⟩
   obtain ⟨nb, rfl⟩ : ∃ n : Nat, xb = (n : Int) := ⟨xb.toNat, by omega⟩
   subst e0 e1 e2
   obtain ⟨xs, k', _, hxy, _, hxl, hfl⟩ := DataW.trod_struct Tryz.underlying26 g3
   have f0 := hfl 0 _ rfl
   have f1 := hfl 1 _ rfl
   have f2 := hfl 2 _ rfl
   have f3 := hfl 3 _ rfl
   have f4 := hfl 4 _ rfl
   have f5 := hfl 5 _ rfl
   match xs, hxl with
   | [y0, y1, y2, y3, y4, y5], _ =>
    have k1 : Tryz.prog.cellsOf 22 = 1 := by kernel_rfl
    have k3 : Tryz.prog.cellsOf 23 = 1 := by kernel_rfl
    have k4 : Tryz.prog.cellsOf 24 = 1 := by kernel_rfl
    simp [k1, k2, k3, k4] at f0 f1 f2 f3 f4 f5
    have hd : z3.1 = .agg [y0.1, y1.1, y2.1, y3.1, y4.1, y5.1] := by simpa using congrArg Prod.fst hxy
    rw [hd] at hb3
    unfold E0 at hb3
    simp only [DataW.weights, DataW.weightsEach, Tryz.underlying26, List.map_cons, List.map_nil, List.mem_append] at hb3
    obtain ⟨fs0, sa, sc, rfl, s1, s2, hh0⟩ := JO f0 (fun n hn => hb3 n (by simp [hn]))
    obtain ⟨bx, e1, _, _⟩ := DataW.trod_int Tryz.underlying3 f1
    obtain ⟨ex, e2, _, _⟩ := DataW.trod_int Tryz.underlying3 f2
    obtain ⟨fs, fa, fc, rfl, hn, hl, hh⟩ := JO f3 (fun n hn => hb3 n (by simp [hn]))
    obtain ⟨vs, va, vc, rfl, hvr, hvn, hvl⟩ := NV f4 (fun n hn => hb3 n (by simp [hn]))
    obtain ⟨pk, pa, pc, rfl, hpk, hpl, hpr⟩ := Lu f5 (fun n hn => hb3 n (by simp [hn]))
    have e1 : c1 = .int .i64 bx := by simpa using e1
    have e2 : c2 = .int .i64 ex := by simpa using e2
    subst e1 e2
    exact ⟨⟨kd, na, nb, fs0, fs, bx, ex, vs, pk, sa, fa, va, pa, sc, fc, vc, pc⟩, rfl, ⟨show na < 65536 by omega, show nb < 65536 by omega, hh0, s2, s1, hh, hl, hn, hvr, hvn, hvl, hpk, hpl, hpr⟩⟩
theorem QR {t : TypeId} {fuel : Nat} {c : Value} {x : DataW H × List MemPlace} (ht : Tryz.prog.underlying t = some (.slice 82)) (h : DataW.trod enc Tryz.prog W 0 (fun _ => true) true fuel t [c] = some x) (hw : E0 t x.1) :
  ∃ (l : List OpD) (a : Option Addr) (cap : Nat), c = .slice a l.length cap ∧ SG W a l ∧ l.length * 128 ≤ 140737488351232 := by
 rcases open_slice ht h with ⟨h0, _⟩ | ⟨a, len, cap, m, n, D, Pl, hcs, hb, hl, hm, hmm, rfl, hx⟩
 ·have h0 : c = .slice none 0 0 := by simpa using h0
  exact ⟨[], none, 0, by rw [h0]; rfl, fun i o hi => by simp at hi, by simp⟩
 ·have hlm : len ≤ m := by rw [hmm]; split <;> omega
  obtain ⟨l1, l2⟩ := FX ht hw
  rw [List.length_map, List.length_range, Tryz.bytesOp] at l1
  have each : ∀ i, i < len → ∃ o : OpD, o.ok W ∧ ∀ k u, o.cells[k]? = some u → W.cell? ((a.add (i * 9)).add k) = some u := fun i hi => by
   obtain ⟨cs', h1, h2⟩ := hx i (by omega)
   rw [Tryz.cellsOp] at h1
   obtain ⟨_, hlen, hcell⟩ := World.cells?_some h1
   obtain ⟨o, rfl, ho⟩ := Sd h2 (l2 _ (List.mem_map.2 ⟨i, List.mem_range.2 hi, rfl⟩))
   refine ⟨o, ho, fun k u hk => ?_⟩
   rw [hcell k (by have := (List.getElem?_eq_some_iff.1 hk).1; omega)]
   exact hk
  obtain ⟨f, hf⟩ := choose_lt each
  have hcs : c = .slice (some a) len cap := by simpa using hcs
  subst hcs
  have hlen : ((List.range len).map f).length = len := by simp
  refine ⟨(List.range len).map f, some a, cap, by rw [hlen], fun i o hi => ?_, by rw [hlen]; exact l1⟩
  have hil : i < len := by
   have := (List.getElem?_eq_some_iff.1 hi).1
   simpa using this
  have e : o = f i := by
   simp [List.getElem?_range hil] at hi
   exact hi.symm
  subst e
  refine ⟨(hf i hil).1, ?_⟩
  obtain ⟨b, off, spot⟩ := a
  have hspot : spot = none := by
   have h2 := (hf 0 (by omega)).2 0 _ rfl
   simpa [Addr.add] using World.cell?_spot h2
  subst hspot
  refine ⟨b, off, rfl, fun k u hk => ?_⟩
  have := (hf i hil).2 k u hk
  rw [Fv, Fv] at this
  exact this
end
end Go.Proofs.YtonjphollmdicaaGreatDoor
