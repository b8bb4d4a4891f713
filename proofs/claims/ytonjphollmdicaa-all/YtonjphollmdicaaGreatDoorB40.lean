import Derived.Test.YtonjphollmdicaaGreatDoorB05
import Derived.Test.YtonjphollmdicaaGreatDoorB09
import Derived.Test.YtonjphollmdicaaGreatDoorB12
import Derived.Test.YtonjphollmdicaaGreatDoorB18
import Derived.Test.YtonjphollmdicaaGreatDoorB38
import Derived.Test.YtonjphollmdicaaGreatDoorB39
set_option maxRecDepth 100000
set_option maxHeartbeats 4000000
set_option linter.unusedSimpArgs false
namespace Go.Proofs.YtonjphollmdicaaGreatDoor
open Go.ChangeShapes Go.WideShapes Go.ChangeAt Go.RowKit
theorem Qa {base B : Nat} {rs : Nat → Value} {T : Nat → List Value} {M : Nat → List Int} (a b : Nat) (fs0 fs : List Ak) (bx ex : Int) (vs : List (List UInt8)) (pk : List (List Int)) (sa fa va pa : Option Addr) (sc fc vc pc : Nat) (hfn : fs.length + 8 ≤ 4398046511104) (hfa : fa = none → fc = 0)
  (hvn : vs.length ≤ 8796093022200) (hvl : ∀ v ∈ vs, v.length ≤ 140737488355328) (hpl : ∀ ks ∈ pk, ks.length ≤ 17592186044416) (hpr : ∀ ks ∈ pk, ∀ c ∈ ks, -9223372036854775808 ≤ c ∧ c ≤ 9223372036854775807) (w : World) (hbk : BookI w base B (· < w.heap.size) rs T M) (hMs : ∀ j, j < 4 → (M j).length + 4 ≤ 4398046511104) (hK : Kinds w) (hh0 : Handed w fs0 sa sc) (hh : Handed w fs fa fc) (hvr : Rd w va (AM vs)) (hpk : RdPk w pa pk) :
  Calls Tryz.prog 34 #[.pointer (some ⟨B, 0, none⟩), .agg #[.int .i64 3, .int .u16 (a : Int), .int .u16 (b : Int), .slice sa fs0.length sc, .int .i64 bx, .int .i64 ex, .slice fa fs.length fc, .slice va vs.length vc, .slice pa pk.length pc]] w (Es w base B M) := by
 obtain ⟨L, hL⟩ : ∃ L, L = GB (IY fs0 bx ex).1 vs pk := ⟨_, rfl⟩
 have hLn : L.length = vs.length := by rw [hL, Gj]
 have hLd := Aa (fun W (hW : Below w.heap.size w W) => LM fs0 bx ex vs pk sa va pa sc vc pc (.slice fa fs.length fc) hvn hvl hpl hpr W (hh0.later hW) (hvr.later (Nat.le_refl _) hW) (hpk.later hW))
 rw [← hL] at hLd
 have hLe := Aa (fun W (hW : Below w.heap.size w W) => Ep fs fa fc hfa hfn W (hh.rd.later (Nat.le_refl _) hW))
 have hLT := Aa (fun W a c (ha : a = none → c = 0) (hr : Rd W a (AM L)) => FQ L a c ha (by omega) W hr)
 have hLK := Aa (fun W a b ca cb (hK : Kinds W) (h1 : Rd W a (As fs)) (h2 : Rd W b (AM L)) => PH fs L a b ca cb W hK h1 h2)
 have hRL := Aa (fun W b cb (hW : Below w.heap.size w W) (h2 : Rd W b (AM L)) => Hd fs L fa b fc cb (by omega) (by omega) W (hh.rd.later (Nat.le_refl _) hW) h2)
 have hWF := Aa (fun v w0 W (h0 : Below w.heap.size w w0) (h1 : Below w0.heap.size w0 W) (h2 : Lent W w0.heap.size v fs) => D7 fs fa fc v w0 W hfn hh.short (hh.rd.later (Nat.le_refl _) h0) h1 h2)
 have hWT := Aa (fun v a c w0 W (h0 : Rd w0 a (AM L)) (h1 : Below w0.heap.size w0 W) (h2 : LentT W w0.heap.size v L) => Fp L a c v w0 W (by omega) h0 h1 h2)
 obtain ⟨ol1, ol2, ol3, ol4⟩ := Sf fs L
 have hLO := Aa (fun w w' e (h : IE (I8 fs L) w e w') => Rj h)
 have hRO := Aa (fun w w' e (h : Fh (AH fs L) w e w') => Rr h)
 obtain ⟨S, hS⟩ : ∃ x, x = OH (AH fs L) := ⟨_, rfl⟩
 obtain ⟨F, hF⟩ : ∃ x, x = OS (AH fs L) := ⟨_, rfl⟩
 obtain ⟨lo, hlo⟩ : ∃ x, x = Sj (AH fs L) := ⟨_, rfl⟩
 obtain ⟨xe, hxe⟩ : ∃ x, x = R8 (AH fs L) := ⟨_, rfl⟩
 obtain ⟨en, hen⟩ : ∃ x, x = S7 (AH fs L) := ⟨_, rfl⟩
 rw [← hS, ← hF, ← hlo, ← hxe, ← hen] at hLO hRO
 rw [← hS] at ol1
 rw [← hF] at ol2
 rw [← hlo] at ol3
 rw [← hxe] at ol4
 have HK := Aa hK
 have HBK := Aa (fun W (hW : Below w.heap.size w W) => hbk.later (fun _ hk => hk) hW)
 have hbs := hbk.bas
 have hM2 := hMs 2 (by omega)
 have hM3 := hMs 3 (by omega)
 have HLK := Aa (fun W (hW : Below w.heap.size w W) => Du (hbk.later (fun _ hk => hk) hW) (fun j hj => by have := hMs j hj; omega))
 have h0 := hK.lt
 obtain ⟨n0, hn0⟩ : ∃ x, x = fs0.length := ⟨_, rfl⟩
 obtain ⟨nf, hnf⟩ : ∃ x, x = fs.length := ⟨_, rfl⟩
 obtain ⟨nv, hnv⟩ : ∃ x, x = vs.length := ⟨_, rfl⟩
 obtain ⟨np, hnp⟩ : ∃ x, x = pk.length := ⟨_, rfl⟩
 obtain ⟨nS, hnS⟩ : ∃ x, x = S.length := ⟨_, rfl⟩
 obtain ⟨nF, hnF⟩ : ∃ x, x = F.length := ⟨_, rfl⟩
 have HNS := Aa hnS
 have HNF := Aa hnF
 have HNFS := Aa hnf
 have HLN := Aa (hLn.trans hnv.symm)
 rw [← hn0, ← hnf, ← hnv, ← hnp] at hLd ⊢
 rw [← hnf] at hLe hLK hRL hWF
 rw [hLn, ← hnv] at hLT hLK hRL hWT
 rw [← hnS, ← hnF] at hLO hRO
 rw [← hnS] at ol1
 rw [← hnF] at ol2
 clear hK hh0 hh hvr hpk hvl hpl hpr hL hLn hS hF hlo hxe hen hn0 hnf hnv hnp hnS hnF hfn hfa hvn hbk hMs
 go_enter Tryz.func34, Tryz.ntmps34
 go_wp2_with fail
 obtain ⟨w1, hw1⟩ : ∃ X, X = w.alloc (.cells #[.int .i64 3, .int .u16 (a : Int), .int .u16 (b : Int), .slice sa n0 sc, .int .i64 bx, .int .i64 ex, .slice fa nf fc, .slice va nv vc, .slice pa np pc] 82) := ⟨_, rfl⟩
 rw [← hw1]
 have hbw1 : Below w.heap.size w w1 := by rw [hw1]; exact (Below.refl _ _).alloc (Nat.le_refl _) _
 have hpb1 : Blk w1 w.heap.size [.int .i64 3, .int .u16 (a : Int), .int .u16 (b : Int), .slice sa n0 sc, .int .i64 bx, .int .i64 ex, .slice fa nf fc, .slice va nv vc, .slice pa np pc] := by rw [hw1]; exact Blk.new w _ _
 have hsz1 : w.heap.size < w1.heap.size := hpb1.lt (by simp)
 have HPB1 := Aa hpb1
 have HBW1 := Aa hbw1
 clear hpb1 hbw1 hw1
 refine (hLd.out w1 HBW1.out).mono ?_
 rintro e w2 ⟨v2, rfl, hr2, hb2⟩
 have hal : ∃ al cl, v2 = .slice al nv cl ∧ (al = none → cl = 0) := by
  rcases hr2.2 with ⟨h1, h2⟩ | ⟨g, c, cur, h1, _⟩
  ·exact ⟨none, 0, by rw [h1, h2], fun _ => rfl⟩
  ·exact ⟨_, _, h1, fun h => by cases h⟩
 obtain ⟨al, cl, rfl, hal⟩ := hal
 obtain ⟨al', cl', ee, hrd2⟩ := AE hr2
 cases ee
 have hpb2 := HPB1.out.touch (Touch.of_below hb2 []) (by simp)
 have hbw2 : Below w.heap.size w w2 := Below.next HBW1.out hb2
 have hsz2 : w.heap.size < w2.heap.size := Nat.lt_of_lt_of_le hsz1 hb2.size
 have p3 := (hpb2 6 _ rfl).1
 have HPB2 := Aa hpb2
 have HBW2 := Aa hbw2
 have HRD2 := Aa hrd2
 have HAL := Aa hal
 clear hpb2 hbw2 hb2 hr2 hrd2 hal HPB1 HBW1 hLd
 go_wp2_with fail
 refine (hLe.out w2 HBW2.out).mono ?_
 rintro e w3 ⟨g, rfl, hl3, hb3⟩
 have HBW3 := Aa (Below.next HBW2.out hb3)
 have HB23 := Aa hb3
 have HPB3 := Aa (HPB2.out.touch (Touch.of_below hb3 []) (by simp))
 have HRD3 := Aa (HRD2.out.later (Nat.le_refl _) hb3)
 have HL3 := Aa hl3
 clear hl3 hb3 HPB2 hLe
 have hgl : ∀ k, g.ownBlock = some k → w2.heap.size ≤ k ∧ k < w3.heap.size := fun k hk => by
  obtain ⟨gg, c, rfl, _, ho⟩ := HL3.out
  exact ho.lt k hk
 have HGL := Aa hgl
 clear hgl
 obtain ⟨ga, gc, hgv, hgr⟩ := HL3.out.rd
 rw [← HNFS.out] at hgv
 subst hgv
 go_wp2_with fail
 refine (hLT.out w3 al cl HAL.out HRD3.out).mono ?_
 rintro e w4 ⟨h, rfl, hl4, hb4⟩
 have hhl : ∀ k, h.ownBlock = some k → w3.heap.size ≤ k ∧ k < w4.heap.size := fun k hk => by
  obtain ⟨gg, c, rfl, _, ho⟩ := hl4
  exact ho.lt k hk
 have HHL := Aa hhl
 clear hhl
 obtain ⟨ha, hc, hhv, hhr⟩ := hl4.rd
 rw [HLN.out] at hhv
 subst hhv
 have HBW4 := Aa (Below.next HBW3.out hb4)
 have HB24 := Aa (Below.next HB23.out hb4)
 have HB34 := Aa hb4
 have HPB4 := Aa (HPB3.out.touch (Touch.of_below hb4 []) (by simp))
 have HRD4 := Aa (HRD3.out.later (Nat.le_refl _) hb4)
 have HL34 := Aa (HL3.out.later hb4)
 have HL4 := Aa hl4
 have HGR := Aa (hgr.later (Nat.le_refl _) hb4)
 have HHR := Aa hhr
 clear hl4 hb4 hgr hhr HPB3 HL3 hLT HAL
 go_wp2_with fail
 refine (hLK.out w4 ga ha gc hc (HK.out.later HBW4.out h0) HGR.out HHR.out).mono ?_
 rintro e w5 hres5
 obtain ⟨hb5, s5a, p5a, s5c, p5c, rfl, hs5, hp5⟩ := hLO.out _ _ _ hres5
 have HBW5 := Aa (Below.next HBW4.out hb5)
 have HB25 := Aa (Below.next HB24.out hb5)
 have HPB5 := Aa (HPB4.out.touch (Touch.of_below hb5 []) (by simp))
 have HRD5 := Aa (HRD4.out.later (Nat.le_refl _) hb5)
 have HL5 := Aa (HL34.out.later hb5)
 have HT5 := Aa (HL4.out.later hb5)
 have HS5 := Aa hs5
 have HS5B := Aa (fun k hk => (hs5.lt k hk).2)
 have HP5B := Aa (fun k hk => (hp5.lt k hk).2)
 have HP5 := Aa hp5
 have p3 := (HPB5.out 6 _ rfl).1
 have hsz5 : w.heap.size < w5.heap.size := HPB5.out.lt (by simp)
 have hsz45 : w4.heap.size ≤ w5.heap.size := hb5.size
 have hsz34 : w3.heap.size ≤ w4.heap.size := HB34.out.size
 have hsz23 : w2.heap.size ≤ w3.heap.size := HB23.out.size
 clear hres5 hb5 hs5 hp5 HPB4 HRD4 HL34 HL4 HGR HHR hLK HBW4 HB24 HB34 hLO
 go_wp2_with fail
 obtain ⟨W5, hW5⟩ : ∃ X, X = w5.alloc (.cells #[.slice s5a nS s5c, .slice p5a nF p5c, .int .i64 (lo : Int), .int .i64 (xe : Int)] 34) := ⟨_, rfl⟩
 rw [← hW5]
 have hbA : Below w5.heap.size w5 W5 := by rw [hW5]; exact (Below.refl _ _).alloc (Nat.le_refl _) _
 have hRB : Blk W5 w5.heap.size [.slice s5a nS s5c, .slice p5a nF p5c, .int .i64 (lo : Int), .int .i64 (xe : Int)] := by rw [hW5]; exact Blk.new w5 _ _
 refine (hRL.out W5 al cl (Below.next HBW5.out hbA) (HRD5.out.later (Nat.le_refl _) hbA)).mono ?_
 rintro e w6 hres6
 obtain ⟨hb6, z6, fa6, xa6, la6, s6a, p6a, fn6, fc6, xn6, xc6, ln6, lc6, s6c, p6c, rfl, hs6, hp6⟩ := hRO.out _ _ _ hres6
 have hb56 : Below w5.heap.size w5 w6 := Below.next hbA hb6
 have HBW6 := Aa (Below.next HBW5.out hb56)
 have HB26 := Aa (Below.next HB25.out hb56)
 have HPB6 := Aa (HPB5.out.touch (Touch.of_below hb56 []) (by simp))
 have HRB6 := Aa (hRB.touch (Touch.of_below hb6 []) (by simp))
 have HL6 := Aa (HL5.out.later hb56)
 have HT6 := Aa (HT5.out.later hb56)
 have HS56 := Aa (Ab HS5.out (Nat.le_refl _) hb56)
 have HP56 := Aa (Ab HP5.out (Nat.le_refl _) hb56)
 have HS6 := Aa hs6
 have HP6 := Aa hp6
 have p3 := (HPB6.out 6 _ rfl).1
 have hsz6 : w.heap.size < w6.heap.size := HPB6.out.lt (by simp)
 have hsz56 : w5.heap.size < w6.heap.size := HRB6.out.lt (by simp)
 have hszW5 : w5.heap.size ≤ W5.heap.size := hbA.size
 clear hW5 hres6 hb6 hs6 hp6 hRB hbA hb56 HPB5 HRD5 HL5 HT5 HS5 HP5 HBW5 HB25 hRO hRL
 go_wp2_with fail
 obtain ⟨W6, hW6⟩ : ∃ X, X = w6.alloc (.cells #[.int .i64 (z6 : Int), .slice fa6 fn6 fc6, .slice xa6 xn6 xc6, .slice la6 ln6 lc6, .slice s6a nS s6c, .slice p6a nF p6c, .int .i64 (lo : Int), .int .i64 (xe : Int)] 42) := ⟨_, rfl⟩
 rw [← hW6]
 have hbB : Below w6.heap.size w6 W6 := by rw [hW6]; exact (Below.refl _ _).alloc (Nat.le_refl _) _
 have hLB : Blk W6 w6.heap.size [.int .i64 (z6 : Int), .slice fa6 fn6 fc6, .slice xa6 xn6 xc6, .slice la6 ln6 lc6, .slice s6a nS s6c, .slice p6a nF p6c, .int .i64 (lo : Int), .int .i64 (xe : Int)] := by rw [hW6]; exact Blk.new w6 _ _
 have hszW6 : w6.heap.size < W6.heap.size := hLB.lt (by simp)
 have hb6k := hbB
 refine (HLK.out W6 (Below.next HBW6.out hbB)).mono ?_
 rintro e wk ⟨rfl, hbk⟩
 have hbB : Below w6.heap.size w6 wk := Below.next hb6k hbk
 have hLB := hLB.touch (Touch.of_below hbk []) (by simp)
 have hszWk : W6.heap.size ≤ wk.heap.size := hbk.size
 have HLBk := Aa hLB
 have HBBk := Aa hbB
 have p3 : wk.cell? ⟨w.heap.size, 6, none⟩ = some (.slice fa nf fc) := ((HPB6.out.touch (Touch.of_below hbB []) (by simp)) 6 _ rfl).1
 clear hbk hb6k hLB hbB hW6
 go_wp2_with fail
 have hbB := HBBk.out
 have hLB := HLBk.out
 have hL6' := HL6.out.later hbB
 refine (hWF.out _ w2 wk HBW2.out (Below.next HB26.out hbB) hL6').mono ?_
 rintro e w7 ⟨rfl, hg7⟩
 have t7 : Touch (Ed (.slice ga nf gc)) wk w7 := Touch.of_row hg7
 have m7 : ∀ x ∈ Ed (.slice ga nf gc), w2.heap.size ≤ x ∧ x < w3.heap.size := fun x hx => HGL.out x (blkL_mem.1 hx)
 have HBW7 := Aa ((Below.next HBW6.out hbB).trans (t7.below (by omega) (fun x hx => by have := m7 x hx; omega)))
 have hb27 : Below w2.heap.size w2 w7 := (Below.next HB26.out hbB).trans (t7.below (by omega) (fun x hx => (m7 x hx).1))
 have HPB7 := Aa ((HPB6.out.touch (Touch.of_below hbB []) (by simp)).touch t7 (fun hm => by have := m7 _ hm; omega))
 have HRB7 := Aa ((HRB6.out.touch (Touch.of_below hbB []) (by simp)).touch t7 (fun hm => by have := m7 _ hm; omega))
 have HLB7 := Aa (hLB.touch t7 (fun hm => by have := m7 _ hm; omega))
 have HS57 := Aa (Ac (Ab HS56.out (Nat.le_refl _) hbB) t7 (fun x hx => by have := m7 x hx; omega))
 have HP57 := Aa (Ac (Ab HP56.out (Nat.le_refl _) hbB) t7 (fun x hx => by have := m7 x hx; omega))
 have HS67 := Aa (Ac (Ab HS6.out (Nat.le_refl _) hbB) t7 (fun x hx => by have := m7 x hx; omega))
 have HP67 := Aa (Ac (Ab HP6.out (Nat.le_refl _) hbB) t7 (fun x hx => by have := m7 x hx; omega))
 have hT7 : LentT w7 w2.heap.size (.slice ha nv hc) L := by
  obtain ⟨gg, c, hv, hcc, ho⟩ := HT6.out.later hbB
  exact ⟨gg, c, hv, hcc, Ad hsz23 (Ac ho t7 (fun x hx => (m7 x hx).2))⟩
 have hsz7 : wk.heap.size ≤ w7.heap.size := t7.size
 have HWT := Aa (hWT.out (.slice ha nv hc) al cl w2 w7 HRD2.out hb27 hT7)
 clear hg7 t7 m7 hbB hLB hL6' hb27 hT7 HPB6 HRB6 HL6 HT6 HS56 HP56 HS6 HP6 HBW6 HB26 hWF hWT HGL
 go_wp2_with fail
 refine HWT.out.mono ?_
 rintro e w8 ⟨rfl, hg8⟩
 have t8 : Touch (Ed (.slice ha nv hc)) w7 w8 := Touch.of_row hg8
 have m8 : ∀ x ∈ Ed (.slice ha nv hc), w3.heap.size ≤ x ∧ x < w4.heap.size := fun x hx => HHL.out x (blkL_mem.1 hx)
 have HBW8 := Aa (HBW7.out.trans (t8.below (by omega) (fun x hx => by have := m8 x hx; omega)))
 have hrb8 := HRB7.out.touch t8 (fun hm => by have := m8 _ hm; omega)
 have hlb8 := HLB7.out.touch t8 (fun hm => by have := m8 _ hm; omega)
 have hs58 := Ac HS57.out t8 (fun x hx => by have := m8 x hx; omega)
 have hp58 := Ac HP57.out t8 (fun x hx => by have := m8 x hx; omega)
 have hs68 := Ac HS67.out t8 (fun x hx => by have := m8 x hx; omega)
 have hp68 := Ac HP67.out t8 (fun x hx => by have := m8 x hx; omega)
 have hsz8 : w7.heap.size ≤ w8.heap.size := t8.size
 have r0 := (hrb8 0 _ rfl).1
 have l4 := (hlb8 4 _ rfl).1
 obtain ⟨_, _, e1, hd1⟩ := AE hs58
 cases e1
 obtain ⟨_, _, e2, hd2⟩ := AE hs68
 cases e2
 rw [Qq] at hd1 hd2
 have hSN := GK (S.map fun n : Nat => (n : Int)) s5a s6a s5c s6c (by rw [List.length_map, ← HNS.out]; omega) w8 hd1 hd2
 rw [List.length_map, ← HNS.out] at hSN
 have HSN := Aa hSN
 have HRB8 := Aa hrb8
 have HLB8 := Aa hlb8
 have HP58 := Aa hp58
 have HS58 := Aa hs58
 have HP68 := Aa hp68
 clear hSN hrb8 hlb8 hs58 hp58 hs68 hp68 hd1 hd2 t8 m8 hg8 HS57 HP57 HS67 HP67 HRB7 HLB7 HPB7 HBW7 HWT HHL
 go_wp2_with fail
 refine HSN.out.mono ?_
 rintro e w9 ⟨rfl, hb9⟩
 have HBW9 := Aa (Below.next HBW8.out hb9)
 have hrb9 := HRB8.out.touch (Touch.of_below hb9 []) (by simp)
 have hlb9 := HLB8.out.touch (Touch.of_below hb9 []) (by simp)
 have r1 := (hrb9 1 _ rfl).1
 have l5 := (hlb9 5 _ rfl).1
 obtain ⟨_, _, e1, hd1⟩ := AE (Ab HP58.out (Nat.le_refl _) hb9)
 cases e1
 obtain ⟨_, _, e2, hd2⟩ := AE (Ab HP68.out (Nat.le_refl _) hb9)
 cases e2
 have hSF := Ie F p5a p6a p5c p6c (by rw [← HNF.out]; omega) w9 hd1 hd2
 rw [← HNF.out] at hSF
 have HSF := Aa hSF
 have HS59 := Aa (Ab HS58.out (Nat.le_refl _) hb9)
 have HP59 := Aa (Ab HP58.out (Nat.le_refl _) hb9)
 have hsz9 : w8.heap.size ≤ w9.heap.size := hb9.size
 have HRB9 := Aa hrb9
 have HLB9 := Aa hlb9
 clear hSF hrb9 hlb9 hd1 hd2 hb9 HSN HRB8 HLB8 HP58 HP68 HBW8 r0 l4 HS58
 go_wp2_with fail
 refine HSF.out.mono ?_
 rintro e wA ⟨rfl, hbA⟩
 have HBWA := Aa (Below.next HBW9.out hbA)
 have HRBA := Aa (HRB9.out.touch (Touch.of_below hbA []) (by simp))
 have HLBA := Aa (HLB9.out.touch (Touch.of_below hbA []) (by simp))
 have HSA := Aa (Ab HS59.out (Nat.le_refl _) hbA)
 have HPA := Aa (Ab HP59.out (Nat.le_refl _) hbA)
 have hszA : w9.heap.size ≤ wA.heap.size := hbA.size
 have r0 := (HRBA.out 0 _ rfl).1
 have HKN := Aa (Hj (HBK.out wA HBWA.out) s5a nS s5c (Kj S) ol1 hM2 (Ad (by omega) HSA.out) (fun k hk => by have := (HSA.out.lt k hk).1; omega))
 clear hbA HSF HRB9 HLB9 HBW9 r1 l5 HS59 HP59
 go_wp2_with fail
 refine HKN.out.mono ?_
 rintro e wN hres
 obtain ⟨rfl, hkb, hsm, rs1, T1, M1, hbook, hlen⟩ := hres
 have bS : ∀ k, (Value.slice s5a nS s5c).ownBlock = some k → k < w5.heap.size := fun k hk => by
  have := HS5B.out k hk
  omega
 have bP : ∀ k, (Value.slice p5a nF p5c).ownBlock = some k → k < w5.heap.size := fun k hk => by
  have := HP5B.out k hk
  omega
 have HRBN := Aa (HRBA.out.same (hsm w5.heap.size (HRBA.out.lt (by simp)) (by omega) (fun e => by have := bS _ e; omega)))
 have HLBN := Aa (HLBA.out.same (hsm w6.heap.size (HLBA.out.lt (by simp)) (by omega) (fun e => by have := bS _ e; omega)))
 have hne : ∀ k, (Value.slice p5a nF p5c).ownBlock = some k → (Value.slice s5a nS s5c).ownBlock ≠ some k := fun k hk e => by
  have := Bn HPA.out HSA.out (by decide)
  rw [hk, e] at this
  simp at this
 have HPN := Aa (Fk HPA.out fun k hk => hsm k (HPA.out.lt k hk).2 (by have := (HPA.out.lt k hk).1; omega) (hne k hk))
 have hM3' : (M1 3).length + 4 ≤ 4398046511104 := by rw [hlen 3, if_neg (by omega)]; omega
 have hKB := Je hbook p5a nF p5c (FL F) ol2 hM3' (Ad (by omega) HPN.out) (fun k hk => by
  rintro (h1 | h1 | h1)
  ·have := (HPN.out.lt k hk).1; omega
  ·exact hne k hk h1
  ·have := (HPA.out.lt k hk).2; omega)
 have HKB := Aa hKB
 have HLEN := Aa hlen
 have HBN := Aa ((HBWA.out.mono hbs).trans hkb)
 have hszN : wA.heap.size ≤ wN.heap.size := hkb.size
 have r1 := (HRBN.out 1 _ rfl).1
 have HFN : Hid (∀ k, w.heap.size ≤ k → k < wA.heap.size → (Value.slice s5a nS s5c).ownBlock ≠ some k → ¬ (k < w.heap.size ∨ (Value.slice s5a nS s5c).ownBlock = some k ∨ (wA.heap.size ≤ k ∧ k < wN.heap.size))) := Aa (fun k h1 h2 h3 => by
  rintro (h4 | h4 | h4)
  ·omega
  ·exact h3 h4
  ·omega)
 have zA5 := HRBA.out.lt (by simp)
 have zA6 := HLBA.out.lt (by simp)
 have BS := Aa bS
 have BP := Aa bP
 clear hkb hsm hbook hlen HKN hKB hM3' HBWA HRBA HLBA HSA HPA HPN hne r0 bS bP
 go_wp2_with fail
 refine HKB.out.mono ?_
 rintro e wF hres
 obtain ⟨rfl, hkb, hsm, rs2, T2, M2, hbook, hlen⟩ := hres
 have rb := HRBN.out.same (hsm w5.heap.size (HRBN.out.lt (by simp)) (HFN.out _ (by omega) zA5 (fun e => by have := BS.out _ e; omega)) (fun e => by have := BP.out _ e; omega))
 have lb := HLBN.out.same (hsm w6.heap.size (HLBN.out.lt (by simp)) (HFN.out _ (by omega) zA6 (fun e => by have := BS.out _ e; omega)) (fun e => by have := BP.out _ e; omega))
 have HFIN : Hid (Es w base B M (.returned (.bool true)) wF) := Aa ⟨rfl, HBN.out.trans hkb, rs2, T2, M2, hbook.mono (fun k hk => hbook.le k hk) (fun _ hk => hk), fun j => by rw [hlen, HLEN.out]; split <;> split <;> omega⟩
 have r2 := (rb 2 _ rfl).1
 have r3 := (rb 3 _ rfl).1
 have l6 := (lb 6 _ rfl).1
 have l7 := (lb 7 _ rfl).1
 clear hkb hsm hbook hlen HKB HRBN HLBN rb lb HFN HLEN HBN r1 BS BP
 go_wp2_with fail
 refine (EB _ wF).mono ?_
 rintro e wB ⟨rfl, hwB⟩
 have hwB := hwB.symm
 subst hwB
 go_wp2_with fail
 refine (EB _ wF).mono ?_
 rintro e wB ⟨rfl, hwB⟩
 have hwB := hwB.symm
 subst hwB
 go_wp2_with fail
 go_ret
 exact HFIN.out
end Go.Proofs.YtonjphollmdicaaGreatDoor
namespace Go.Proofs.YtonjphollmdicaaGreatDoor
def AT (K : Nat) (P : Nat → Option (List UInt8)) : List Nat := (List.range K).filter fun i => (P i).isSome
def GH (K : Nat) (P : Nat → Option (List UInt8)) (es : List (Nat × List UInt8)) : List (Nat × List UInt8) := es.take (K - (AT K P).length)
def Ko (K : Nat) (P : Nat → Option (List UInt8)) (es : List (Nat × List UInt8)) : List Nat := AT K P ++ (GH K P es).map fun e => K + e.1
def GC (K : Nat) (P : Nat → Option (List UInt8)) (es : List (Nat × List UInt8)) : List (List Nat) := (AT K P).map (fun i => C7 ((P i).getD [])) ++ (GH K P es).map fun e => C7 e.2
def Ho (size K : Nat) (P : Nat → Option (List UInt8)) (es : List (Nat × List UInt8)) (i : Nat) : List UInt8 := match P i with
 | some p => p
 | none => Cx (Jr (GC K P es) (Bc (Ko K P es) (AX (Ko K P es)) i) (size / 2))
def GV (size K : Nat) (P : Nat → Option (List UInt8)) (es : List (Nat × List UInt8)) : List (List UInt8) := (List.range K).map (Ho size K P es)
def F9 : List DescL → List (List UInt8) → List Ak
 | [], _ => []
 | d :: r, s => (d.name, (s.take d.slices.length).flatten.take d.long) :: F9 r (s.drop d.slices.length)
def DP : List DescL → List Ak → Bool
 | d :: r, f :: l => (AC f.2 == d.hash) && DP r l
 | _, _ => true
def Be (es : List (List UInt8)) : List (Nat × List UInt8) := ((List.range 20).filter fun j => decide (es.getD j [] ≠ [])).map fun j => (j, es.getD j [])
def Eq (fs : List Ak) (s : SetL) (i : Nat) : Option (List UInt8) := AL fs s.size ((AF s.files).getD i 0)
def MV (fs : List Ak) (s : SetL) : List Ak := F9 s.files (GV s.size (AF s.files).length (Eq fs s) (Be s.extra))
def C9 (fs : List Ak) (vs : List (List UInt8)) : List Ak ⊕ Nat := match AH fs vs with
 | .inr n => .inr n
 | .inl l => if l.extra < l.lost then .inr 5 else if DP l.set.files (MV fs l.set) then .inl (MV fs l.set) else .inr 6
theorem QZ (K : Nat) (P : Nat → Option (List UInt8)) (es : List (Nat × List UInt8)) (h : K - (AT K P).length ≤ es.length) : (GH K P es).length = K - (AT K P).length := by
 unfold GH
 rw [List.length_take]
 omega
theorem Gn (K : Nat) (P : Nat → Option (List UInt8)) : (AT K P).length ≤ K := Nat.le_trans (List.length_filter_le _ _) (by simp)
theorem Ks (K : Nat) (P : Nat → Option (List UInt8)) (es : List (Nat × List UInt8)) (h : K - (AT K P).length ≤ es.length) : (Ko K P es).length = K ∧ (GC K P es).length = K := by
 have := QZ K P es h
 have := Gn K P
 unfold Ko GC
 rw [List.length_append, List.length_append, List.length_map, List.length_map, List.length_map]
 omega
theorem Ps (K : Nat) (P : Nat → Option (List UInt8)) (es : List (Nat × List UInt8)) (hK : K ≤ 1000) (he : ∀ e ∈ es, e.1 < 1000) : ∀ x ∈ Ko K P es, x < 65536 := by
 intro x hx
 unfold Ko at hx
 rw [List.mem_append] at hx
 rcases hx with hx | hx
 ·unfold AT at hx
  rw [List.mem_filter, List.mem_range] at hx
  omega
 ·rw [List.mem_map] at hx
  obtain ⟨e, hm, rfl⟩ := hx
  have := he e (List.mem_of_mem_take hm)
  omega
theorem OQ (K : Nat) (P : Nat → Option (List UInt8)) (es : List (Nat × List UInt8)) (he : (es.map (·.1)).Nodup) : (Ko K P es).Nodup := by
 unfold Ko
 rw [List.nodup_append]
 refine ⟨List.nodup_range.filter _, ?_, fun a ha b hb => ?_⟩
 ·have h1 : ((GH K P es).map (·.1)).Nodup := by
   unfold GH
   rw [List.map_take]
   exact he.sublist (List.take_sublist _ _)
  have e : ((GH K P es).map fun e => K + e.1) = ((GH K P es).map (·.1)).map (K + ·) := by rw [List.map_map]; rfl
  rw [e]
  unfold List.Nodup
  rw [List.pairwise_map]
  exact h1.imp (fun hne => by omega)
 ·unfold AT at ha
  rw [List.mem_filter, List.mem_range] at ha
  rw [List.mem_map] at hb
  obtain ⟨e, _, rfl⟩ := hb
  omega
theorem Nq (K size : Nat) (P : Nat → Option (List UInt8)) (es : List (Nat × List UInt8)) (hP : ∀ i p, P i = some p → p.length = size) (he : ∀ e ∈ es, e.2.length = size) : ∀ r ∈ GC K P es, r.length = size / 2 ∧ ∀ x ∈ r, x < 65536 := by
 have hrow : ∀ t : List UInt8, t.length = size → (C7 t).length = size / 2 ∧ ∀ x ∈ C7 t, x < 65536 := by
  intro t ht
  refine ⟨by rw [BK, ht], fun x hx => ?_⟩
  unfold C7 at hx
  rw [List.mem_map] at hx
  obtain ⟨k, _, rfl⟩ := hx
  exact Nl t k
 intro r hr
 unfold GC at hr
 rw [List.mem_append, List.mem_map, List.mem_map] at hr
 rcases hr with ⟨i, hi, rfl⟩ | ⟨e, hm, rfl⟩
 ·unfold AT at hi
  rw [List.mem_filter] at hi
  cases hp : P i with
  | none => rw [hp] at hi; simp at hi
  | some p => exact hrow _ (hP i p hp)
 ·exact hrow _ (he e (List.mem_of_mem_take hm))
theorem LN (size K : Nat) (P : Nat → Option (List UInt8)) (es : List (Nat × List UInt8)) (hev : size % 2 = 0) (hP : ∀ i p, P i = some p → p.length = size) (i : Nat) : (Ho size K P es i).length = size := by
 unfold Ho
 cases hp : P i with
 | some p => exact hP i p hp
 | none =>
  simp only
  rw [EC, Hy]
  omega
theorem JZ {size : Nat} : ∀ (l : List (List UInt8)), (∀ t ∈ l, t.length = size) → l.flatten.length = l.length * size
 | [], _ => by simp
 | t :: r, h => by
  rw [List.flatten_cons, List.length_append, JZ r (fun x hx => h x (List.mem_cons_of_mem _ hx)), h t (List.mem_cons_self ..), List.length_cons, Nat.succ_mul, Nat.add_comm]
end Go.Proofs.YtonjphollmdicaaGreatDoor
