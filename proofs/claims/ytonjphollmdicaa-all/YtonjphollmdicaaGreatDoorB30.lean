import Derived.Test.YtonjphollmdicaaGreatDoorB26
import Derived.Test.YtonjphollmdicaaGreatDoorB28
import Derived.Test.YtonjphollmdicaaGreatDoorB29
set_option maxRecDepth 100000
set_option maxHeartbeats 4000000
set_option linter.unusedSimpArgs false
namespace Go.Proofs.YtonjphollmdicaaGreatDoor
open Go.ChangeShapes Go.WideShapes Go.ChangeAt Go.RowKit
open Go.Maps
def Am (l : List FoundL) (m : MainL) : List FoundL := ER (AZ m) (l.filter (·.kind == 70)) m.files.length
def AU (l : List FoundL) (m : MainL) : List Nat := Ba (A7 m) (l.filter (·.kind == 82)) 20
def AI (fl : List FoundL) : List Nat := fl.flatMap fun f => Ai f.body
def Ci (l : List FoundL) (m : MainL) : Bool := decide ((Am l m).length = m.files.length) && !decide (E9 ((Am l m).map fun f => AW f.body) < (Am l m).length) && decide (1 ≤ (AI (Am l m)).length) && decide ((AI (Am l m)).length ≤ 60)
theorem Dm {B : Nat} {w W : World} (h : Below B w W) {x : Nat} (hx : B ≤ x) (v0 v1 v2 v3 v4 : Value) : Below B w (((((W.setCell ⟨x, 0, none⟩ v0).setCell ⟨x, 1, none⟩ v1).setCell ⟨x, 2, none⟩ v2).setCell ⟨x, 3, none⟩ v3).setCell ⟨x, 4, none⟩ v4) :=
 ((((h.setCell (show B ≤ (⟨x, 0, none⟩ : Addr).block from hx) v0).setCell (show B ≤ (⟨x, 1, none⟩ : Addr).block from hx) v1).setCell (show B ≤ (⟨x, 2, none⟩ : Addr).block from hx) v2).setCell (show B ≤ (⟨x, 3, none⟩ : Addr).block from hx) v3).setCell (show B ≤ (⟨x, 4, none⟩ : Addr).block from hx) v4
def AR : Value := .agg #[.int .i64 0, .slice none 0 0, .int .i64 0, .map none, .slice none 0 0]
def B9 (fs : List Ak) (vs : List (List UInt8)) (w : World) (e : Ending) (w' : World) : Prop := Below w.heap.size w w' ∧
 if BO fs vs = false then e = .returned (.tuple #[AR, .int .i64 1]) else match AV (At vs) with
  | none => e = .returned (.tuple #[AR, .int .i64 3])
  | some f => if Ci (At vs) (Ag f) = false then e = .returned (.tuple #[AR, .int .i64 4]) else
   ∃ (fa : Option Addr) (fc N base : Nat) (ev : Value), w.heap.size ≤ base ∧ base ≤ w'.heap.size ∧ e = .returned (.tuple #[.agg #[.int .i64 (Al f.body : Int), .slice fa (Am (At vs) (Ag f)).length fc, .int .i64 ((AI (Am (At vs) (Ag f))).length : Int), .map (some N), ev], .int .i64 0]) ∧
    FRow w' base fa (Am (At vs) (Ag f)) ∧ (∃ M b, FState w' M N b (AI (Am (At vs) (Ag f))) (AG (Al f.body) fs)) ∧
    (∃ D b0, w'.ownsRow b0 192 2 ev (AU (At vs) (Ag f)).length (CD D (AU (At vs) (Ag f))) ∧ KMap D (A7 (Ag f)) ((At vs).filter (·.kind == 82)) 20 (fun v g => v = DY (Al f.body) g))
theorem Iz (fs : List Ak) (vs : List (List UInt8)) (a b : Option Addr) (ca cb : Nat) (w : World) (hK : Kinds w) (hfa : Rd w a (As fs)) (hvb : Rd w b (AM vs)) :
  Calls Tryz.prog 41 #[.slice a fs.length ca, .slice b vs.length cb] w fun e w' => B9 fs vs w e w' := by
 have hH := Aa (fun W (hW : Below w.heap.size w W) => Hp fs vs a b ca cb W (hfa.later (Nat.le_refl _) hW) (hvb.later (Nat.le_refl _) hW))
 have h0 := hK.lt
 have HFA := Aa hfa
 have HVB := Aa hvb
 have HK := Aa hK
 clear hfa hvb hK
 go_enter Tryz.func41, Tryz.ntmps41
 go_wp2_with fail
 refine (hH.out _ ((Below.refl _ _).alloc (Nat.le_refl _) _)).mono ?_
 rintro e w1 ⟨rfl, hb1⟩
 have hsz1 : w.heap.size + 1 ≤ w1.heap.size := by have := hb1.size; simpa using this
 have hkB : Blk w1 w.heap.size [.int .i64 0, .slice none 0 0, .int .i64 0, .map none, .slice none 0 0] := (Blk.new w #[.int .i64 0, .slice none 0 0, .int .i64 0, .map none, .slice none 0 0] 92).touch (Touch.of_below hb1 []) (by simp)
 have hbw : Below w.heap.size w w1 := Below.trans ((Below.refl _ _).alloc (Nat.le_refl _) _) (hb1.mono (by simp))
 have HBW := Aa hbw
 clear hb1 hbw hH
 cases hha : BO fs vs with
 | false =>
  have HE : Hid (∀ e w', Below w.heap.size w w' → e = .returned (.tuple #[AR, .int .i64 1]) → B9 fs vs w e w') := Aa (fun e w' h1 h2 => ⟨h1, by rw [if_pos hha]; exact h2⟩)
  clear hha
  have b0 := (hkB 0 _ rfl).1
  have b1 := (hkB 1 _ rfl).1
  have b2 := (hkB 2 _ rfl).1
  have b3 := (hkB 3 _ rfl).1
  have b4 := (hkB 4 _ rfl).1
  have z0 := (hkB 0 _ rfl).2
  have z1 := (hkB 1 _ rfl).2
  have z2 := (hkB 2 _ rfl).2
  have z3 := (hkB 3 _ rfl).2
  have z4 := (hkB 4 _ rfl).2
  go_wp2_with fail
  refine bodyPost_ret (v := .tuple #[AR, .int .i64 1]) (by simp [results, Tryz.results41, go_sem, AR, b0, b1, b2, b3, b4]) rfl ?_
  exact HE.out _ _ (Dm HBW.out (Nat.le_refl _) _ _ _ _ _) rfl
 | true =>
  have HKB := Aa hkB
  clear hkB
  have hbnd : fs.length ≤ 12 ∧ vs.length ≤ 40 ∧ (∀ f ∈ fs, f.2.length ≤ 400) ∧ (∀ v ∈ vs, v.length ≤ 4000) := by
   have := hha
   unfold BO at this
   simp only [Bool.and_eq_true, decide_eq_true_eq, List.all_eq_true] at this
   exact ⟨this.1.1.1, this.1.1.2, this.1.2, this.2⟩
  have hRd := Aa (Qu vs b cb hbnd.2.1 hbnd.2.2.2 w1 (HK.out.later HBW.out h0) (HVB.out.later (Nat.le_refl _) HBW.out))
  have HBN := Aa hbnd
  have hQ0 : ∀ e w', B9 fs vs w e w' ↔ (Below w.heap.size w w' ∧ match AV (At vs) with
   | none => e = .returned (.tuple #[AR, .int .i64 3])
   | some f => if Ci (At vs) (Ag f) = false then e = .returned (.tuple #[AR, .int .i64 4]) else
    ∃ (fa : Option Addr) (fc N base : Nat) (ev : Value), w.heap.size ≤ base ∧ base ≤ w'.heap.size ∧ e = .returned (.tuple #[.agg #[.int .i64 (Al f.body : Int), .slice fa (Am (At vs) (Ag f)).length fc, .int .i64 ((AI (Am (At vs) (Ag f))).length : Int), .map (some N), ev], .int .i64 0]) ∧
     FRow w' base fa (Am (At vs) (Ag f)) ∧ (∃ M b, FState w' M N b (AI (Am (At vs) (Ag f))) (AG (Al f.body) fs)) ∧
     (∃ D b0, w'.ownsRow b0 192 2 ev (AU (At vs) (Ag f)).length (CD D (AU (At vs) (Ag f))) ∧ KMap D (A7 (Ag f)) ((At vs).filter (·.kind == 82)) 20 (fun v g => v = DY (Al f.body) g))) := fun e w' => by
   unfold B9
   rw [if_neg (by rw [hha]; simp)]
  have HQ0 := Aa hQ0
  clear hbnd hQ0 hha
  go_wp2_with fail
  refine hRd.out.mono ?_
  rintro e w2 ⟨h, sz, F, E, base, fl, hwb, hbw2, hb2, rfl, hF, hE, hF1, hE1, hF2, hE2, hFE, ⟨fa, fn, fc, rfl⟩, hmain⟩
  clear hRd
  obtain ⟨l, hl⟩ : ∃ l, l = At vs := ⟨_, rfl⟩
  rw [← hl] at hF hE hmain HQ0 ⊢
  have HL := Aa hl
  have hb2' : Below w.heap.size w w2 := HBW.out.trans (hb2.mono (by omega))
  have HB2 := Aa hb2'
  have hkq := HKB.out.touch (Touch.of_below hb2 []) (by simp)
  have hs2 : w1.heap.size ≤ w2.heap.size := hb2.size
  have HKQ := Aa hkq
  clear HBW HKB hb2 hb2' hkq hl
  cases hc : AV l with
  | none =>
   simp only [Option.isSome_none]
   have HE : Hid (∀ e w', Below w.heap.size w w' → e = .returned (.tuple #[AR, .int .i64 3]) → B9 fs vs w e w') := Aa (fun e w' h1 h2 => (HQ0.out e w').2 ⟨h1, by rw [hc]; exact h2⟩)
   have hkq := HKQ.out.alloc (Obj.cells #[.bool false, .int .u64 (h : Int), .int .i64 (sz : Int), .slice fa fn fc, .map (some F), .map (some E)] 132)
   have hbq := HB2.out.alloc (by omega) (Obj.cells #[.bool false, .int .u64 (h : Int), .int .i64 (sz : Int), .slice fa fn fc, .map (some F), .map (some E)] 132)
   have HBQ := Aa hbq
   clear HQ0 hmain hF hE hc hbq
   have b0 := (hkq 0 _ rfl).1
   have b1 := (hkq 1 _ rfl).1
   have b2 := (hkq 2 _ rfl).1
   have b3 := (hkq 3 _ rfl).1
   have b4 := (hkq 4 _ rfl).1
   have z0 := (hkq 0 _ rfl).2
   have z1 := (hkq 1 _ rfl).2
   have z2 := (hkq 2 _ rfl).2
   have z3 := (hkq 3 _ rfl).2
   have z4 := (hkq 4 _ rfl).2
   go_wp2_with fail
   refine bodyPost_ret (v := .tuple #[AR, .int .i64 3]) (by simp [results, Tryz.results41, go_sem, AR, b0, b1, b2, b3, b4]) rfl ?_
   exact HE.out _ _ (Dm HBQ.out (Nat.le_refl _) _ _ _ _ _) rfl
  | some f =>
   simp only [Option.isSome_some]
   obtain ⟨rfl, rfl, hmr⟩ := hmain f hc
   obtain ⟨hfm, hmr0, hn1, hn6, hz2, hz32⟩ := Cu hc
   obtain ⟨a9, c9, e9, _⟩ := AE hmr
   cases e9
   rw [hc] at hF hE
   obtain ⟨cF, DF, hcF, hmF, hkF⟩ := hF
   obtain ⟨cE, DE, hcE, hmE, hkE⟩ := hE
   have hkF : KMap DF (AZ (Ag f)) (l.filter (·.kind == 70)) (Ax f.body).length (IsFile w2 base) := hkF
   have hkE : KMap DE (A7 (Ag f)) (l.filter (·.kind == 82)) 20 (fun v g => v = DY (Al f.body) g) := hkE
   obtain ⟨SO, hSO⟩ : ∃ o, o = Obj.cells #[Value.bool true, .int .u64 (f.set : Int), .int .i64 (Al f.body : Int), .slice fa (Ax f.body).length fc, .map (some F), .map (some E)] 132 := ⟨_, rfl⟩
   have hkS : Blk (w2.alloc SO) w2.heap.size (Bb true f.set (Al f.body) (.slice fa (Ax f.body).length fc) F E) := by rw [hSO]; exact Blk.new w2 _ _
   have ht3 : Touch [] w2 (w2.alloc SO) := (Touch.refl [] w2).alloc SO
   have hFW := Aa (NL w2.heap.size true f.set (Al f.body) fa (Ax f.body).length fc F E cF (Ax f.body).length DF _ _ _ (by omega) (fun v g hv => hv.fi) (w2.alloc SO) hkS (Ar hmF ht3 (by simp)) (hkF.mono (fun v g hv => hv.touch ht3 (by simp))))
   have hB3 : Below w.heap.size w (w2.alloc SO) := HB2.out.alloc (by omega) SO
   have HKQ3 := Aa (HKQ.out.touch ht3 (by simp))
   have HKS := Aa hkS
   have HB3 := Aa hB3
   have HME := Aa (Ar hmE ht3 (by simp))
   have HKE := Aa hkE
   have HKF := Aa (hkF.mono (fun v g hv => hv.touch ht3 (by simp)))
   have hs3 : (w2.alloc SO).heap.size = w2.heap.size + 1 := by simp
   obtain ⟨SB, hSB⟩ : ∃ x, x = w2.heap.size := ⟨_, rfl⟩
   obtain ⟨W3, hW3⟩ : ∃ x, x = w2.alloc SO := ⟨_, rfl⟩
   rw [← hW3] at hFW HKQ3 HKS HB3 HME HKF hs3
   rw [← hSB] at hFW HKS hs3
   have hq : ∀ e w', Below w.heap.size w w' → (if Ci l (Ag f) = false then e = .returned (.tuple #[AR, .int .i64 4]) else
    ∃ (fa : Option Addr) (fc N base : Nat) (ev : Value), w.heap.size ≤ base ∧ base ≤ w'.heap.size ∧ e = .returned (.tuple #[.agg #[.int .i64 (Al f.body : Int), .slice fa (Am l (Ag f)).length fc, .int .i64 ((AI (Am l (Ag f))).length : Int), .map (some N), ev], .int .i64 0]) ∧
     FRow w' base fa (Am l (Ag f)) ∧ (∃ M b, FState w' M N b (AI (Am l (Ag f))) (AG (Al f.body) fs)) ∧
     (∃ D b0, w'.ownsRow b0 192 2 ev (AU l (Ag f)).length (CD D (AU l (Ag f))) ∧ KMap D (A7 (Ag f)) (l.filter (·.kind == 82)) 20 (fun v g => v = DY (Al f.body) g))) → B9 fs vs w e w' := fun e w' h1 h2 => (HQ0.out e w').2 ⟨h1, by rw [hc]; exact h2⟩
   have HQ := Aa hq
   have hsb : w.heap.size + 1 ≤ SB := by omega
   have hbs : base ≤ SB := by omega
   clear hkS hB3 hmE hkE hkF hmF ht3 HQ0 HB2 HKQ hc hfm hmr hcF hcE hq hmain hmr0
   rw [hSO] at hW3
   clear hSO
   go_wp2_with fail
   rw [← hSB, ← hW3]
   refine hFW.out.mono ?_
   rintro e w4 ⟨lv, rfl, hlo, hb4⟩
   clear hFW hW3 hSB
   have hkf4 := HKF.out.mono (fun v g hv => hv.touch (Touch.of_below hb4 []) (by simp))
   obtain ⟨la, lc, rfl, hFR⟩ := Sc hlo hkf4
   rw [← DO] at hlo
   have hla := LW hlo
   rw [← DO]
   have hll : Am l (Ag f) = ER (AZ (Ag f)) (l.filter (·.kind == 70)) (Ax f.body).length := rfl
   rw [← hll] at hFR ⊢
   have hlb : ∀ g ∈ Am l (Ag f), (AW g.body).length ≤ 20 ∧ 1 ≤ (AW g.body).length ∧ Bh g.body ≤ 400 ∧ (Ai g.body).length ≤ 200 ∧ g ∈ l.filter (·.kind == 70) ∧ D9 g.body (Ag f).size = true := fun g hg => LF (m := Ag f) hz2 hg
   have hln : (Am l (Ag f)).length ≤ 6 := by
    rw [hll, DO]
    refine Nat.le_trans ?_ hn6
    unfold Ba
    exact Nat.le_trans (List.length_filter_le _ _) (by simp)
   have hsL : (AI (Am l (Ag f))).length ≤ 200 * (Am l (Ag f)).length := by
    have : ∀ L : List FoundL, (∀ g ∈ L, (Ai g.body).length ≤ 200) → (AI L).length ≤ 200 * L.length := by
     intro L
     induction L with
     | nil => intro _; simp [AI]
     | cons x r ih =>
      intro h
      have h1 := ih (fun g hg => h g (List.mem_cons_of_mem _ hg))
      have h2 := h x (List.mem_cons_self ..)
      unfold AI at h1 ⊢
      rw [List.flatMap_cons, List.length_append, List.length_cons]
      omega
    exact this _ (fun g hg => (hlb g hg).2.2.2.1)
   have hsP : ∀ h ∈ AI (Am l (Ag f)), h < P64 := by
    intro h hh
    obtain ⟨g, _, hg⟩ := List.mem_flatMap.1 hh
    exact NW _ h hg
   have hil : Ci l (Ag f) = (decide ((Am l (Ag f)).length = (Ax f.body).length) && !decide (E9 ((Am l (Ag f)).map fun f => AW f.body) < (Am l (Ag f)).length) && decide (1 ≤ (AI (Am l (Ag f))).length) && decide ((AI (Am l (Ag f))).length ≤ 60)) := rfl
   have hSH := Aa (Hk (Am l (Ag f)) base la lc (by omega) (fun g hg => by have := hlb g hg; omega) w4 hFR)
   have hSN := Aa (fun W (hW : Below w4.heap.size w4 W) => Jh (Am l (Ag f)) base la lc (by omega) (fun g hg => by have := hlb g hg; omega) W (hFR.later hW))
   have hsh : ∀ L : List FoundL, (L.flatMap fun f => Ai f.body) = AI L := fun _ => rfl
   rw [hsh] at hSH
   obtain ⟨L, hL⟩ : ∃ L, L = Am l (Ag f) := ⟨_, rfl⟩
   rw [← hL] at hSH hSN hil hFR hlb hln hsL hsP HQ ⊢
   obtain ⟨HS, hHS⟩ : ∃ x, x = AI L := ⟨_, rfl⟩
   rw [← hHS] at hSH hil hsL hsP HQ
   obtain ⟨sz, hsz⟩ : ∃ x, x = Al f.body := ⟨_, rfl⟩
   rw [← hsz] at HKS HKE hz2 hz32 HQ ⊢
   obtain ⟨fn, hfn⟩ : ∃ x, x = (Ax f.body).length := ⟨_, rfl⟩
   rw [← hfn] at HKS hn1 hn6 hil ⊢
   have ht4 := Touch.of_below hb4 []
   have HKQ4 := Aa (HKQ3.out.touch ht4 (by simp))
   have HKS4 := Aa (HKS.out.touch ht4 (by simp))
   have HME4 := Aa (Ar HME.out ht4 (by simp))
   have HB4 := Aa (HB3.out.trans (hb4.mono (by omega)))
   have hla : ∀ bb off, la = some ⟨bb, off, none⟩ → w.heap.size < bb := fun bb off h => by have := hla bb off h; omega
   have HLA := Aa hla
   clear hla
   have hs4 : SB + 1 ≤ w4.heap.size := by have := hb4.size; omega
   have HLB := Aa hlb
   have HFR := Aa hFR
   have HIL := Aa hil
   have HSP := Aa hsP
   clear hL hHS hsz hfn hb4 ht4 HKQ3 HKS HME HB3 hlb hFR hil hlo hkf4 hll HKF hs3 hsP
   go_wp2_with fail
   refine hSH.out.mono ?_
   rintro e w5 ⟨hv, rfl, hho, hb5⟩
   obtain ⟨ha, hca, rfl, hrh⟩ := AE hho
   have HHO := Aa hho
   have HRH := Aa hrh
   have HKQ5 := Aa (HKQ4.out.touch (Touch.of_below hb5 []) (by simp))
   have HKS5 := Aa (HKS4.out.touch (Touch.of_below hb5 []) (by simp))
   have HME5 := Aa (Ar HME4.out (Touch.of_below hb5 []) (by simp))
   have HB5 := Aa (HB4.out.trans (hb5.mono (by omega)))
   have HB45 := Aa hb5
   have hs5 : w4.heap.size ≤ w5.heap.size := hb5.size
   clear hSH hho hrh HKQ4 HKS4 HME4 HB4 hb5
   by_cases k1 : L.length = fn
   ·subst k1
    go_wp2_with fail
    refine (hSN.out _ HB45.out).mono ?_
    rintro e w6 ⟨rfl, hb6⟩
    have HKQ6 := Aa (HKQ5.out.touch (Touch.of_below hb6 []) (by simp))
    have HKS6 := Aa (HKS5.out.touch (Touch.of_below hb6 []) (by simp))
    have HME6 := Aa (Ar HME5.out (Touch.of_below hb6 []) (by simp))
    have HB6 := Aa (HB5.out.trans (hb6.mono (by omega)))
    have HFR6 := Aa ((HFR.out.later HB45.out).later hb6)
    have HRH6 := Aa (HRH.out.later (Nat.le_refl _) hb6)
    have hs6 : w5.heap.size ≤ w6.heap.size := hb6.size
    obtain ⟨df, hdf⟩ : ∃ x, x = E9 (L.map fun f => AW f.body) := ⟨_, rfl⟩
    rw [← hdf] at HIL ⊢
    clear HKQ5 HKS5 HME5 HB5 HB45 hSN hb6 HFR hdf
    by_cases k2 : df < L.length
    ·have e2 : decide (df < L.length) = true := by simp [k2]
     rw [e2]
     have HE : Hid (∀ e w', Below w.heap.size w w' → e = .returned (.tuple #[AR, .int .i64 4]) → B9 fs vs w e w') := Aa (fun e w' h1 h2 => HQ.out e w' h1 (by rw [if_pos (by rw [HIL.out]; simp [k2])]; exact h2))
     clear e2
     clear HQ HIL HSP HLB HFR6 HKE HHO HRH HME6 HKS6
     have b0 := (HKQ6.out 0 _ rfl).1
     have b1 := (HKQ6.out 1 _ rfl).1
     have b2 := (HKQ6.out 2 _ rfl).1
     have b3 := (HKQ6.out 3 _ rfl).1
     have b4 := (HKQ6.out 4 _ rfl).1
     have z0 := (HKQ6.out 0 _ rfl).2
     have z1 := (HKQ6.out 1 _ rfl).2
     have z2 := (HKQ6.out 2 _ rfl).2
     have z3 := (HKQ6.out 3 _ rfl).2
     have z4 := (HKQ6.out 4 _ rfl).2
     go_wp2_with fail
     refine bodyPost_ret (v := .tuple #[AR, .int .i64 4]) (by simp [results, Tryz.results41, go_sem, AR, b0, b1, b2, b3, b4]) rfl ?_
     exact HE.out _ _ (Dm HB6.out (Nat.le_refl _) _ _ _ _ _) rfl
    ·have e2 : decide (df < L.length) = false := by simp; omega
     rw [e2]
     by_cases k3 : HS.length < 1
     ·have e3 : ((HS.length : Int) < 1) := by omega
      have HE : Hid (∀ e w', Below w.heap.size w w' → e = .returned (.tuple #[AR, .int .i64 4]) → B9 fs vs w e w') := Aa (fun e w' h1 h2 => HQ.out e w' h1 (by rw [if_pos (by rw [HIL.out]; simp; omega)]; exact h2))
      clear HQ HIL HSP HLB HFR6 HKE HHO HRH HME6 HKS6
      have b0 := (HKQ6.out 0 _ rfl).1
      have b1 := (HKQ6.out 1 _ rfl).1
      have b2 := (HKQ6.out 2 _ rfl).1
      have b3 := (HKQ6.out 3 _ rfl).1
      have b4 := (HKQ6.out 4 _ rfl).1
      have z0 := (HKQ6.out 0 _ rfl).2
      have z1 := (HKQ6.out 1 _ rfl).2
      have z2 := (HKQ6.out 2 _ rfl).2
      have z3 := (HKQ6.out 3 _ rfl).2
      have z4 := (HKQ6.out 4 _ rfl).2
      go_wp2_with fail
      refine bodyPost_ret (v := .tuple #[AR, .int .i64 4]) (by simp [results, Tryz.results41, go_sem, AR, b0, b1, b2, b3, b4]) rfl ?_
      exact HE.out _ _ (Dm HB6.out (Nat.le_refl _) _ _ _ _ _) rfl
     ·have e3 : ¬ ((HS.length : Int) < 1) := by omega
      by_cases k4 : 60 < HS.length
      ·have e4 : (60 : Int) < (HS.length : Int) := by omega
       have HE : Hid (∀ e w', Below w.heap.size w w' → e = .returned (.tuple #[AR, .int .i64 4]) → B9 fs vs w e w') := Aa (fun e w' h1 h2 => HQ.out e w' h1 (by rw [if_pos (by rw [HIL.out]; simp; omega)]; exact h2))
       clear HQ HIL HSP HLB HFR6 HKE HHO HRH HME6 HKS6
       have b0 := (HKQ6.out 0 _ rfl).1
       have b1 := (HKQ6.out 1 _ rfl).1
       have b2 := (HKQ6.out 2 _ rfl).1
       have b3 := (HKQ6.out 3 _ rfl).1
       have b4 := (HKQ6.out 4 _ rfl).1
       have z0 := (HKQ6.out 0 _ rfl).2
       have z1 := (HKQ6.out 1 _ rfl).2
       have z2 := (HKQ6.out 2 _ rfl).2
       have z3 := (HKQ6.out 3 _ rfl).2
       have z4 := (HKQ6.out 4 _ rfl).2
       go_wp2_with fail
       refine bodyPost_ret (v := .tuple #[AR, .int .i64 4]) (by simp [results, Tryz.results41, go_sem, AR, b0, b1, b2, b3, b4]) rfl ?_
       exact HE.out _ _ (Dm HB6.out (Nat.le_refl _) _ _ _ _ _) rfl
      ·have e4 : ¬ (60 : Int) < (HS.length : Int) := by omega
       have HOK := Aa (show Ci l (Ag f) = true from by rw [HIL.out]; simp; omega)
       have hSZ := Aa (PQ SB true f.set sz (.slice fa L.length fc) F E w6 HKS6.out)
       have hFI := Aa (PA fs sz HS a ha ca hca hz2 hz32 HBN.out.1 HBN.out.2.2.1 (by omega) HSP.out w6 (HFA.out.later (Nat.le_refl _) HB6.out) HRH6.out)
       have hEX := Aa (fun W (hW : Below w6.heap.size w6 W) => MG SB true f.set sz (.slice fa L.length fc) F E cE 20 DE _ _ _ (by omega) (fun v g hv => ⟨_, _, hv⟩) W (HKS6.out.touch (Touch.of_below hW []) (by simp)) (Ar HME6.out (Touch.of_below hW []) (by simp)) HKE.out)
       clear HIL HKS6 HME6 HLB HSP HRH HRH6 HHO
       go_wp2_with fail
       refine hSZ.out.mono ?_
       rintro e w' ⟨rfl, hw'⟩
       have hw' := hw'.symm
       subst hw'
       go_wp2_with fail
       refine hSZ.out.mono ?_
       rintro e w' ⟨rfl, hw'⟩
       have hw' := hw'.symm
       subst hw'
       go_wp2_with fail
       refine hFI.out.mono ?_
       rintro e w7 ⟨N, rfl, hN7, hst7, hb7⟩
       have HST7 := Aa hst7
       have HB67 := Aa hb7
       clear hSZ hFI hst7 hb7
       go_wp2_with fail
       refine (hEX.out _ HB67.out).mono ?_
       rintro e w8 ⟨ev, rfl, hev, hb8⟩
       obtain ⟨ea, ec, rfl, _⟩ := AE hev
       have hb68 := HB67.out.trans (hb8.mono HB67.out.size)
       have hs8 : w6.heap.size ≤ w8.heap.size := hb68.size
       have HB8 := Aa (HB6.out.trans (hb68.mono (by omega)))
       have HKQ8 := Aa (HKQ6.out.touch (Touch.of_below hb68 []) (by simp))
       have HFR8 := Aa (HFR6.out.later hb68)
       have HST8 := Aa (HST7.out.touch (Touch.of_below hb8 []))
       have hw7 : w6.heap.size ≤ w7.heap.size := HB67.out.size
       have HEV := Aa hev
       have hfin : ∀ X : World, X = (((((w8.setCell ⟨w.heap.size, 0, none⟩ (.int .i64 (sz : Int))).setCell ⟨w.heap.size, 1, none⟩ (.slice la L.length lc)).setCell ⟨w.heap.size, 2, none⟩ (.int .i64 (HS.length : Int))).setCell ⟨w.heap.size, 3, none⟩ (.map (some N))).setCell ⟨w.heap.size, 4, none⟩ (.slice ea (AU l (Ag f)).length ec)) → B9 fs vs w (.returned (.tuple #[.agg #[.int .i64 (sz : Int), .slice la L.length lc, .int .i64 (HS.length : Int), .map (some N), .slice ea (AU l (Ag f)).length ec], .int .i64 0])) X := by
        rintro X rfl
        have ht := (((((Touch.refl [w.heap.size] w8).setCell (x := ⟨w.heap.size, 0, none⟩) (.inl (by simp)) (.int .i64 (sz : Int))).setCell (x := ⟨w.heap.size, 1, none⟩) (.inl (by simp)) (.slice la L.length lc)).setCell (x := ⟨w.heap.size, 2, none⟩) (.inl (by simp)) (.int .i64 (HS.length : Int))).setCell (x := ⟨w.heap.size, 3, none⟩) (.inl (by simp)) (.map (some N))).setCell (x := ⟨w.heap.size, 4, none⟩) (.inl (by simp)) (.slice ea (AU l (Ag f)).length ec)
        refine HQ.out _ _ (Dm HB8.out (Nat.le_refl _) _ _ _ _ _) ?_
        rw [if_neg (by rw [HOK.out]; simp)]
        refine ⟨la, lc, N, base, _, by omega, by have := ht.size; omega, rfl, HFR8.out.touch ht (fun bb off h => by have := HLA.out bb off h; simp; omega) (by simp; omega), ⟨_, _, HST8.out.touch' ht (by simp; omega) (by simp; omega) (by simp; omega)⟩, ⟨DE, _, Ac HEV.out ht (by simp; omega), HKE.out⟩⟩
       have HFIN := Aa hfin
       clear hfin hev hb8 hb68 HST7 HST8 HB67 hEX HFR6 HFR8 HB8 HKQ6 HB6 HEV HQ HOK HKE HLA
       have hkeys : (Ba (A7 (Ag f)) (l.filter (·.kind == 82)) 20).length = (AU l (Ag f)).length := rfl
       simp only [hkeys]
       have b0 := (HKQ8.out 0 _ rfl).1
       have b1 := (HKQ8.out 1 _ rfl).1
       have b2 := (HKQ8.out 2 _ rfl).1
       have b3 := (HKQ8.out 3 _ rfl).1
       have b4 := (HKQ8.out 4 _ rfl).1
       have z0 := (HKQ8.out 0 _ rfl).2
       have z1 := (HKQ8.out 1 _ rfl).2
       have z2 := (HKQ8.out 2 _ rfl).2
       have z3 := (HKQ8.out 3 _ rfl).2
       have z4 := (HKQ8.out 4 _ rfl).2
       go_wp2_with fail
       refine bodyPost_ret (v := .tuple #[.agg #[.int .i64 (sz : Int), .slice la L.length lc, .int .i64 (HS.length : Int), .map (some N), .slice ea (AU l (Ag f)).length ec], .int .i64 0]) (by simp [results, Tryz.results41, go_sem, b0, b1, b2, b3, b4]) rfl ?_
       exact HFIN.out _ rfl
   ·have HE : Hid (∀ e w', Below w.heap.size w w' → e = .returned (.tuple #[AR, .int .i64 4]) → B9 fs vs w e w') := Aa (fun e w' h1 h2 => HQ.out e w' h1 (by rw [if_pos (by rw [HIL.out]; simp [k1])]; exact h2))
    clear HQ HIL HSP HLB HFR HKE hSN HHO HRH HME5 HKS5
    have b0 := (HKQ5.out 0 _ rfl).1
    have b1 := (HKQ5.out 1 _ rfl).1
    have b2 := (HKQ5.out 2 _ rfl).1
    have b3 := (HKQ5.out 3 _ rfl).1
    have b4 := (HKQ5.out 4 _ rfl).1
    have z0 := (HKQ5.out 0 _ rfl).2
    have z1 := (HKQ5.out 1 _ rfl).2
    have z2 := (HKQ5.out 2 _ rfl).2
    have z3 := (HKQ5.out 3 _ rfl).2
    have z4 := (HKQ5.out 4 _ rfl).2
    go_wp2_with fail
    refine bodyPost_ret (v := .tuple #[AR, .int .i64 4]) (by simp [results, Tryz.results41, go_sem, AR, b0, b1, b2, b3, b4]) rfl ?_
    exact HE.out _ _ (Dm HB5.out (Nat.le_refl _) _ _ _ _ _) rfl
end Go.Proofs.YtonjphollmdicaaGreatDoor
namespace Go.Proofs.YtonjphollmdicaaGreatDoor
open Go.ChangeShapes Go.WideShapes Go.ChangeAt Go.RowKit
open Go.Maps
def Kq (Q : List (List UInt8)) (hs : List Nat) : List Bool := hs.map fun h => (BV Q h).isSome
def Dr (Q : List (List UInt8)) (hs : List Nat) : Nat := ((List.range hs.length).filter fun i => (BV Q (hs.getD i 0)).isSome).length
theorem QN {i j : Nat} (h : Bo i = Bo j) : i = j := by
 by_cases c : i = j
 ·exact c
 ·exact absurd h (GD c)
theorem Lv {k : Lit} (h : WideAt.IsKeyLit k) : k.sameKey k = true := by
 cases k <;> simp_all [WideAt.IsKeyLit, Lit.sameKey]
structure FoundM (W : World) (N c : Nat) (D : DataW Value) (hs : List Nat) (Q : List (List UInt8)) : Prop where
 own : W.ownsMap Tryz.prog 3 CK N c D
 at' : ∀ i, i < hs.length → atM D (Bo i) = (BV Q (hs.getD i 0)).map fun p => .agg #[.string (str p)]
 keys : ∀ kl, Maps.has D kl = true → ∃ i, i < hs.length ∧ kl = Bo i
theorem FoundM.has {W : World} {N c : Nat} {D : DataW Value} {hs : List Nat} {Q : List (List UInt8)} (h : FoundM W N c D hs Q) (hn : hs.length ≤ 1000) (i : Nat) (hi : i < hs.length) : Maps.has D (Bo i) = (BV Q (hs.getD i 0)).isSome := by
 rw [(GO h.own Tryz.lawInt Tryz.underlying89 (Tryz.zeroPiece W) (Di i (by omega))).1, h.at' i hi]
 simp
theorem FoundM.size {W : World} {N c : Nat} {D : DataW Value} {hs : List Nat} {Q : List (List UInt8)} (h : FoundM W N c D hs Q) (hn : hs.length ≤ 1000) : Maps.size D = Dr Q hs := by
 have hh := h.has hn
 obtain ⟨es, rfl, hp, hk⟩ := h.own.entries Tryz.lawInt
 have hkeys := h.keys
 have n1 : (es.map (·.1)).Nodup := by
  rw [List.Nodup, List.pairwise_map]
  exact hp
 have n2 : (((List.range hs.length).filter fun i => (BV Q (hs.getD i 0)).isSome).map Bo).Nodup := by
  rw [List.Nodup, List.pairwise_map]
  exact (List.nodup_range.filter _).imp (fun hne e => hne (QN e))
 have hperm := (List.perm_ext_iff_of_nodup n1 n2).2 (fun kl => ?_)
 ·have := hperm.length_eq
  rw [List.length_map, List.length_map] at this
  rw [Maps.size_eq, this]
  rfl
 ·constructor
  ·intro hm
   obtain ⟨p, hp1, rfl⟩ := List.mem_map.1 hm
   have hhas : Maps.has (DataW.map es) p.1 = true := by
    rw [Maps.has_eq, List.any_eq_true]
    exact ⟨p, hp1, Lv (hk p hp1)⟩
   obtain ⟨i, hi, e⟩ := hkeys _ hhas
   rw [e] at hhas ⊢
   refine List.mem_map.2 ⟨i, ?_, rfl⟩
   rw [List.mem_filter, List.mem_range]
   exact ⟨hi, by rw [← hh i hi]; exact hhas⟩
  ·intro hm
   obtain ⟨i, hi, rfl⟩ := List.mem_map.1 hm
   rw [List.mem_filter, List.mem_range] at hi
   have hhas := hh i hi.1
   rw [hi.2, Maps.has_eq, List.any_eq_true] at hhas
   obtain ⟨p, hp1, hs⟩ := hhas
   by_cases c : p.1 = Bo i
   ·exact List.mem_map.2 ⟨p, hp1, c⟩
   ·rw [Maps.sameKey_ne c] at hs
    cases hs
theorem Rt (Q : List (List UInt8)) (hs : List Nat) : Dr Q hs ≤ hs.length := by
 unfold Dr
 exact Nat.le_trans (List.length_filter_le _ _) (by simp)
theorem IQ (sz : Int) (fv ev : Value) (N c : Nat) (D : DataW Value) (hs : List Nat) (Q : List (List UInt8)) (hn : hs.length ≤ 1000) (w : World) (hF : FoundM w N c D hs Q) :
  Calls Tryz.prog 84 #[.agg #[.int .i64 sz, fv, .int .i64 (hs.length : Int), .map (some N), ev]] w fun e w' => e = .returned (.int .i64 ((hs.length - Dr Q hs : Nat) : Int)) ∧ Below w.heap.size w w' := by
 have hl := fun o => (hF.own.alloc o).len (ty := 3) Tryz.underlying89
 rw [hF.size hn] at hl
 have hle := Rt Q hs
 obtain ⟨m, hm⟩ : ∃ m, m = Dr Q hs := ⟨_, rfl⟩
 rw [← hm] at hl hle ⊢
 have ws : IntKind.i64.wrap ((hs.length : Int) - (m : Int)) = ((hs.length - m : Nat) : Int) := by rw [IntKind.wrap_i64]; omega
 clear hF hm
 go_enter Tryz.func84, Tryz.ntmps84
 go_wp2_with fail
 go_ret
 exact ⟨rfl, (Below.refl _ _).alloc (Nat.le_refl _) _⟩
end Go.Proofs.YtonjphollmdicaaGreatDoor
