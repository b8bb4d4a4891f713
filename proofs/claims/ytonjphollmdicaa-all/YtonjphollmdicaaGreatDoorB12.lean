import Derived.Test.YtonjphollmdicaaGreatDoorB08
import Derived.Test.YtonjphollmdicaaGreatDoorB11
set_option maxRecDepth 100000
set_option maxHeartbeats 4000000
set_option linter.unusedSimpArgs false
namespace Go.Proofs.YtonjphollmdicaaGreatDoor
open Math
theorem By {n : Nat} (h : n < 65536) : (F.ofNat n).1 = n := Nat.mod_eq_of_lt h
theorem Es {a b : Nat} (ha : a < 65536) (hb : b < 65536) : F.ofNat (a ^^^ b) = F.ofNat a + F.ofNat b :=
 F.ext (by rw [F.val_add, By ha, By hb, By (DI ha hb)])
theorem Cl {a b : Nat} (ha : a < 65536) (hb : b < 65536) : F.ofNat (Math.mul a b) = F.ofNat a * F.ofNat b :=
 F.ext (by rw [F.val_mul, By ha, By hb, By (Math.mul_lt ha b)])
theorem Px {a : Nat} (ha : a < 65536) : F.ofNat (Math.inv a) = F.inv (F.ofNat a) :=
 F.ext (by rw [F.val_inv, By ha, By (Math.inv_lt ha)])
theorem E8 {c : List (List Nat)} (h : ∀ r ∈ c, ∀ x ∈ r, x < 65536) (j : Nat) : ∀ x ∈ c.getD j [], x < 65536 := by
 rw [List.getD_eq_getElem?_getD]
 cases e : c[j]? with
 | none => intro x hx; simp at hx
 | some r => exact h r (List.mem_of_getElem? e)
theorem Sf (rows : List (List Nat)) (ws : List Nat) (hw : ∀ x ∈ ws, x < 65536) (hr : ∀ r ∈ rows, ∀ x ∈ r, x < 65536) (p : Nat) :
  ∀ k, F.ofNat (FH rows ws k p) = Fx (fun i => F.ofNat (ws.getD i 0) * F.ofNat ((rows.getD i []).getD p 0)) k := by
 intro k
 induction k with
 | zero => rfl
 | succ k ih =>
  have hx := AO (E8 hr k) p
  rw [Lq, Es (Kb hw k p) (Math.mul_lt (AO hw k) _), Cl (AO hw k) hx, ih]
  rfl
theorem KJ (t : Nat) (ht : t < 65536) : ∀ l : List Nat, (∀ x ∈ l, x < 65536) → ∀ x, x < 65536 →
  l.foldr (fun p a => Math.mul a (t ^^^ p)) x < 65536 ∧ F.ofNat (l.foldr (fun p a => Math.mul a (t ^^^ p)) x) = F.ofNat (l.foldr (fun p a => Math.mul a (t ^^^ p)) 1) * F.ofNat x := by
 intro l
 induction l with
 | nil => intro _ x hx; exact ⟨hx, by rw [List.foldr_nil, List.foldr_nil]; exact (F.one_mul _).symm⟩
 | cons p l ih =>
  intro hl x hx
  have h1 := ih (fun y hy => hl y (List.mem_cons_of_mem _ hy)) x hx
  have h2 := ih (fun y hy => hl y (List.mem_cons_of_mem _ hy)) 1 (by decide)
  have h3 : t ^^^ p < 65536 := DI ht (hl p (by simp))
  simp only [List.foldr_cons]
  refine ⟨Math.mul_lt h1.1 _, ?_⟩
  rw [Cl h1.1 h3, Cl h2.1 h3, h1.2]
  ac_rfl
def qt (pts : List Nat) (i : Nat) : F := F.ofNat (pts.getD i 0)
theorem GR {l : List Nat} {i : Nat} (h : i < l.length) : l.getD i 0 = l[i] := by simp [h]
theorem QI (pts : List Nat) (t : Nat) (ht : t < 65536) (hp : ∀ x ∈ pts, x < 65536) : ∀ i, i ≤ pts.length → F.ofNat (Eg pts t i) = CU (fun j => F.ofNat t + qt pts j) i ∧ Eg pts t i < 65536 := by
 intro i
 induction i with
 | zero => intro _; exact ⟨rfl, show (1 : Nat) < 65536 from by decide⟩
 | succ i ih =>
  intro hi
  obtain ⟨h1, h2⟩ := ih (by omega)
  have hx := hp _ (List.getElem_mem (show i < pts.length by omega))
  have e : Eg pts t (i + 1) = Math.mul (Eg pts t i) (t ^^^ pts[i]) := by
   unfold Eg
   rw [Ao pts i (by omega), List.foldl_append]
   rfl
  have h3 : t ^^^ pts[i] < 65536 := DI ht hx
  rw [e]
  refine ⟨?_, Math.mul_lt h2 _⟩
  rw [Cl h2 h3, h1, Es ht hx]
  simp only [CU]
  unfold qt
  rw [GR (by omega)]
theorem R7 (pts : List Nat) (t : Nat) (ht : t < 65536) (hp : ∀ x ∈ pts, x < 65536) (i : Nat) : ∀ n, i < n → n ≤ pts.length →
  CU (F0 (qt pts) i (F.ofNat t)) n = CU (fun j => F.ofNat t + qt pts j) i * F.ofNat (((pts.take n).drop (i + 1)).foldr (fun p a => Math.mul a (t ^^^ p)) 1) := by
 intro n
 induction n with
 | zero => intro h; omega
 | succ n ih =>
  intro hi hn
  simp only [CU]
  by_cases e : i = n
  ·subst e
   have h1 : ∀ m, m ≤ i → CU (F0 (qt pts) i (F.ofNat t)) m = CU (fun j => F.ofNat t + qt pts j) m := by
    intro m
    induction m with
    | zero => intro _; rfl
    | succ m ihm =>
     intro hm
     simp only [CU]
     rw [ihm (by omega)]
     congr 1
     unfold F0
     rw [if_neg (by omega)]
   rw [h1 i (Nat.le_refl _), List.drop_eq_nil_of_le (by simp; omega)]
   congr 1
   unfold F0
   rw [if_pos rfl]
   rfl
  ·have hb : (pts.take (n + 1)).drop (i + 1) = (pts.take n).drop (i + 1) ++ [pts[n]] := by
    rw [Ao pts n (by omega), List.drop_append_of_le_length (by simp; omega)]
   have hl : ∀ x ∈ (pts.take n).drop (i + 1), x < 65536 := fun x hx => hp x (List.mem_of_mem_take (List.mem_of_mem_drop hx))
   have hx := hp _ (List.getElem_mem (show n < pts.length by omega))
   have h3 : t ^^^ pts[n] < 65536 := DI ht hx
   rw [ih (by omega) (by omega), hb, List.foldr_append, List.foldr_cons, List.foldr_nil]
   rw [(KJ t ht _ hl (Math.mul 1 (t ^^^ pts[n])) (Math.mul_lt (by decide) _)).2, Math.one_mul h3, Es ht hx]
   unfold F0
   rw [if_neg (fun h => e h.symm), F.mul_assoc]
   unfold qt
   rw [GR (show n < pts.length by omega)]
theorem RH (pts : List Nat) (hp : ∀ x ∈ pts, x < 65536) (i : Nat) : F.ofNat (Mf pts i) = CU (F0 (qt pts) i (qt pts i)) pts.length ∧ Mf pts i < 65536 := by
 have h : ∀ n, n ≤ pts.length → F.ofNat ((List.range n).foldl (Cq pts i) 1) = CU (F0 (qt pts) i (qt pts i)) n ∧ (List.range n).foldl (Cq pts i) 1 < 65536 := by
  intro n
  induction n with
  | zero => intro _; exact ⟨rfl, show (1 : Nat) < 65536 from by decide⟩
  | succ n ih =>
   intro hn
   obtain ⟨h1, h2⟩ := ih (by omega)
   rw [List.range_succ, List.foldl_append, List.foldl_cons, List.foldl_nil]
   simp only [CU]
   generalize (List.range n).foldl (Cq pts i) 1 = x at h1 h2 ⊢
   generalize CU (F0 (qt pts) i (qt pts i)) n = y at h1 ⊢
   unfold Cq
   by_cases e : n = i
   ·rw [if_pos e]
    refine ⟨?_, h2⟩
    unfold F0
    rw [if_pos e, F.mul_one]
    exact h1
   ·have h3 : pts.getD i 0 ^^^ pts.getD n 0 < 65536 := DI (AO hp i) (AO hp n)
    rw [if_neg e]
    refine ⟨?_, Math.mul_lt h2 _⟩
    unfold F0
    rw [if_neg e, Cl h2 h3, Es (AO hp i) (AO hp n)]
    rw [h1]
    rfl
 exact h pts.length (Nat.le_refl _)
theorem OT (pts : List Nat) (hp : ∀ x ∈ pts, x < 65536) (t i : Nat) (ht : t < 65536) (hi : i < pts.length) :
  F.ofNat ((Bb pts (AW pts) t).getD i 0) = F.inv (CU (F0 (qt pts) i (qt pts i)) pts.length) * CU (F0 (qt pts) i (F.ofNat t)) pts.length := by
 have e : (Bb pts (AW pts) t).getD i 0 = CB pts (AW pts) t i := by
  unfold Bb
  simp [hi]
 have es : (AW pts).getD i 0 = Math.inv (Mf pts i) := by
  unfold AW Ff
  simp [hi]
 obtain ⟨h1, h2⟩ := RH pts hp i
 obtain ⟨h3, h4⟩ := QI pts t ht hp i (by omega)
 have hbl : ∀ x ∈ pts.drop (i + 1), x < 65536 := fun x hx => hp x (List.mem_of_mem_drop hx)
 have h5 := (KJ t ht (pts.drop (i + 1)) hbl 1 (by decide)).1
 rw [e]
 unfold CB B9
 rw [es, Cl (Math.mul_lt (Math.inv_lt h2) _) (show Dq pts t (i + 1) < 65536 from h5), Cl (Math.inv_lt h2) h4, Px h2, h1, h3, F.mul_assoc]
 congr 1
 have := R7 pts t ht hp i pts.length hi (Nat.le_refl _)
 rw [List.take_of_length_le (Nat.le_refl _)] at this
 exact this.symm
theorem Sy {pts : List Nat} (hnd : pts.Nodup) (hp : ∀ x ∈ pts, x < 65536) : ∀ i j, i < pts.length → j < pts.length → qt pts i = qt pts j → i = j := by
 intro i j hi hj h
 have := congrArg Subtype.val h
 unfold qt at this
 rw [By (AO hp i), By (AO hp j), GR hi, GR hj] at this
 exact (List.getElem_inj hnd).1 this
theorem Rg (pts : List Nat) (rows : List (List Nat)) (width t p : Nat) (hnd : pts.Nodup) (hp : ∀ x ∈ pts, x < 65536) (ht : t < 65536) (hl : rows.length = pts.length) (hr : ∀ r ∈ rows, ∀ x ∈ r, x < 65536) (hpw : p < width)
  (cs : List F) (hcs : cs.length = pts.length) (hsol : ∀ i, i < pts.length → ev cs (qt pts i) = F.ofNat ((rows.getD i []).getD p 0)) :
  F.ofNat ((Jx rows (Bb pts (AW pts) t) width).getD p 0) = ev cs (F.ofNat t) := by
 have hws := DN pts (AW pts) t (Dv pts)
 have a2 : (Jx rows (Bb pts (AW pts) t) width).getD p 0 = FH rows (Bb pts (AW pts) t) rows.length p := by simp [Jx, hpw]
 rw [a2, Sf rows _ hws hr p rows.length, Rk pts.length (qt pts) (Sy hnd hp) cs hcs (F.ofNat t), hl]
 exact BH pts.length (fun i hi => by rw [OT pts hp t i ht hi, hsol i hi])
theorem Se {a b : List Nat} (h : a.length = b.length) (ha : ∀ x ∈ a, x < 65536) (hb : ∀ x ∈ b, x < 65536) (hp : ∀ p, p < b.length → F.ofNat (a.getD p 0) = F.ofNat (b.getD p 0)) : a = b := by
 refine List.ext_getElem h (fun p h1 h2 => ?_)
 have := congrArg Subtype.val (hp p h2)
 rw [By (AO ha p), By (AO hb p), GR h1, GR h2] at this
 exact this
theorem Il (rows : List (List Nat)) (ws : List Nat) (width : Nat) : (Jx rows ws width).length = width := by simp [Jx]
theorem RC (rows : List (List Nat)) {ws : List Nat} (hw : ∀ x ∈ ws, x < 65536) (width : Nat) : ∀ x ∈ Jx rows ws width, x < 65536 := by
 intro x hx
 unfold Jx at hx
 rw [List.mem_map] at hx
 obtain ⟨p, _, rfl⟩ := hx
 exact Kb hw _ _
end Go.Proofs.YtonjphollmdicaaGreatDoor
namespace Go.Proofs.YtonjphollmdicaaGreatDoor
open Go.ChangeShapes Go.WideShapes Go.ChangeAt Go.RowKit
def BD (r : List Nat) (b : Nat) : List Nat := (List.range r.length).map fun j => Math.mul (r.getD j 0) b
def D7 (r m : List Nat) (b : Nat) : List Nat := (List.range r.length).map fun j => r.getD j 0 ^^^ Math.mul (m.getD j 0) b
theorem Ik (r : List Nat) : (List.range r.length).map (fun j => r.getD j 0) = r := by
 apply List.ext_getElem
 ·simp
 ·intro j h1 h2
  simp at h1
  simp [h1]
theorem BN (r : List Nat) (b : Nat) : (BD r b).length = r.length := by simp [BD]
theorem Ei (r m : List Nat) (b : Nat) : (D7 r m b).length = r.length := by simp [D7]
def Row (w : World) (base g cap : Nat) (r : List Nat) : Prop := w.ownsRow base 80 1 (.slice (some ⟨g, 0, none⟩) r.length cap) r.length (A8 r)
theorem CR (w : World) (a : Addr) (u : Value) : w.grownBy (w.setCell a u) (some a.block) :=
 ⟨rfl, rfl, rfl, Nat.le_of_eq (World.size_setCell _ _ _).symm, fun k hk hne => Below.heap_setCell w a u k (fun e => hne (by rw [e]))⟩
theorem FY (r : List Nat) (b : Nat) (base g cap : Nat) (w : World) (hown : Row w base g cap r) (hr : r.length ≤ 1000) (hx : ∀ x ∈ r, x < 65536) (hby : b < 65536) :
  Calls Tryz.prog 106 #[.slice (some ⟨g, 0, none⟩) r.length cap, .int .u16 (b : Int)] w fun e w' => e = .returned (.tuple #[]) ∧ Row w' base g cap (BD r b) ∧ w.grownBy w' (some g) := by
 obtain ⟨n, hn⟩ : ∃ n, n = r.length := ⟨_, rfl⟩
 unfold Row at hown ⊢
 rw [BN, ← hn]
 rw [← hn] at hown hr
 have hr0 : r = Bx n 0 (fun j => Math.mul (r.getD j 0) b) (fun j => r.getD j 0) := by rw [Dn, hn, Ik]
 have hfull : BD r b = Bx n n (fun j => Math.mul (r.getD j 0) b) (fun j => r.getD j 0) := by rw [Do, BD, hn]
 rw [hfull]
 have HX := Aa (fun j => AO hx j)
 obtain ⟨f, hf⟩ : ∃ f : Nat → Nat, f = fun j => r.getD j 0 := ⟨_, rfl⟩
 rw [show (fun j => Math.mul (r.getD j 0) b) = fun j => Math.mul (f j) b from by rw [hf], ← hf] at hr0 ⊢
 have HX2 : Hid (∀ j, f j < 65536) := Aa (by rw [hf]; exact HX.out)
 rw [hr0] at hown
 clear hx HX hf hr0 hfull hn
 obtain ⟨h, hh⟩ : ∃ h : Nat → Nat, h = fun j => Math.mul (f j) b := ⟨_, rfl⟩
 rw [← hh] at hown ⊢
 have HH : Hid (∀ j, h j = Math.mul (f j) b) := Aa (by intro j; rw [hh])
 clear hh
 go_enter Tryz.func106, Tryz.ntmps106
 go_wp2_with fail
 go_loopw [4] (fun i wr => ∃ k : Nat, k ≤ n ∧ i = .int .i64 (k : Int) ∧ wr.ownsRow base 80 1 (.slice (some ⟨g, 0, none⟩) n cap) n (A8 (Bx n k h f)) ∧ w.grownBy wr (some g))
  (fun i _ => n - (intOf i).toNat)
 case atStart => exact ⟨0, by omega, rfl, hown, ⟨rfl, rfl, rfl, Nat.le_refl _, fun _ _ _ => rfl⟩⟩
 case round =>
  obtain ⟨k, hk, rfl, hownr, hgr⟩ := hrel
  by_cases hlt : k < n
  ·have hc : wr.cell? ⟨g, k, none⟩ = some (.int .u16 ((f k : Nat) : Int)) := by
    rw [hownr.cellAt k (by omega)]
    have := EA n k h f k hlt
    rw [if_neg (by omega)] at this
    rw [← this]
    simp [A8, Bu, hlt]
   have hfz := hownr.frozenAt k
   have hst := (hownr.stored k (.int .u16 ((h k : Nat) : Int))).1
   have hown' : (wr.setCell ⟨g, k, none⟩ (.int .u16 ((h k : Nat) : Int))).ownsRow base 80 1 (.slice (some ⟨g, 0, none⟩) n cap) n (A8 (Bx n (k + 1) h f)) := by
    rw [← FA]
    have e : A8 ((Bx n k h f).set k (h k)) = (A8 (Bx n k h f)).set k (.int .u16 ((h k : Nat) : Int)) := by simp [A8, List.map_set]
    rw [e]; exact hst
   have hG := hgr.trans (CR wr ⟨g, k, none⟩ (.int .u16 ((h k : Nat) : Int)))
   have hfl := HX2.out k
   rw [HH.out k] at hG
   have HO := Aa hown'
   have HG := Aa hG
   rw [HH.out k] at HO
   obtain ⟨x, hxe⟩ : ∃ x, x = f k := ⟨_, rfl⟩
   rw [← hxe] at hc hfl HO HG
   have HO0 := Aa hown
   clear hst hown' hG hownr hgr hxe hown
   go_wp2_with fail
   refine (CI x b hfl hby wr).mono ?_
   rintro e w' ⟨rfl, rfl⟩
   go_wp2_with fail
   exact ⟨⟨k + 1, by omega, by go_num, HO.out, HG.out⟩, by simp [intOf]; omega⟩
  ·obtain rfl : k = n := by omega
   have HO := Aa hownr
   have HG := Aa hgr
   clear hownr hgr hown
   go_wp2_with fail
   go_end0
   exact ⟨rfl, HO.out, HG.out⟩
theorem IB (r m : List Nat) (b : Nat) (base g cap : Nat) (a : Option Addr) (nm cap' : Nat) (w : World) (hown : Row w base g cap r) (hr : r.length ≤ 1000) (hx : ∀ x ∈ r, x < 65536) (hby : b < 65536)
  (hm : m.length = nm) (hlen : r.length ≤ nm) (hrd : Rd w a (A8 m)) (hap : ∀ c, a = some c → c.block ≠ g) (hmx : ∀ x ∈ m, x < 65536) :
  Calls Tryz.prog 107 #[.slice (some ⟨g, 0, none⟩) r.length cap, .slice a nm cap', .int .u16 (b : Int)] w fun e w' => e = .returned (.tuple #[]) ∧ Row w' base g cap (D7 r m b) ∧ w.grownBy w' (some g) := by
 obtain ⟨n, hn⟩ : ∃ n, n = r.length := ⟨_, rfl⟩
 unfold Row at hown ⊢
 rw [Ei, ← hn]
 rw [← hn] at hown hr hlen
 have hr0 : r = Bx n 0 (fun j => r.getD j 0 ^^^ Math.mul (m.getD j 0) b) (fun j => r.getD j 0) := by rw [Dn, hn, Ik]
 have hfull : D7 r m b = Bx n n (fun j => r.getD j 0 ^^^ Math.mul (m.getD j 0) b) (fun j => r.getD j 0) := by rw [Do, D7, hn]
 rw [hfull]
 have HX := Aa (fun j => AO hx j)
 have HMX := Aa (fun j => AO hmx j)
 obtain ⟨f, hf⟩ : ∃ f : Nat → Nat, f = fun j => r.getD j 0 := ⟨_, rfl⟩
 rw [show (fun j => r.getD j 0 ^^^ Math.mul (m.getD j 0) b) = fun j => f j ^^^ Math.mul (m.getD j 0) b from by rw [hf], ← hf] at hr0 ⊢
 have HX2 : Hid (∀ j, f j < 65536) := Aa (by rw [hf]; exact HX.out)
 rw [hr0] at hown
 clear hx HX hf hr0 hfull hn hmx
 obtain ⟨h, hh⟩ : ∃ h : Nat → Nat, h = fun j => f j ^^^ Math.mul (m.getD j 0) b := ⟨_, rfl⟩
 rw [← hh] at hown ⊢
 have HH : Hid (∀ j, h j = f j ^^^ Math.mul (m.getD j 0) b) := Aa (by intro j; rw [hh])
 have HRD := Aa hrd
 have HAP := Aa hap
 clear hh hrd hap
 go_enter Tryz.func107, Tryz.ntmps107
 go_wp2_with fail
 go_loopw [6, 7] (fun i _ wr => ∃ k : Nat, k ≤ n ∧ i = .int .i64 (k : Int) ∧ wr.ownsRow base 80 1 (.slice (some ⟨g, 0, none⟩) n cap) n (A8 (Bx n k h f)) ∧ w.grownBy wr (some g))
  (fun i _ _ => n - (intOf i).toNat)
 case atStart => exact ⟨0, by omega, rfl, hown, ⟨rfl, rfl, rfl, Nat.le_refl _, fun _ _ _ => rfl⟩⟩
 case round =>
  obtain ⟨k, hk, rfl, hownr, hgr⟩ := hrel
  by_cases hlt : k < n
  ·have hc : wr.cell? ⟨g, k, none⟩ = some (.int .u16 ((f k : Nat) : Int)) := by
    rw [hownr.cellAt k (by omega)]
    have := EA n k h f k hlt
    rw [if_neg (by omega)] at this
    rw [← this]
    simp [A8, Bu, hlt]
   have hkm : k < m.length := by omega
   obtain ⟨b2, off2, rfl, hcm0⟩ := Dr HRD.out k hkm
   have hcm := hgr.cell hcm0 (by intro e; exact HAP.out _ rfl (by simpa using e))
   have hfz := hownr.frozenAt k
   have hst := (hownr.stored k (.int .u16 ((h k : Nat) : Int))).1
   have hown' : (wr.setCell ⟨g, k, none⟩ (.int .u16 ((h k : Nat) : Int))).ownsRow base 80 1 (.slice (some ⟨g, 0, none⟩) n cap) n (A8 (Bx n (k + 1) h f)) := by
    rw [← FA]
    have e : A8 ((Bx n k h f).set k (h k)) = (A8 (Bx n k h f)).set k (.int .u16 ((h k : Nat) : Int)) := by simp [A8, List.map_set]
    rw [e]; exact hst
   have hG := hgr.trans (CR wr ⟨g, k, none⟩ (.int .u16 ((h k : Nat) : Int)))
   have hfl := HX2.out k
   have hml := HMX.out k
   rw [HH.out k] at hG
   have HO := Aa hown'
   have HG := Aa hG
   rw [HH.out k] at HO
   obtain ⟨x, hxe⟩ : ∃ x, x = f k := ⟨_, rfl⟩
   obtain ⟨y, hye⟩ : ∃ x, x = m.getD k 0 := ⟨_, rfl⟩
   rw [← hxe] at hc hfl HO HG
   rw [← hye] at hcm hml HO HG
   have hmu : Math.mul y b < 65536 := Math.mul_lt hml b
   have hxo := ON x (Math.mul y b) hfl hmu
   have HO0 := Aa hown
   clear hst hown' hG hownr hgr hxe hye hown hcm0
   go_wp2_with fail
   refine (CI y b hml hby wr).mono ?_
   rintro e w' ⟨rfl, rfl⟩
   go_wp2_with fail
   exact ⟨⟨k + 1, by omega, by go_num, HO.out, HG.out⟩, by simp [intOf]; omega⟩
  ·obtain rfl : k = n := by omega
   have HO := Aa hownr
   have HG := Aa hgr
   clear hownr hgr hown
   go_wp2_with fail
   go_end0
   exact ⟨rfl, HO.out, HG.out⟩
theorem FC {r : List Nat} {b : Nat} (h : ∀ x ∈ r, x < 65536) : ∀ x ∈ BD r b, x < 65536 := by
 intro x hx
 simp only [BD, List.mem_map] at hx
 obtain ⟨j, _, rfl⟩ := hx
 exact Math.mul_lt (AO h j) b
theorem Kw {r m : List Nat} {b : Nat} (h : ∀ x ∈ r, x < 65536) (hm : ∀ x ∈ m, x < 65536) : ∀ x ∈ D7 r m b, x < 65536 := by
 intro x hx
 simp only [D7, List.mem_map] at hx
 obtain ⟨j, _, rfl⟩ := hx
 exact Nat.xor_lt_two_pow (n := 16) (AO h j) (Math.mul_lt (AO hm j) b)
def BU (c : List (List Nat)) (at' : Nat) (width : Nat) : Nat → List Nat
 | 0 => List.replicate width 0
 | k + 1 => D7 (BD (BU c at' width k) at') (c.getD (c.length - 1 - k) []) 1
def JD (c : List (List Nat)) (at' : Nat) (width : Nat) : List Nat := BU c at' width c.length
theorem BW (c : List (List Nat)) (t width : Nat) : ∀ k, (BU c t width k).length = width
 | 0 => by simp [BU]
 | k + 1 => by rw [BU, Ei, BN, BW c t width k]
theorem ED {c : List (List Nat)} (h : ∀ r ∈ c, ∀ x ∈ r, x < 65536) (t width : Nat) : ∀ k, ∀ x ∈ BU c t width k, x < 65536
 | 0 => by intro x hx; simp [BU] at hx; omega
 | k + 1 => Kw (FC (ED h t width k)) (E8 h _)
theorem Rd.block_lt {w : World} {a : Option Addr} {r : List Nat} (h : Rd w a (A8 r)) (h0 : 0 < r.length) : ∀ c, a = some c → c.block < w.heap.size := by
 intro c hc
 obtain ⟨b, off, rfl, hcell⟩ := Dr h 0 h0
 cases hc
 exact World.block_lt_of_cell? w _ hcell
theorem In (c : List (List Nat)) (at' width : Nat) (a : Option Addr) (cap : Nat) (hc : c.length ≤ 100) (h0 : 0 < c.length) (hw : ∀ r ∈ c, r.length = width ∧ ∀ x ∈ r, x < 65536) (hwd0 : 0 < width) (hwd : width ≤ 100) (hat : at' < 65536) (w : World) (hrd : RdRows w a c) :
  Calls Tryz.prog 74 #[.slice a c.length cap, .int .i64 (at' : Int)] w fun e w' => ∃ v, e = .returned v ∧ w'.ownsRow w.heap.size 80 1 v width (A8 (JD c at' width)) ∧ Below w.heap.size w w' := by
 obtain ⟨i0, hi, hz0, hz1, hz2⟩ := info_parts Tryz.info16
 obtain ⟨b1, off1, a3, c3, rfl, hcr0, _⟩ := hrd 0 c[0] (List.getElem?_eq_getElem h0)
 rw [(hw c[0] (List.getElem_mem h0)).1, Nat.add_zero] at hcr0
 have HRD := Aa hrd
 have hlt' : ∀ r ∈ c, ∀ x ∈ r, x < 65536 := fun r hr => (hw r hr).2
 have HLT := Aa hlt'
 have HW := Aa (fun r hr => (hw r hr).1)
 clear hrd hlt' hw
 go_enter Tryz.func74, Tryz.ntmps74
 go_wp2_with (at_make; refine wpList_make_full _ rfl _ _ 121 rfl w.heap.size 80 i0 (.int .u16 0) 1 Tryz.underlying121 hi hz0 hz1 .i64 .i64 _ _ width rfl rfl rfl rfl ?c1 ?c2 (Nat.le_refl _) ?_)
 case c1 => rw [hz2]; omega
 case c2 => unfold maxLen; omega
 intro w1 hown1 hg1
 have hb1 : Below w.heap.size w w1 := (Below.refl _ w).grown hg1 (Nat.le_refl _) (by simp)
 have hown1' : Row w1 w.heap.size w.heap.size width (BU c at' width 0) := by
  unfold Row
  rw [BW, BU]
  simpa [A8, toList_madeCells_one] using hown1
 have HO1 := Aa hown1'
 have HB1 := Aa hb1
 obtain ⟨g, hg⟩ : ∃ g, g = w.heap.size := ⟨_, rfl⟩
 have HG := Aa hg
 rw [← hg] at HO1 ⊢
 clear hown1 hown1' hb1 hg1 hg
 go_wp2_with fail
 go_loopw [6] (fun i wr => ∃ k : Nat, k ≤ c.length ∧ i = .int .i64 ((c.length : Int) - 1 - (k : Int)) ∧ Row wr g g width (BU c at' width k) ∧ Below g w wr)
  (fun i _ => (intOf i + 1).toNat)
 case atStart => exact ⟨0, by omega, by simp, HO1.out, by rw [HG.out]; exact HB1.out⟩
 case round =>
  clear HO1 HB1
  obtain ⟨k, hk, rfl, hownr, hbl⟩ := hrel
  by_cases hlt : k < c.length
  ·obtain ⟨j, hj⟩ : ∃ j, j = c.length - 1 - k := ⟨_, rfl⟩
   have hjl : j < c.length := by omega
   have ej : (c.length : Int) - 1 - (k : Int) = (j : Int) := by omega
   rw [ej]
   obtain ⟨b2, off2, a4, c4, e2, hcr, hrow⟩ := HRD.out j c[j] (List.getElem?_eq_getElem hjl)
   cases e2
   have hrl := HW.out c[j] (List.getElem_mem hjl)
   have hrx := HLT.out c[j] (List.getElem_mem hjl)
   rw [hrl] at hcr
   have hcr' : wr.cell? ⟨b1, off1 + j, none⟩ = some (.slice a4 width c4) := by
    rw [hbl.cell (by rw [HG.out]; exact World.block_lt_of_cell? w _ hcr)]; exact hcr
   have hap : ∀ c', a4 = some c' → c'.block ≠ g := by
    intro c' hc'
    have := Rd.block_lt hrow (by omega) c' hc'
    rw [HG.out]; omega
   have hrow' : Rd wr a4 (A8 c[j]) := hrow.later (by rw [HG.out]; exact Nat.le_refl _) hbl
   have hstep : D7 (BD (BU c at' width k) at') c[j] 1 = BU c at' width (k + 1) := by
    rw [BU, ← hj]
    congr 1
    simp [hjl]
   have hvl := ED HLT.out at' width k
   have hlen := BW c at' width k
   obtain ⟨v0, hv0⟩ : ∃ v, v = BU c at' width k := ⟨_, rfl⟩
   obtain ⟨cj, hcj⟩ : ∃ v, v = c[j] := ⟨_, rfl⟩
   rw [← hv0] at hownr hstep hvl hlen
   rw [← hcj] at hrow' hstep hrl hrx
   have HS := Aa hstep
   have HO := Aa hownr
   have HB := Aa hbl
   have HR := Aa hrow'
   have HAP := Aa hap
   have HVL := Aa hvl
   have HRX := Aa hrx
   have HJ := Aa hj
   have hcs : ∀ W, wr.grownBy W (some g) → W.cell? ⟨b1, off1 + j, none⟩ = some (.slice a4 width c4) := by
    intro W hW
    refine hW.cell hcr' ?_
    intro e
    have := World.block_lt_of_cell? w _ hcr
    simp at e this
    have := HG.out
    omega
   have HCS := Aa hcs
   clear hv0 hcj hstep hownr hbl hrow hrow' hap hvl hrx hcr hj hcs ej
   have SC := Aa (FY v0 at' g g width wr HO.out (by omega) HVL.out hat)
   rw [hlen] at SC
   have wat : IntKind.u16.wrap (at' : Int) = (at' : Int) := by rw [IntKind.wrap_u16]; omega
   go_wp2_with fail
   refine SC.out.mono ?_
   rintro e w2 ⟨rfl, hown2, hg2⟩
   have hc2 := HCS.out w2 hg2
   have hr2 : Rd w2 a4 (A8 cj) := by
    intro q u hq
    obtain ⟨b3, off3, e3, h3⟩ := HR.out q u hq
    refine ⟨b3, off3, e3, hg2.cell h3 ?_⟩
    intro e
    exact HAP.out _ e3 (by simpa using e)
   have AD := Aa (IB (BD v0 at') cj 1 g g width a4 width c4 w2 hown2 (by rw [BN]; omega) (FC HVL.out) (by omega) hrl (by rw [BN]; omega) hr2 HAP.out HRX.out)
   rw [BN, hlen] at AD
   have HO2 := Aa hown2
   have HG2 := Aa hg2
   have HR2 := Aa hr2
   clear hown2 hg2 hr2
   go_wp2_with fail
   refine AD.out.mono ?_
   rintro e w3 ⟨rfl, hown3, hg3⟩
   have hbl3 : Below g w w3 := (HB.out.grown (HG2.out.trans hg3) (by rw [HG.out]; exact HB.out.size) (by intro k hk; cases hk; exact Nat.le_refl _))
   rw [HS.out] at hown3
   have HO3 := Aa hown3
   have HB3 := Aa hbl3
   clear hown3 hbl3 hg3
   go_wp2_with fail
   refine ⟨⟨k + 1, by omega, ?_, HO3.out, HB3.out⟩, ?_⟩
   ·have := HJ.out
    congr 1
    omega
   ·have := HJ.out
    simp [intOf]
  ·obtain rfl : k = c.length := by omega
   have HO := Aa hownr
   have HB := Aa hbl
   clear hownr hbl
   go_wp2_with fail
   go_ret
   rw [← HG.out]
   refine ⟨_, rfl, ?_, HB.out⟩
   have := HO.out
   unfold Row at this
   rw [BW] at this
   exact this
end Go.Proofs.YtonjphollmdicaaGreatDoor
namespace Go.Proofs.YtonjphollmdicaaGreatDoor
open Math
def LP (c : List (List Nat)) (p : Nat) : List F := c.map fun r => F.ofNat (r.getD p 0)
theorem Oq (c : List (List Nat)) (t width p : Nat) (hp : p < width) (ht : t < 65536) (hc : ∀ r ∈ c, ∀ x ∈ r, x < 65536) (_hl : ∀ r ∈ c, r.length = width) :
  ∀ k, k ≤ c.length → F.ofNat ((BU c t width k).getD p 0) = ev ((LP c p).drop (c.length - k)) (F.ofNat t) := by
 intro k
 induction k with
 | zero =>
  intro _
  rw [Nat.sub_zero, List.drop_eq_nil_of_le (by simp [LP])]
  simp only [BU, ev]
  simp [hp]
  rfl
 | succ k ih =>
  intro hk
  have hv := ED hc t width k
  have hvl := BW c t width k
  have h1 : (BU c t width (k + 1)).getD p 0 = (BD (BU c t width k) t).getD p 0 ^^^ Math.mul ((c.getD (c.length - 1 - k) []).getD p 0) 1 := by
   simp only [BU, D7]
   rw [List.getD_eq_getElem?_getD, List.getElem?_map, List.getElem?_range (by rw [BN, hvl]; exact hp)]
   rfl
  have h2 : (BD (BU c t width k) t).getD p 0 = Math.mul ((BU c t width k).getD p 0) t := by
   simp only [BD]
   rw [List.getD_eq_getElem?_getD, List.getElem?_map, List.getElem?_range (by rw [hvl]; exact hp)]
   rfl
  have hj : c.length - 1 - k < (LP c p).length := by simp [LP]; omega
  have h3 : (LP c p).drop (c.length - (k + 1)) = F.ofNat ((c.getD (c.length - 1 - k) []).getD p 0) :: (LP c p).drop (c.length - k) := by
   rw [show c.length - (k + 1) = c.length - 1 - k from by omega, List.drop_eq_getElem_cons hj, show c.length - 1 - k + 1 = c.length - k from by omega]
   congr 1
   have hj' : c.length - 1 - k < c.length := by omega
   simp [LP, hj']
  have hx := AO (E8 hc (c.length - 1 - k)) p
  rw [h1, h2, h3, Math.mul_one hx, Es (Math.mul_lt (AO hv p) t) hx, Cl (AO hv p) ht, ih (by omega)]
  simp only [ev]
  rw [F.add_comm, F.mul_comm]
def pt (i : Nat) : F := F.ofNat i
theorem Hz (pts : List Nat) (rows ys : List (List Nat)) (width t : Nat) (hnd : pts.Nodup) (hp : ∀ x ∈ pts, x < 65536) (ht : t < 65536) (hl : rows.length = pts.length) (hys : ys.length = pts.length)
  (hr : ∀ r ∈ rows, r.length = width ∧ ∀ x ∈ r, x < 65536) (hy : ∀ r ∈ ys, r.length = width ∧ ∀ x ∈ r, x < 65536)
  (hsol : ∀ i, i < pts.length → ∀ p, p < width → ev (LP ys p) (qt pts i) = F.ofNat ((rows.getD i []).getD p 0)) :
  JD ys t width = Jx rows (Bb pts (AW pts) t) width := by
 have hws := DN pts (AW pts) t (Dv pts)
 have hv := ED (fun r hr => (hy r hr).2) t width ys.length
 refine Se (by rw [Il]; exact BW _ _ _ _) hv (RC rows hws width) (fun p hpw => ?_)
 rw [Il] at hpw
 have b1 := Oq ys t width p hpw ht (fun r hr => (hy r hr).2) (fun r hr => (hy r hr).1) ys.length (Nat.le_refl _)
 rw [Nat.sub_self, List.drop_zero] at b1
 rw [Rg pts rows width t p hnd hp ht hl (fun r hr' => (hr r hr').2) hpw (LP ys p) (by simp [LP, hys]) (fun i hi => hsol i hi p hpw), ← b1]
 rfl
theorem Mv (rows ys : List (List Nat)) (width j : Nat) (hK : rows.length ≤ 1000) (hj : j ≤ 1000) (hys : ys.length = rows.length)
  (hr : ∀ r ∈ rows, r.length = width ∧ ∀ x ∈ r, x < 65536) (hy : ∀ r ∈ ys, r.length = width ∧ ∀ x ∈ r, x < 65536)
  (hsol : ∀ i, i < rows.length → ∀ p, p < width → ev (LP ys p) (pt i) = F.ofNat ((rows.getD i []).getD p 0)) :
  JD ys (rows.length + j) width = BY rows width j := by
 have hpl : (Cj rows.length).length = rows.length := by simp [Cj]
 exact Hz (Cj rows.length) rows ys width (rows.length + j) List.nodup_range (IR _ hK) (by omega) hpl.symm (by rw [hpl]; exact hys) hr hy (fun i hi p hp => by
  rw [hpl] at hi
  have : qt (Cj rows.length) i = pt i := by unfold qt pt Cj; simp [hi]
  rw [this]
  exact hsol i hi p hp)
end Go.Proofs.YtonjphollmdicaaGreatDoor
