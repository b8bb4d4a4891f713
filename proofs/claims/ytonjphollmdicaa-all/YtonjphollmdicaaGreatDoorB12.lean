import Derived.Test.YtonjphollmdicaaGreatDoorB08
import Derived.Test.YtonjphollmdicaaGreatDoorB11
set_option maxRecDepth 100000
set_option maxHeartbeats 4000000
set_option linter.unusedSimpArgs false
namespace Go.Proofs.YtonjphollmdicaaGreatDoor
open Math
theorem Bz {n : Nat} (h : n < 65536) : (F.ofNat n).1 = n := Nat.mod_eq_of_lt h
theorem Ev {a b : Nat} (ha : a < 65536) (hb : b < 65536) : F.ofNat (a ^^^ b) = F.ofNat a + F.ofNat b :=
 F.ext (by rw [F.val_add, Bz ha, Bz hb, Bz (DI ha hb)])
theorem Cl {a b : Nat} (ha : a < 65536) (hb : b < 65536) : F.ofNat (Math.mul a b) = F.ofNat a * F.ofNat b :=
 F.ext (by rw [F.val_mul, Bz ha, Bz hb, Bz (Math.mul_lt ha b)])
theorem Qf {a : Nat} (ha : a < 65536) : F.ofNat (Math.inv a) = F.inv (F.ofNat a) :=
 F.ext (by rw [F.val_inv, Bz ha, Bz (Math.inv_lt ha)])
theorem E8 {c : List (List Nat)} (h : ∀ r ∈ c, ∀ x ∈ r, x < 65536) (j : Nat) : ∀ x ∈ c.getD j [], x < 65536 := by
 rw [List.getD_eq_getElem?_getD]
 cases e : c[j]? with
 | none => intro x hx; simp at hx
 | some r => exact h r (List.mem_of_getElem? e)
theorem Se (rows : List (List Nat)) (ws : List Nat) (hw : ∀ x ∈ ws, x < 65536) (hr : ∀ r ∈ rows, ∀ x ∈ r, x < 65536) (p : Nat) :
  ∀ k, F.ofNat (FI rows ws k p) = FB (fun i => F.ofNat (ws.getD i 0) * F.ofNat ((rows.getD i []).getD p 0)) k := by
 intro k
 induction k with
 | zero => rfl
 | succ k ih =>
  have hx := AP (E8 hr k) p
  rw [Ln, Ev (JT hw k p) (Math.mul_lt (AP hw k) _), Cl (AP hw k) hx, ih]
  rfl
theorem Lz (t : Nat) (ht : t < 65536) : ∀ l : List Nat, (∀ x ∈ l, x < 65536) → ∀ x, x < 65536 →
  l.foldr (fun p a => Math.mul a (t ^^^ p)) x < 65536 ∧ F.ofNat (l.foldr (fun p a => Math.mul a (t ^^^ p)) x) = F.ofNat (l.foldr (fun p a => Math.mul a (t ^^^ p)) 1) * F.ofNat x := by
 intro l
 induction l with
 | nil => intro _ x hx; exact ⟨hx, by rw [List.foldr_nil, List.foldr_nil]; exact (F.one_mul _).symm⟩
 | cons p l ih =>
  intro hl x hx
  have h1 := ih (fun y hy => hl y (List.mem_cons_of_mem _ hy)) x hx
  have h2 := ih (fun y hy => hl y (List.mem_cons_of_mem _ hy)) 1 (by decide)
  have h3 : t ^^^ p < 65536 := DI ht (hl p (by simp))
  simp only [List.foldr_cons]
  refine ⟨Math.mul_lt h1.1 _, ?_⟩
  rw [Cl h1.1 h3, Cl h2.1 h3, h1.2]
  ac_rfl
def qt (pts : List Nat) (i : Nat) : F := F.ofNat (pts.getD i 0)
theorem GI {l : List Nat} {i : Nat} (h : i < l.length) : l.getD i 0 = l[i] := by simp [h]
theorem QW (pts : List Nat) (t : Nat) (ht : t < 65536) (hp : ∀ x ∈ pts, x < 65536) : ∀ i, i ≤ pts.length → F.ofNat (Ei pts t i) = CX (fun j => F.ofNat t + qt pts j) i ∧ Ei pts t i < 65536 := by
 intro i
 induction i with
 | zero => intro _; exact ⟨rfl, show (1 : Nat) < 65536 from by decide⟩
 | succ i ih =>
  intro hi
  obtain ⟨h1, h2⟩ := ih (by omega)
  have hx := hp _ (List.getElem_mem (show i < pts.length by omega))
  have e : Ei pts t (i + 1) = Math.mul (Ei pts t i) (t ^^^ pts[i]) := by
   unfold Ei
   rw [Ap pts i (by omega), List.foldl_append]
   rfl
  have h3 : t ^^^ pts[i] < 65536 := DI ht hx
  rw [e]
  refine ⟨?_, Math.mul_lt h2 _⟩
  rw [Cl h2 h3, h1, Ev ht hx]
  simp only [CX]
  unfold qt
  rw [GI (by omega)]
theorem Sa (pts : List Nat) (t : Nat) (ht : t < 65536) (hp : ∀ x ∈ pts, x < 65536) (i : Nat) : ∀ n, i < n → n ≤ pts.length →
  CX (F6 (qt pts) i (F.ofNat t)) n = CX (fun j => F.ofNat t + qt pts j) i * F.ofNat (((pts.take n).drop (i + 1)).foldr (fun p a => Math.mul a (t ^^^ p)) 1) := by
 intro n
 induction n with
 | zero => intro h; omega
 | succ n ih =>
  intro hi hn
  simp only [CX]
  by_cases e : i = n
  ·subst e
   have h1 : ∀ m, m ≤ i → CX (F6 (qt pts) i (F.ofNat t)) m = CX (fun j => F.ofNat t + qt pts j) m := by
    intro m
    induction m with
    | zero => intro _; rfl
    | succ m ihm =>
     intro hm
     simp only [CX]
     rw [ihm (by omega)]
     congr 1
     unfold F6
     rw [if_neg (by omega)]
   rw [h1 i (Nat.le_refl _), List.drop_eq_nil_of_le (by simp; omega)]
   congr 1
   unfold F6
   rw [if_pos rfl]
   rfl
  ·have hb : (pts.take (n + 1)).drop (i + 1) = (pts.take n).drop (i + 1) ++ [pts[n]] := by
    rw [Ap pts n (by omega), List.drop_append_of_le_length (by simp; omega)]
   have hl : ∀ x ∈ (pts.take n).drop (i + 1), x < 65536 := fun x hx => hp x (List.mem_of_mem_take (List.mem_of_mem_drop hx))
   have hx := hp _ (List.getElem_mem (show n < pts.length by omega))
   have h3 : t ^^^ pts[n] < 65536 := DI ht hx
   rw [ih (by omega) (by omega), hb, List.foldr_append, List.foldr_cons, List.foldr_nil]
   rw [(Lz t ht _ hl (Math.mul 1 (t ^^^ pts[n])) (Math.mul_lt (by decide) _)).2, Math.one_mul h3, Ev ht hx]
   unfold F6
   rw [if_neg (fun h => e h.symm), F.mul_assoc]
   unfold qt
   rw [GI (show n < pts.length by omega)]
theorem RT (pts : List Nat) (hp : ∀ x ∈ pts, x < 65536) (i : Nat) : F.ofNat (Mi pts i) = CX (F6 (qt pts) i (qt pts i)) pts.length ∧ Mi pts i < 65536 := by
 have h : ∀ n, n ≤ pts.length → F.ofNat ((List.range n).foldl (Cr pts i) 1) = CX (F6 (qt pts) i (qt pts i)) n ∧ (List.range n).foldl (Cr pts i) 1 < 65536 := by
  intro n
  induction n with
  | zero => intro _; exact ⟨rfl, show (1 : Nat) < 65536 from by decide⟩
  | succ n ih =>
   intro hn
   obtain ⟨h1, h2⟩ := ih (by omega)
   rw [List.range_succ, List.foldl_append, List.foldl_cons, List.foldl_nil]
   simp only [CX]
   generalize (List.range n).foldl (Cr pts i) 1 = x at h1 h2 ⊢
   generalize CX (F6 (qt pts) i (qt pts i)) n = y at h1 ⊢
   unfold Cr
   by_cases e : n = i
   ·rw [if_pos e]
    refine ⟨?_, h2⟩
    unfold F6
    rw [if_pos e, F.mul_one]
    exact h1
   ·have h3 : pts.getD i 0 ^^^ pts.getD n 0 < 65536 := DI (AP hp i) (AP hp n)
    rw [if_neg e]
    refine ⟨?_, Math.mul_lt h2 _⟩
    unfold F6
    rw [if_neg e, Cl h2 h3, Ev (AP hp i) (AP hp n)]
    rw [h1]
    rfl
 exact h pts.length (Nat.le_refl _)
theorem PT (pts : List Nat) (hp : ∀ x ∈ pts, x < 65536) (t i : Nat) (ht : t < 65536) (hi : i < pts.length) :
  F.ofNat ((Bc pts (AX pts) t).getD i 0) = F.inv (CX (F6 (qt pts) i (qt pts i)) pts.length) * CX (F6 (qt pts) i (F.ofNat t)) pts.length := by
 have e : (Bc pts (AX pts) t).getD i 0 = CB pts (AX pts) t i := by
  unfold Bc
  simp [hi]
 have es : (AX pts).getD i 0 = Math.inv (Mi pts i) := by
  unfold AX Fm
  simp [hi]
 obtain ⟨h1, h2⟩ := RT pts hp i
 obtain ⟨h3, h4⟩ := QW pts t ht hp i (by omega)
 have hbl : ∀ x ∈ pts.drop (i + 1), x < 65536 := fun x hx => hp x (List.mem_of_mem_drop hx)
 have h5 := (Lz t ht (pts.drop (i + 1)) hbl 1 (by decide)).1
 rw [e]
 unfold CB B0
 rw [es, Cl (Math.mul_lt (Math.inv_lt h2) _) (show Dk pts t (i + 1) < 65536 from h5), Cl (Math.inv_lt h2) h4, Qf h2, h1, h3, F.mul_assoc]
 congr 1
 have := Sa pts t ht hp i pts.length hi (Nat.le_refl _)
 rw [List.take_of_length_le (Nat.le_refl _)] at this
 exact this.symm
theorem SM {pts : List Nat} (hnd : pts.Nodup) (hp : ∀ x ∈ pts, x < 65536) : ∀ i j, i < pts.length → j < pts.length → qt pts i = qt pts j → i = j := by
 intro i j hi hj h
 have := congrArg Subtype.val h
 unfold qt at this
 rw [Bz (AP hp i), Bz (AP hp j), GI hi, GI hj] at this
 exact (List.getElem_inj hnd).1 this
theorem QI (pts : List Nat) (rows : List (List Nat)) (width t p : Nat) (hnd : pts.Nodup) (hp : ∀ x ∈ pts, x < 65536) (ht : t < 65536) (hl : rows.length = pts.length) (hr : ∀ r ∈ rows, ∀ x ∈ r, x < 65536) (hpw : p < width)
  (cs : List F) (hcs : cs.length = pts.length) (hsol : ∀ i, i < pts.length → ev cs (qt pts i) = F.ofNat ((rows.getD i []).getD p 0)) :
  F.ofNat ((Jr rows (Bc pts (AX pts) t) width).getD p 0) = ev cs (F.ofNat t) := by
 have hws := DM pts (AX pts) t (Dx pts)
 have a2 : (Jr rows (Bc pts (AX pts) t) width).getD p 0 = FI rows (Bc pts (AX pts) t) rows.length p := by simp [Jr, hpw]
 rw [a2, Se rows _ hws hr p rows.length, QX pts.length (qt pts) (SM hnd hp) cs hcs (F.ofNat t), hl]
 exact BH pts.length (fun i hi => by rw [PT pts hp t i ht hi, hsol i hi])
theorem RU {a b : List Nat} (h : a.length = b.length) (ha : ∀ x ∈ a, x < 65536) (hb : ∀ x ∈ b, x < 65536) (hp : ∀ p, p < b.length → F.ofNat (a.getD p 0) = F.ofNat (b.getD p 0)) : a = b := by
 refine List.ext_getElem h (fun p h1 h2 => ?_)
 have := congrArg Subtype.val (hp p h2)
 rw [Bz (AP ha p), Bz (AP hb p), GI h1, GI h2] at this
 exact this
theorem Hy (rows : List (List Nat)) (ws : List Nat) (width : Nat) : (Jr rows ws width).length = width := by simp [Jr]
theorem RF (rows : List (List Nat)) {ws : List Nat} (hw : ∀ x ∈ ws, x < 65536) (width : Nat) : ∀ x ∈ Jr rows ws width, x < 65536 := by
 intro x hx
 unfold Jr at hx
 rw [List.mem_map] at hx
 obtain ⟨p, _, rfl⟩ := hx
 exact JT hw _ _
end Go.Proofs.YtonjphollmdicaaGreatDoor
namespace Go.Proofs.YtonjphollmdicaaGreatDoor
open Go.ChangeShapes Go.WideShapes Go.ChangeAt Go.RowKit
def BE (r : List Nat) (b : Nat) : List Nat := (List.range r.length).map fun j => Math.mul (r.getD j 0) b
def D8 (r m : List Nat) (b : Nat) : List Nat := (List.range r.length).map fun j => r.getD j 0 ^^^ Math.mul (m.getD j 0) b
theorem IL (r : List Nat) : (List.range r.length).map (fun j => r.getD j 0) = r := by
 apply List.ext_getElem
 ·simp
 ·intro j h1 h2
  simp at h1
  simp [h1]
theorem BR (r : List Nat) (b : Nat) : (BE r b).length = r.length := by simp [BE]
theorem Em (r m : List Nat) (b : Nat) : (D8 r m b).length = r.length := by simp [D8]
def Row (w : World) (base g cap : Nat) (r : List Nat) : Prop := w.ownsRow base 80 1 (.slice (some ⟨g, 0, none⟩) r.length cap) r.length (A9 r)
theorem CQ (w : World) (a : Addr) (u : Value) : w.grownBy (w.setCell a u) (some a.block) :=
 ⟨rfl, rfl, rfl, Nat.le_of_eq (World.size_setCell _ _ _).symm, fun k hk hne => Below.heap_setCell w a u k (fun e => hne (by rw [e]))⟩
theorem F8 (r : List Nat) (b : Nat) (base g cap : Nat) (w : World) (hown : Row w base g cap r) (hr : r.length ≤ 1000) (hx : ∀ x ∈ r, x < 65536) (hby : b < 65536) :
  Calls Tryz.prog 106 #[.slice (some ⟨g, 0, none⟩) r.length cap, .int .u16 (b : Int)] w fun e w' => e = .returned (.tuple #[]) ∧ Row w' base g cap (BE r b) ∧ w.grownBy w' (some g) := by
 obtain ⟨n, hn⟩ : ∃ n, n = r.length := ⟨_, rfl⟩
 unfold Row at hown ⊢
 rw [BR, ← hn]
 rw [← hn] at hown hr
 have hr0 : r = By n 0 (fun j => Math.mul (r.getD j 0) b) (fun j => r.getD j 0) := by rw [Dq, hn, IL]
 have hfull : BE r b = By n n (fun j => Math.mul (r.getD j 0) b) (fun j => r.getD j 0) := by rw [Dt, BE, hn]
 rw [hfull]
 have HX := Aa (fun j => AP hx j)
 obtain ⟨f, hf⟩ : ∃ f : Nat → Nat, f = fun j => r.getD j 0 := ⟨_, rfl⟩
 rw [show (fun j => Math.mul (r.getD j 0) b) = fun j => Math.mul (f j) b from by rw [hf], ← hf] at hr0 ⊢
 have HX2 : Hid (∀ j, f j < 65536) := Aa (by rw [hf]; exact HX.out)
 rw [hr0] at hown
 clear hx HX hf hr0 hfull hn
 obtain ⟨h, hh⟩ : ∃ h : Nat → Nat, h = fun j => Math.mul (f j) b := ⟨_, rfl⟩
 rw [← hh] at hown ⊢
 have HH : Hid (∀ j, h j = Math.mul (f j) b) := Aa (by intro j; rw [hh])
 clear hh
 go_enter Tryz.func106, Tryz.ntmps106
 go_wp2_with fail
 go_loopw [4] (fun i wr => ∃ k : Nat, k ≤ n ∧ i = .int .i64 (k : Int) ∧ wr.ownsRow base 80 1 (.slice (some ⟨g, 0, none⟩) n cap) n (A9 (By n k h f)) ∧ w.grownBy wr (some g))
  (fun i _ => n - (intOf i).toNat)
 case atStart => exact ⟨0, by omega, rfl, hown, ⟨rfl, rfl, rfl, Nat.le_refl _, fun _ _ _ => rfl⟩⟩
 case round =>
  obtain ⟨k, hk, rfl, hownr, hgr⟩ := hrel
  by_cases hlt : k < n
  ·have hc : wr.cell? ⟨g, k, none⟩ = some (.int .u16 ((f k : Nat) : Int)) := by
    rw [hownr.cellAt k (by omega)]
    have := EF n k h f k hlt
    rw [if_neg (by omega)] at this
    rw [← this]
    simp [A9, Bt, hlt]
   have hfz := hownr.frozenAt k
   have hst := (hownr.stored k (.int .u16 ((h k : Nat) : Int))).1
   have hown' : (wr.setCell ⟨g, k, none⟩ (.int .u16 ((h k : Nat) : Int))).ownsRow base 80 1 (.slice (some ⟨g, 0, none⟩) n cap) n (A9 (By n (k + 1) h f)) := by
    rw [← FF]
    have e : A9 ((By n k h f).set k (h k)) = (A9 (By n k h f)).set k (.int .u16 ((h k : Nat) : Int)) := by simp [A9, List.map_set]
    rw [e]; exact hst
   have hG := hgr.trans (CQ wr ⟨g, k, none⟩ (.int .u16 ((h k : Nat) : Int)))
   have hfl := HX2.out k
   rw [HH.out k] at hG
   have HO := Aa hown'
   have HG := Aa hG
   rw [HH.out k] at HO
   obtain ⟨x, hxe⟩ : ∃ x, x = f k := ⟨_, rfl⟩
   rw [← hxe] at hc hfl HO HG
   have HO0 := Aa hown
   clear hst hown' hG hownr hgr hxe hown
   go_wp2_with fail
   refine (CL x b hfl hby wr).mono ?_
   rintro e w' ⟨rfl, rfl⟩
   go_wp2_with fail
   exact ⟨⟨k + 1, by omega, by go_num, HO.out, HG.out⟩, by simp [intOf]; omega⟩
  ·obtain rfl : k = n := by omega
   have HO := Aa hownr
   have HG := Aa hgr
   clear hownr hgr hown
   go_wp2_with fail
   go_end0
   exact ⟨rfl, HO.out, HG.out⟩
theorem Ik (r m : List Nat) (b : Nat) (base g cap : Nat) (a : Option Addr) (nm cap' : Nat) (w : World) (hown : Row w base g cap r) (hr : r.length ≤ 1000) (hx : ∀ x ∈ r, x < 65536) (hby : b < 65536)
  (hm : m.length = nm) (hlen : r.length ≤ nm) (hrd : Rd w a (A9 m)) (hap : ∀ c, a = some c → c.block ≠ g) (hmx : ∀ x ∈ m, x < 65536) :
  Calls Tryz.prog 107 #[.slice (some ⟨g, 0, none⟩) r.length cap, .slice a nm cap', .int .u16 (b : Int)] w fun e w' => e = .returned (.tuple #[]) ∧ Row w' base g cap (D8 r m b) ∧ w.grownBy w' (some g) := by
 obtain ⟨n, hn⟩ : ∃ n, n = r.length := ⟨_, rfl⟩
 unfold Row at hown ⊢
 rw [Em, ← hn]
 rw [← hn] at hown hr hlen
 have hr0 : r = By n 0 (fun j => r.getD j 0 ^^^ Math.mul (m.getD j 0) b) (fun j => r.getD j 0) := by rw [Dq, hn, IL]
 have hfull : D8 r m b = By n n (fun j => r.getD j 0 ^^^ Math.mul (m.getD j 0) b) (fun j => r.getD j 0) := by rw [Dt, D8, hn]
 rw [hfull]
 have HX := Aa (fun j => AP hx j)
 have HMX := Aa (fun j => AP hmx j)
 obtain ⟨f, hf⟩ : ∃ f : Nat → Nat, f = fun j => r.getD j 0 := ⟨_, rfl⟩
 rw [show (fun j => r.getD j 0 ^^^ Math.mul (m.getD j 0) b) = fun j => f j ^^^ Math.mul (m.getD j 0) b from by rw [hf], ← hf] at hr0 ⊢
 have HX2 : Hid (∀ j, f j < 65536) := Aa (by rw [hf]; exact HX.out)
 rw [hr0] at hown
 clear hx HX hf hr0 hfull hn hmx
 obtain ⟨h, hh⟩ : ∃ h : Nat → Nat, h = fun j => f j ^^^ Math.mul (m.getD j 0) b := ⟨_, rfl⟩
 rw [← hh] at hown ⊢
 have HH : Hid (∀ j, h j = f j ^^^ Math.mul (m.getD j 0) b) := Aa (by intro j; rw [hh])
 have HRD := Aa hrd
 have HAP := Aa hap
 clear hh hrd hap
 go_enter Tryz.func107, Tryz.ntmps107
 go_wp2_with fail
 go_loopw [6, 7] (fun i _ wr => ∃ k : Nat, k ≤ n ∧ i = .int .i64 (k : Int) ∧ wr.ownsRow base 80 1 (.slice (some ⟨g, 0, none⟩) n cap) n (A9 (By n k h f)) ∧ w.grownBy wr (some g))
  (fun i _ _ => n - (intOf i).toNat)
 case atStart => exact ⟨0, by omega, rfl, hown, ⟨rfl, rfl, rfl, Nat.le_refl _, fun _ _ _ => rfl⟩⟩
 case round =>
  obtain ⟨k, hk, rfl, hownr, hgr⟩ := hrel
  by_cases hlt : k < n
  ·have hc : wr.cell? ⟨g, k, none⟩ = some (.int .u16 ((f k : Nat) : Int)) := by
    rw [hownr.cellAt k (by omega)]
    have := EF n k h f k hlt
    rw [if_neg (by omega)] at this
    rw [← this]
    simp [A9, Bt, hlt]
   have hkm : k < m.length := by omega
   obtain ⟨b2, off2, rfl, hcm0⟩ := Ds HRD.out k hkm
   have hcm := hgr.cell hcm0 (by intro e; exact HAP.out _ rfl (by simpa using e))
   have hfz := hownr.frozenAt k
   have hst := (hownr.stored k (.int .u16 ((h k : Nat) : Int))).1
   have hown' : (wr.setCell ⟨g, k, none⟩ (.int .u16 ((h k : Nat) : Int))).ownsRow base 80 1 (.slice (some ⟨g, 0, none⟩) n cap) n (A9 (By n (k + 1) h f)) := by
    rw [← FF]
    have e : A9 ((By n k h f).set k (h k)) = (A9 (By n k h f)).set k (.int .u16 ((h k : Nat) : Int)) := by simp [A9, List.map_set]
    rw [e]; exact hst
   have hG := hgr.trans (CQ wr ⟨g, k, none⟩ (.int .u16 ((h k : Nat) : Int)))
   have hfl := HX2.out k
   have hml := HMX.out k
   rw [HH.out k] at hG
   have HO := Aa hown'
   have HG := Aa hG
   rw [HH.out k] at HO
   obtain ⟨x, hxe⟩ : ∃ x, x = f k := ⟨_, rfl⟩
   obtain ⟨y, hye⟩ : ∃ x, x = m.getD k 0 := ⟨_, rfl⟩
   rw [← hxe] at hc hfl HO HG
   rw [← hye] at hcm hml HO HG
   have hmu : Math.mul y b < 65536 := Math.mul_lt hml b
   have hxo := Oi x (Math.mul y b) hfl hmu
   have HO0 := Aa hown
   clear hst hown' hG hownr hgr hxe hye hown hcm0
   go_wp2_with fail
   refine (CL y b hml hby wr).mono ?_
   rintro e w' ⟨rfl, rfl⟩
   go_wp2_with fail
   exact ⟨⟨k + 1, by omega, by go_num, HO.out, HG.out⟩, by simp [intOf]; omega⟩
  ·obtain rfl : k = n := by omega
   have HO := Aa hownr
   have HG := Aa hgr
   clear hownr hgr hown
   go_wp2_with fail
   go_end0
   exact ⟨rfl, HO.out, HG.out⟩
theorem FG {r : List Nat} {b : Nat} (h : ∀ x ∈ r, x < 65536) : ∀ x ∈ BE r b, x < 65536 := by
 intro x hx
 simp only [BE, List.mem_map] at hx
 obtain ⟨j, _, rfl⟩ := hx
 exact Math.mul_lt (AP h j) b
theorem Kw {r m : List Nat} {b : Nat} (h : ∀ x ∈ r, x < 65536) (hm : ∀ x ∈ m, x < 65536) : ∀ x ∈ D8 r m b, x < 65536 := by
 intro x hx
 simp only [D8, List.mem_map] at hx
 obtain ⟨j, _, rfl⟩ := hx
 exact Nat.xor_lt_two_pow (n := 16) (AP h j) (Math.mul_lt (AP hm j) b)
def BX (c : List (List Nat)) (at' : Nat) (width : Nat) : Nat → List Nat
 | 0 => List.replicate width 0
 | k + 1 => D8 (BE (BX c at' width k) at') (c.getD (c.length - 1 - k) []) 1
def JL (c : List (List Nat)) (at' : Nat) (width : Nat) : List Nat := BX c at' width c.length
theorem BY (c : List (List Nat)) (t width : Nat) : ∀ k, (BX c t width k).length = width
 | 0 => by simp [BX]
 | k + 1 => by rw [BX, Em, BR, BY c t width k]
theorem Et {c : List (List Nat)} (h : ∀ r ∈ c, ∀ x ∈ r, x < 65536) (t width : Nat) : ∀ k, ∀ x ∈ BX c t width k, x < 65536
 | 0 => by intro x hx; simp [BX] at hx; omega
 | k + 1 => Kw (FG (Et h t width k)) (E8 h _)
theorem Rd.block_lt {w : World} {a : Option Addr} {r : List Nat} (h : Rd w a (A9 r)) (h0 : 0 < r.length) : ∀ c, a = some c → c.block < w.heap.size := by
 intro c hc
 obtain ⟨b, off, rfl, hcell⟩ := Ds h 0 h0
 cases hc
 exact World.block_lt_of_cell? w _ hcell
theorem IT (c : List (List Nat)) (at' width : Nat) (a : Option Addr) (cap : Nat) (hc : c.length ≤ 100) (h0 : 0 < c.length) (hw : ∀ r ∈ c, r.length = width ∧ ∀ x ∈ r, x < 65536) (hwd0 : 0 < width) (hwd : width ≤ 100) (hat : at' < 65536) (w : World) (hrd : RdRows w a c) :
  Calls Tryz.prog 74 #[.slice a c.length cap, .int .i64 (at' : Int)] w fun e w' => ∃ v, e = .returned v ∧ w'.ownsRow w.heap.size 80 1 v width (A9 (JL c at' width)) ∧ Below w.heap.size w w' := by
 obtain ⟨i0, hi, hz0, hz1, hz2⟩ := info_parts Tryz.info16
 obtain ⟨b1, off1, a3, c3, rfl, hcr0, _⟩ := hrd 0 c[0] (List.getElem?_eq_getElem h0)
 rw [(hw c[0] (List.getElem_mem h0)).1, Nat.add_zero] at hcr0
 have HRD := Aa hrd
 have hlt' : ∀ r ∈ c, ∀ x ∈ r, x < 65536 := fun r hr => (hw r hr).2
 have HLT := Aa hlt'
 have HW := Aa (fun r hr => (hw r hr).1)
 clear hrd hlt' hw
 go_enter Tryz.func74, Tryz.ntmps74
 go_wp2_with (at_make; refine wpList_make_full _ rfl _ _ 121 rfl w.heap.size 80 i0 (.int .u16 0) 1 Tryz.underlying121 hi hz0 hz1 .i64 .i64 _ _ width rfl rfl rfl rfl ?c1 ?c2 (Nat.le_refl _) ?_)
 case c1 => rw [hz2]; omega
 case c2 => unfold maxLen; omega
 intro w1 hown1 hg1
 have hb1 : Below w.heap.size w w1 := (Below.refl _ w).grown hg1 (Nat.le_refl _) (by simp)
 have hown1' : Row w1 w.heap.size w.heap.size width (BX c at' width 0) := by
  unfold Row
  rw [BY, BX]
  simpa [A9, toList_madeCells_one] using hown1
 have HO1 := Aa hown1'
 have HB1 := Aa hb1
 obtain ⟨g, hg⟩ : ∃ g, g = w.heap.size := ⟨_, rfl⟩
 have HG := Aa hg
 rw [← hg] at HO1 ⊢
 clear hown1 hown1' hb1 hg1 hg
 go_wp2_with fail
 go_loopw [6] (fun i wr => ∃ k : Nat, k ≤ c.length ∧ i = .int .i64 ((c.length : Int) - 1 - (k : Int)) ∧ Row wr g g width (BX c at' width k) ∧ Below g w wr)
  (fun i _ => (intOf i + 1).toNat)
 case atStart => exact ⟨0, by omega, by simp, HO1.out, by rw [HG.out]; exact HB1.out⟩
 case round =>
  clear HO1 HB1
  obtain ⟨k, hk, rfl, hownr, hbl⟩ := hrel
  by_cases hlt : k < c.length
  ·obtain ⟨j, hj⟩ : ∃ j, j = c.length - 1 - k := ⟨_, rfl⟩
   have hjl : j < c.length := by omega
   have ej : (c.length : Int) - 1 - (k : Int) = (j : Int) := by omega
   rw [ej]
   obtain ⟨b2, off2, a4, c4, e2, hcr, hrow⟩ := HRD.out j c[j] (List.getElem?_eq_getElem hjl)
   cases e2
   have hrl := HW.out c[j] (List.getElem_mem hjl)
   have hrx := HLT.out c[j] (List.getElem_mem hjl)
   rw [hrl] at hcr
   have hcr' : wr.cell? ⟨b1, off1 + j, none⟩ = some (.slice a4 width c4) := by
    rw [hbl.cell (by rw [HG.out]; exact World.block_lt_of_cell? w _ hcr)]; exact hcr
   have hap : ∀ c', a4 = some c' → c'.block ≠ g := by
    intro c' hc'
    have := Rd.block_lt hrow (by omega) c' hc'
    rw [HG.out]; omega
   have hrow' : Rd wr a4 (A9 c[j]) := hrow.later (by rw [HG.out]; exact Nat.le_refl _) hbl
   have hstep : D8 (BE (BX c at' width k) at') c[j] 1 = BX c at' width (k + 1) := by
    rw [BX, ← hj]
    congr 1
    simp [hjl]
   have hvl := Et HLT.out at' width k
   have hlen := BY c at' width k
   obtain ⟨v0, hv0⟩ : ∃ v, v = BX c at' width k := ⟨_, rfl⟩
   obtain ⟨cj, hcj⟩ : ∃ v, v = c[j] := ⟨_, rfl⟩
   rw [← hv0] at hownr hstep hvl hlen
   rw [← hcj] at hrow' hstep hrl hrx
   have HS := Aa hstep
   have HO := Aa hownr
   have HB := Aa hbl
   have HR := Aa hrow'
   have HAP := Aa hap
   have HVL := Aa hvl
   have HRX := Aa hrx
   have HJ := Aa hj
   have hcs : ∀ W, wr.grownBy W (some g) → W.cell? ⟨b1, off1 + j, none⟩ = some (.slice a4 width c4) := by
    intro W hW
    refine hW.cell hcr' ?_
    intro e
    have := World.block_lt_of_cell? w _ hcr
    simp at e this
    have := HG.out
    omega
   have HCS := Aa hcs
   clear hv0 hcj hstep hownr hbl hrow hrow' hap hvl hrx hcr hj hcs ej
   have SC := Aa (F8 v0 at' g g width wr HO.out (by omega) HVL.out hat)
   rw [hlen] at SC
   have wat : IntKind.u16.wrap (at' : Int) = (at' : Int) := by rw [IntKind.wrap_u16]; omega
   go_wp2_with fail
   refine SC.out.mono ?_
   rintro e w2 ⟨rfl, hown2, hg2⟩
   have hc2 := HCS.out w2 hg2
   have hr2 : Rd w2 a4 (A9 cj) := by
    intro q u hq
    obtain ⟨b3, off3, e3, h3⟩ := HR.out q u hq
    refine ⟨b3, off3, e3, hg2.cell h3 ?_⟩
    intro e
    exact HAP.out _ e3 (by simpa using e)
   have AD := Aa (Ik (BE v0 at') cj 1 g g width a4 width c4 w2 hown2 (by rw [BR]; omega) (FG HVL.out) (by omega) hrl (by rw [BR]; omega) hr2 HAP.out HRX.out)
   rw [BR, hlen] at AD
   have HO2 := Aa hown2
   have HG2 := Aa hg2
   have HR2 := Aa hr2
   clear hown2 hg2 hr2
   go_wp2_with fail
   refine AD.out.mono ?_
   rintro e w3 ⟨rfl, hown3, hg3⟩
   have hbl3 : Below g w w3 := (HB.out.grown (HG2.out.trans hg3) (by rw [HG.out]; exact HB.out.size) (by intro k hk; cases hk; exact Nat.le_refl _))
   rw [HS.out] at hown3
   have HO3 := Aa hown3
   have HB3 := Aa hbl3
   clear hown3 hbl3 hg3
   go_wp2_with fail
   refine ⟨⟨k + 1, by omega, ?_, HO3.out, HB3.out⟩, ?_⟩
   ·have := HJ.out
    congr 1
    omega
   ·have := HJ.out
    simp [intOf]
  ·obtain rfl : k = c.length := by omega
   have HO := Aa hownr
   have HB := Aa hbl
   clear hownr hbl
   go_wp2_with fail
   go_ret
   rw [← HG.out]
   refine ⟨_, rfl, ?_, HB.out⟩
   have := HO.out
   unfold Row at this
   rw [BY] at this
   exact this
end Go.Proofs.YtonjphollmdicaaGreatDoor
namespace Go.Proofs.YtonjphollmdicaaGreatDoor
open Math
def KT (c : List (List Nat)) (p : Nat) : List F := c.map fun r => F.ofNat (r.getD p 0)
theorem OP (c : List (List Nat)) (t width p : Nat) (hp : p < width) (ht : t < 65536) (hc : ∀ r ∈ c, ∀ x ∈ r, x < 65536) (_hl : ∀ r ∈ c, r.length = width) :
  ∀ k, k ≤ c.length → F.ofNat ((BX c t width k).getD p 0) = ev ((KT c p).drop (c.length - k)) (F.ofNat t) := by
 intro k
 induction k with
 | zero =>
  intro _
  rw [Nat.sub_zero, List.drop_eq_nil_of_le (by simp [KT])]
  simp only [BX, ev]
  simp [hp]
  rfl
 | succ k ih =>
  intro hk
  have hv := Et hc t width k
  have hvl := BY c t width k
  have h1 : (BX c t width (k + 1)).getD p 0 = (BE (BX c t width k) t).getD p 0 ^^^ Math.mul ((c.getD (c.length - 1 - k) []).getD p 0) 1 := by
   simp only [BX, D8]
   rw [List.getD_eq_getElem?_getD, List.getElem?_map, List.getElem?_range (by rw [BR, hvl]; exact hp)]
   rfl
  have h2 : (BE (BX c t width k) t).getD p 0 = Math.mul ((BX c t width k).getD p 0) t := by
   simp only [BE]
   rw [List.getD_eq_getElem?_getD, List.getElem?_map, List.getElem?_range (by rw [hvl]; exact hp)]
   rfl
  have hj : c.length - 1 - k < (KT c p).length := by simp [KT]; omega
  have h3 : (KT c p).drop (c.length - (k + 1)) = F.ofNat ((c.getD (c.length - 1 - k) []).getD p 0) :: (KT c p).drop (c.length - k) := by
   rw [show c.length - (k + 1) = c.length - 1 - k from by omega, List.drop_eq_getElem_cons hj, show c.length - 1 - k + 1 = c.length - k from by omega]
   congr 1
   have hj' : c.length - 1 - k < c.length := by omega
   simp [KT, hj']
  have hx := AP (E8 hc (c.length - 1 - k)) p
  rw [h1, h2, h3, Math.mul_one hx, Ev (Math.mul_lt (AP hv p) t) hx, Cl (AP hv p) ht, ih (by omega)]
  simp only [ev]
  rw [F.add_comm, F.mul_comm]
def pt (i : Nat) : F := F.ofNat i
theorem ID (pts : List Nat) (rows ys : List (List Nat)) (width t : Nat) (hnd : pts.Nodup) (hp : ∀ x ∈ pts, x < 65536) (ht : t < 65536) (hl : rows.length = pts.length) (hys : ys.length = pts.length)
  (hr : ∀ r ∈ rows, r.length = width ∧ ∀ x ∈ r, x < 65536) (hy : ∀ r ∈ ys, r.length = width ∧ ∀ x ∈ r, x < 65536)
  (hsol : ∀ i, i < pts.length → ∀ p, p < width → ev (KT ys p) (qt pts i) = F.ofNat ((rows.getD i []).getD p 0)) :
  JL ys t width = Jr rows (Bc pts (AX pts) t) width := by
 have hws := DM pts (AX pts) t (Dx pts)
 have hv := Et (fun r hr => (hy r hr).2) t width ys.length
 refine RU (by rw [Hy]; exact BY _ _ _ _) hv (RF rows hws width) (fun p hpw => ?_)
 rw [Hy] at hpw
 have b1 := OP ys t width p hpw ht (fun r hr => (hy r hr).2) (fun r hr => (hy r hr).1) ys.length (Nat.le_refl _)
 rw [Nat.sub_self, List.drop_zero] at b1
 rw [QI pts rows width t p hnd hp ht hl (fun r hr' => (hr r hr').2) hpw (KT ys p) (by simp [KT, hys]) (fun i hi => hsol i hi p hpw), ← b1]
 rfl
theorem MR (rows ys : List (List Nat)) (width j : Nat) (hK : rows.length ≤ 1000) (hj : j ≤ 1000) (hys : ys.length = rows.length)
  (hr : ∀ r ∈ rows, r.length = width ∧ ∀ x ∈ r, x < 65536) (hy : ∀ r ∈ ys, r.length = width ∧ ∀ x ∈ r, x < 65536)
  (hsol : ∀ i, i < rows.length → ∀ p, p < width → ev (KT ys p) (pt i) = F.ofNat ((rows.getD i []).getD p 0)) :
  JL ys (rows.length + j) width = BZ rows width j := by
 have hpl : (Ch rows.length).length = rows.length := by simp [Ch]
 exact ID (Ch rows.length) rows ys width (rows.length + j) List.nodup_range (IC _ hK) (by omega) hpl.symm (by rw [hpl]; exact hys) hr hy (fun i hi p hp => by
  rw [hpl] at hi
  have : qt (Ch rows.length) i = pt i := by unfold qt pt Ch; simp [hi]
  rw [this]
  exact hsol i hi p hp)
end Go.Proofs.YtonjphollmdicaaGreatDoor
