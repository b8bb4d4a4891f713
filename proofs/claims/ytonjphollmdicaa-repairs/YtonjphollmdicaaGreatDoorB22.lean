import Derived.Test.YtonjphollmdicaaGreatDoorB00
import Derived.Test.YtonjphollmdicaaGreatDoorB02
import Derived.Test.YtonjphollmdicaaGreatDoorB21
namespace Go.Proofs.YtonjphollmdicaaGreatDoor.Math
def F : Type := { a : Nat // a < 65536 }
namespace F
def ofNat (n : Nat) : F := ⟨n % 65536, Nat.mod_lt _ (by decide)⟩
instance : Add F := ⟨fun x y => ⟨x.1 ^^^ y.1, Nat.xor_lt_two_pow (n := 16) x.2 y.2⟩⟩
instance : Mul F := ⟨fun x y => ⟨mul x.1 y.1, mul_lt x.2 y.1⟩⟩
def zero : F := ⟨0, by decide⟩
def one : F := ⟨1, by decide⟩
def inv (x : F) : F := ⟨Math.inv x.1, inv_lt x.2⟩
theorem ext {x y : F} (h : x.1 = y.1) : x = y := Subtype.ext h
theorem val_add (x y : F) : (x + y).1 = x.1 ^^^ y.1 := rfl
theorem val_inv (x : F) : (inv x).1 = Math.inv x.1 := rfl
theorem val_mul (x y : F) : (x * y).1 = mul x.1 y.1 := rfl
theorem add_comm (x y : F) : x + y = y + x := ext (Nat.xor_comm _ _)
theorem add_assoc (x y z : F) : x + y + z = x + (y + z) := ext (Nat.xor_assoc _ _ _)
theorem add_self (x : F) : x + x = zero := ext (Nat.xor_self _)
theorem add_zero (x : F) : x + zero = x := ext (Nat.xor_zero _)
theorem zero_add (x : F) : zero + x = x := ext (Nat.zero_xor _)
theorem mul_comm (x y : F) : x * y = y * x := ext (Math.mul_comm x.2 y.2)
theorem mul_assoc (x y z : F) : x * y * z = x * (y * z) := ext (Math.mul_assoc x.2 y.2)
theorem mul_one (x : F) : x * one = x := ext (Math.mul_one x.2)
theorem one_mul (x : F) : one * x = x := ext (Math.one_mul x.2)
theorem mul_zero (x : F) : x * zero = zero := ext (Math.mul_zero _)
theorem zero_mul (x : F) : zero * x = zero := ext (Math.zero_mul _)
theorem mul_add (x y z : F) : x * (y + z) = x * y + x * z := ext (mul_xor_right _ _ _)
theorem add_mul (x y z : F) : (x + y) * z = x * z + y * z := ext (mul_xor_left _ _ _)
theorem ne_zero {x : F} (h : x ≠ zero) : x.1 ≠ 0 := fun e => h (ext e)
theorem mul_inv {x : F} (h : x ≠ zero) : x * inv x = one := ext (Math.mul_inv x.2 (ne_zero h))
theorem mul_eq_zero {x y : F} (h : x * y = zero) : x = zero ∨ y = zero := by
  by_cases hx : x = zero
  · exact Or.inl hx
  · by_cases hy : y = zero
    · exact Or.inr hy
    · exact absurd (congrArg Subtype.val h) ((mul_ne_zero x.2 y.2).2 ⟨ne_zero hx, ne_zero hy⟩)
instance : Std.Associative (α := F) (· + ·) := ⟨add_assoc⟩
instance : Std.Commutative (α := F) (· + ·) := ⟨add_comm⟩
instance : Std.Associative (α := F) (· * ·) := ⟨mul_assoc⟩
instance : Std.Commutative (α := F) (· * ·) := ⟨mul_comm⟩
theorem eq_of_add {x y : F} (h : x + y = zero) : x = y := by
  have : x + y + y = zero + y := by rw [h]
  rw [add_assoc, add_self, add_zero, zero_add] at this
  exact this
end F
open F
def ev : List F → F → F
  | [], _ => zero
  | c :: cs, t => c + t * ev cs t
def synth (a : F) : List F → List F
  | [] => []
  | [_] => []
  | _ :: d :: cs => ev (d :: cs) a :: synth a (d :: cs)
theorem synth_length (a : F) : ∀ cs : List F, (synth a cs).length = cs.length - 1
  | [] => rfl
  | [_] => rfl
  | _ :: d :: cs => by
    have := synth_length a (d :: cs)
    simp only [synth, List.length_cons] at this ⊢
    omega
theorem synth_ev (a t : F) : ∀ cs : List F, ev cs t = ev cs a + (t + a) * ev (synth a cs) t
  | [] => by simp only [ev, synth, F.mul_zero, F.add_zero]
  | [c] => by simp only [ev, synth, F.mul_zero, F.add_zero]
  | c :: d :: cs => by
    have ih := synth_ev a t (d :: cs)
    have e1 : ev (c :: d :: cs) t = c + t * ev (d :: cs) t := rfl
    have e2 : ev (c :: d :: cs) a = c + a * ev (d :: cs) a := rfl
    have e3 : ev (synth a (c :: d :: cs)) t = ev (d :: cs) a + t * ev (synth a (d :: cs)) t := rfl
    rw [e1, e2, e3, ih]
    generalize ev (d :: cs) a = u
    generalize ev (synth a (d :: cs)) t = q
    simp only [F.mul_add, F.add_mul]
    have h1 : c + a * u + (t * u + a * u + (t * (t * q) + a * (t * q))) = c + (t * u + (t * (t * q) + a * (t * q))) + (a * u + a * u) := by ac_rfl
    rw [h1, F.add_self, F.add_zero]
    have h2 : t * (a * q) = a * (t * q) := by ac_rfl
    rw [h2]
theorem synth_zero (a : F) : ∀ cs : List F, ev cs a = zero → (∀ x ∈ synth a cs, x = zero) → ∀ x ∈ cs, x = zero
  | [], _, _ => by intro x hx; cases hx
  | [c], h, _ => by
    intro x hx
    simp only [List.mem_singleton] at hx
    subst hx
    simpa only [ev, F.mul_zero, F.add_zero] using h
  | c :: d :: cs, h, hq => by
    have h1 : ev (d :: cs) a = zero := hq _ (by simp [synth])
    have h2 := synth_zero a (d :: cs) h1 (fun x hx => hq x (by simp only [synth, List.mem_cons]; exact Or.inr hx))
    intro x hx
    rcases List.mem_cons.1 hx with rfl | hx
    · have e2 : ev (x :: d :: cs) a = x + a * ev (d :: cs) a := rfl
      rw [e2, h1, F.mul_zero, F.add_zero] at h
      exact h
    · exact h2 x hx
theorem roots_zero : ∀ (rs cs : List F), rs.Nodup → cs.length ≤ rs.length → (∀ r ∈ rs, ev cs r = zero) → ∀ x ∈ cs, x = zero
  | [], cs, _, hl, _ => by
    have : cs = [] := List.eq_nil_of_length_eq_zero (by simpa using hl)
    subst this
    intro x hx; cases hx
  | a :: rs, cs, hn, hl, hr => by
    have hn' := List.nodup_cons.1 hn
    refine synth_zero a cs (hr a (by simp)) (roots_zero rs (synth a cs) hn'.2 (by rw [synth_length]; simp at hl; omega) ?_)
    intro r hrm
    have h1 := synth_ev a r cs
    rw [hr r (List.mem_cons_of_mem _ hrm), hr a (by simp), F.zero_add] at h1
    rcases F.mul_eq_zero h1.symm with h2 | h2
    · have := F.eq_of_add h2
      subst this
      exact absurd hrm hn'.1
    · exact h2
theorem ev_zero : ∀ (cs : List F), (∀ x ∈ cs, x = zero) → ∀ t, ev cs t = zero
  | [], _, _ => rfl
  | c :: cs, h, t => by
    have e : ev (c :: cs) t = c + t * ev cs t := rfl
    rw [e, ev_zero cs (fun x hx => h x (List.mem_cons_of_mem _ hx)) t, F.mul_zero, F.add_zero]
    exact h c (by simp)
def addP (p q : List F) : List F := List.zipWith (· + ·) p q
theorem ev_add : ∀ (p q : List F), p.length = q.length → ∀ t, ev (addP p q) t = ev p t + ev q t
  | [], [], _, t => by simp only [addP, List.zipWith_nil_left, ev, F.add_zero]
  | a :: p, b :: q, h, t => by
    have ih := ev_add p q (by simpa using h) t
    have e : ev (addP (a :: p) (b :: q)) t = (a + b) + t * ev (addP p q) t := rfl
    have e1 : ev (a :: p) t = a + t * ev p t := rfl
    have e2 : ev (b :: q) t = b + t * ev q t := rfl
    rw [e, e1, e2, ih, F.mul_add]
    ac_rfl
theorem addP_length (p q : List F) (h : p.length = q.length) : (addP p q).length = q.length := by simp [addP, h]
def scaleP (s : F) (p : List F) : List F := p.map (s * ·)
theorem ev_scale (s t : F) : ∀ p : List F, ev (scaleP s p) t = s * ev p t
  | [] => by simp only [scaleP, List.map_nil, ev, F.mul_zero]
  | a :: p => by
    have ih := ev_scale s t p
    have e : ev (scaleP s (a :: p)) t = s * a + t * ev (scaleP s p) t := rfl
    have e1 : ev (a :: p) t = a + t * ev p t := rfl
    rw [e, e1, ih, F.mul_add]
    congr 1
    ac_rfl
theorem scaleP_length (s : F) (p : List F) : (scaleP s p).length = p.length := by simp [scaleP]
theorem ev_snoc (t : F) : ∀ p : List F, ev (p ++ [zero]) t = ev p t
  | [] => by simp only [List.nil_append, ev, F.mul_zero, F.add_zero]
  | a :: p => by
    have ih := ev_snoc t p
    have e : ev (a :: p ++ [zero]) t = a + t * ev (p ++ [zero]) t := rfl
    rw [e, ih]
    rfl
def mulLin (a : F) (p : List F) : List F := addP (zero :: p) (scaleP a (p ++ [zero]))
theorem ev_mulLin (a t : F) (p : List F) : ev (mulLin a p) t = (t + a) * ev p t := by
  unfold mulLin
  rw [ev_add _ _ (by simp [scaleP]), ev_scale, ev_snoc, F.add_mul]
  congr 1
  exact F.zero_add _
theorem mulLin_length (a : F) (p : List F) : (mulLin a p).length = p.length + 1 := by
  unfold mulLin
  rw [addP_length _ _ (by simp [scaleP])]
  simp [scaleP]
def sumF (f : Nat → F) : Nat → F
  | 0 => zero
  | n + 1 => sumF f n + f n
def prodF (f : Nat → F) : Nat → F
  | 0 => F.one
  | n + 1 => prodF f n * f n
theorem sumF_congr {f g : Nat → F} : ∀ n, (∀ i, i < n → f i = g i) → sumF f n = sumF g n
  | 0, _ => rfl
  | n + 1, h => by simp only [sumF]; rw [sumF_congr n (fun i hi => h i (by omega)), h n (by omega)]
theorem sumF_zero {f : Nat → F} : ∀ n, (∀ i, i < n → f i = zero) → sumF f n = zero
  | 0, _ => rfl
  | n + 1, h => by simp only [sumF]; rw [sumF_zero n (fun i hi => h i (by omega)), h n (by omega), F.add_zero]
theorem sumF_single {f : Nat → F} (m : Nat) : ∀ n, m < n → (∀ i, i < n → i ≠ m → f i = zero) → sumF f n = f m
  | 0, h, _ => by omega
  | n + 1, h, hz => by
    simp only [sumF]
    by_cases e : m = n
    · subst e
      rw [sumF_zero m (fun i hi => hz i (by omega) (by omega)), F.zero_add]
    · rw [sumF_single m n (by omega) (fun i hi hne => hz i (by omega) hne), hz n (by omega) (by omega), F.add_zero]
theorem prodF_zero {f : Nat → F} (m : Nat) : ∀ n, m < n → f m = zero → prodF f n = zero
  | 0, h, _ => by omega
  | n + 1, h, hz => by
    simp only [prodF]
    by_cases e : m = n
    · subst e; rw [hz, F.mul_zero]
    · rw [prodF_zero m n (by omega) hz, F.zero_mul]
theorem prodF_ne {f : Nat → F} : ∀ n, (∀ i, i < n → f i ≠ zero) → prodF f n ≠ zero
  | 0, _ => fun h => absurd (congrArg Subtype.val h) (show ¬ (1 : Nat) = 0 from by decide)
  | n + 1, h => fun e => by
    simp only [prodF] at e
    rcases F.mul_eq_zero e with e | e
    · exact prodF_ne n (fun i hi => h i (by omega)) e
    · exact h n (by omega) e
def skip (p : Nat → F) (i : Nat) (t : F) (j : Nat) : F := if j = i then F.one else t + p j
def lp (p : Nat → F) (i : Nat) : Nat → List F
  | 0 => [F.one]
  | n + 1 => if n = i then lp p i n else mulLin (p n) (lp p i n)
theorem ev_lp (p : Nat → F) (i : Nat) (t : F) : ∀ n, ev (lp p i n) t = prodF (skip p i t) n
  | 0 => by simp only [lp, prodF, ev, F.mul_zero, F.add_zero]
  | n + 1 => by
    simp only [lp, prodF, skip]
    split
    · rw [ev_lp p i t n, F.mul_one]
      try rfl
    · rw [ev_mulLin, ev_lp p i t n, F.mul_comm]
      try rfl
theorem lp_length (p : Nat → F) (i : Nat) : ∀ n, (lp p i n).length = if i < n then n else n + 1
  | 0 => by simp [lp]
  | n + 1 => by
    simp only [lp]
    split
    · rename_i e; subst e; rw [lp_length p n n]; simp
    · rw [mulLin_length, lp_length p i n]
      by_cases h : i < n
      · rw [if_pos h, if_pos (by omega)]
      · rw [if_neg h, if_neg (by omega)]
def sumP (K : Nat) (f : Nat → List F) : Nat → List F
  | 0 => List.replicate K zero
  | n + 1 => addP (sumP K f n) (f n)
theorem sumP_length (K : Nat) (f : Nat → List F) : ∀ n, (∀ i, i < n → (f i).length = K) → (sumP K f n).length = K
  | 0, _ => by simp [sumP]
  | n + 1, h => by
    simp only [sumP]
    rw [addP_length _ _ (by rw [sumP_length K f n (fun i hi => h i (by omega)), h n (by omega)]), h n (by omega)]
theorem ev_sumP (K : Nat) (f : Nat → List F) (t : F) : ∀ n, (∀ i, i < n → (f i).length = K) → ev (sumP K f n) t = sumF (fun i => ev (f i) t) n
  | 0, _ => ev_zero _ (by intro x hx; exact (List.mem_replicate.1 hx).2) t
  | n + 1, h => by
    simp only [sumP, sumF]
    rw [ev_add _ _ (by rw [sumP_length K f n (fun i hi => h i (by omega)), h n (by omega)]), ev_sumP K f t n (fun i hi => h i (by omega))]
theorem lagrange (K : Nat) (p : Nat → F) (hp : ∀ i j, i < K → j < K → p i = p j → i = j) (cs : List F) (hcs : cs.length = K) (t : F) :
    ev cs t = sumF (fun i => (F.inv (prodF (skip p i (p i)) K) * prodF (skip p i t) K) * ev cs (p i)) K := by
  have hd : ∀ i, i < K → prodF (skip p i (p i)) K ≠ zero := by
    intro i hi
    refine prodF_ne K (fun j hj => ?_)
    unfold skip
    split
    · exact fun h => absurd (congrArg Subtype.val h) (by decide)
    · intro h
      exact absurd (hp i j hi hj (F.eq_of_add h)) (by omega)
  have hlen : ∀ i, i < K → (scaleP (ev cs (p i) * F.inv (prodF (skip p i (p i)) K)) (lp p i K)).length = K := by
    intro i hi
    rw [scaleP_length, lp_length, if_pos hi]
  have hL : (sumP K (fun i => scaleP (ev cs (p i) * F.inv (prodF (skip p i (p i)) K)) (lp p i K)) K).length = K := sumP_length K _ K hlen
  have hev : ∀ u, ev (sumP K (fun i => scaleP (ev cs (p i) * F.inv (prodF (skip p i (p i)) K)) (lp p i K)) K) u = sumF (fun i => (ev cs (p i) * F.inv (prodF (skip p i (p i)) K)) * prodF (skip p i u) K) K := by
    intro u
    rw [ev_sumP K _ u K hlen]
    exact sumF_congr K (fun i _ => by rw [ev_scale, ev_lp])
  have hz := roots_zero ((List.range K).map p) (addP cs (sumP K (fun i => scaleP (ev cs (p i) * F.inv (prodF (skip p i (p i)) K)) (lp p i K)) K)) (by
      rw [List.nodup_iff_pairwise_ne, List.pairwise_map]
      refine List.Pairwise.imp_of_mem ?_ (List.nodup_range (n := K))
      intro a b ha hb hab e
      exact hab (hp a b (by simpa using ha) (by simpa using hb) e)) (by rw [addP_length _ _ (by rw [hcs, hL]), hL]; simp) (by
      intro r hr
      obtain ⟨m, hm, rfl⟩ := List.mem_map.1 hr
      have hm' : m < K := by simpa using hm
      rw [ev_add _ _ (by rw [hcs, hL]), hev, sumF_single m K hm' (by
        intro i hi hne
        rw [prodF_zero (f := skip p i (p m)) m K hm' (by unfold skip; rw [if_neg (fun e => hne e.symm), F.add_self]), F.mul_zero])]
      rw [F.mul_assoc, F.mul_comm (F.inv _), F.mul_inv (hd m hm'), F.mul_one, F.add_self])
  have h0 := ev_zero _ hz t
  rw [ev_add _ _ (by rw [hcs, hL]), hev] at h0
  rw [F.eq_of_add h0]
  exact sumF_congr K (fun i _ => by ac_rfl)
end Go.Proofs.YtonjphollmdicaaGreatDoor.Math
namespace Go.Proofs.YtonjphollmdicaaGreatDoor
open Math
theorem val_ofNat {n : Nat} (h : n < 65536) : (F.ofNat n).1 = n := Nat.mod_eq_of_lt h
theorem add_ofNat {a b : Nat} (ha : a < 65536) (hb : b < 65536) : F.ofNat (a ^^^ b) = F.ofNat a + F.ofNat b :=
 F.ext (by rw [F.val_add, val_ofNat ha, val_ofNat hb, val_ofNat (xor_lt16 ha hb)])
theorem mul_ofNat {a b : Nat} (ha : a < 65536) (hb : b < 65536) : F.ofNat (Math.mul a b) = F.ofNat a * F.ofNat b :=
 F.ext (by rw [F.val_mul, val_ofNat ha, val_ofNat hb, val_ofNat (Math.mul_lt ha b)])
theorem inv_ofNat {a : Nat} (ha : a < 65536) : F.ofNat (Math.inv a) = F.inv (F.ofNat a) :=
 F.ext (by rw [F.val_inv, val_ofNat ha, val_ofNat (Math.inv_lt ha)])
theorem rows_getD_lt {c : List (List Nat)} (h : ∀ r ∈ c, ∀ x ∈ r, x < 65536) (j : Nat) : ∀ x ∈ c.getD j [], x < 65536 := by
 rw [List.getD_eq_getElem?_getD]
 cases e : c[j]? with
 | none => intro x hx; simp at hx
 | some r => exact h r (List.mem_of_getElem? e)
theorem acc_sum (rows : List (List Nat)) (ws : List Nat) (hw : ∀ x ∈ ws, x < 65536) (hr : ∀ r ∈ rows, ∀ x ∈ r, x < 65536) (p : Nat) :
  ∀ k, F.ofNat (accL rows ws k p) = sumF (fun i => F.ofNat (ws.getD i 0) * F.ofNat ((rows.getD i []).getD p 0)) k := by
 intro k
 induction k with
 | zero => rfl
 | succ k ih =>
  have hx := getD_lt (rows_getD_lt hr k) p
  rw [accL_succ, add_ofNat (accL_lt hw k p) (Math.mul_lt (getD_lt hw k) _), mul_ofNat (getD_lt hw k) hx, ih]
  rfl
theorem behind_go (t : Nat) (ht : t < 65536) : ∀ l : List Nat, (∀ x ∈ l, x < 65536) → ∀ x, x < 65536 →
  l.foldr (fun p a => Math.mul a (t ^^^ p)) x < 65536 ∧ F.ofNat (l.foldr (fun p a => Math.mul a (t ^^^ p)) x) = F.ofNat (l.foldr (fun p a => Math.mul a (t ^^^ p)) 1) * F.ofNat x := by
 intro l
 induction l with
 | nil => intro _ x hx; exact ⟨hx, by rw [List.foldr_nil, List.foldr_nil]; exact (F.one_mul _).symm⟩
 | cons p l ih =>
  intro hl x hx
  have h1 := ih (fun y hy => hl y (List.mem_cons_of_mem _ hy)) x hx
  have h2 := ih (fun y hy => hl y (List.mem_cons_of_mem _ hy)) 1 (by decide)
  have h3 : t ^^^ p < 65536 := xor_lt16 ht (hl p (by simp))
  simp only [List.foldr_cons]
  refine ⟨Math.mul_lt h1.1 _, ?_⟩
  rw [mul_ofNat h1.1 h3, mul_ofNat h2.1 h3, h1.2]
  ac_rfl
def qt (pts : List Nat) (i : Nat) : F := F.ofNat (pts.getD i 0)
theorem getD_at {l : List Nat} {i : Nat} (h : i < l.length) : l.getD i 0 = l[i] := by simp [h]
theorem cv_ahead (pts : List Nat) (t : Nat) (ht : t < 65536) (hp : ∀ x ∈ pts, x < 65536) : ∀ i, i ≤ pts.length → F.ofNat (aheadL pts t i) = prodF (fun j => F.ofNat t + qt pts j) i ∧ aheadL pts t i < 65536 := by
 intro i
 induction i with
 | zero => intro _; exact ⟨rfl, show (1 : Nat) < 65536 from by decide⟩
 | succ i ih =>
  intro hi
  obtain ⟨h1, h2⟩ := ih (by omega)
  have hx := hp _ (List.getElem_mem (show i < pts.length by omega))
  have e : aheadL pts t (i + 1) = Math.mul (aheadL pts t i) (t ^^^ pts[i]) := by
   unfold aheadL
   rw [take_snoc pts i (by omega), List.foldl_append]
   rfl
  have h3 : t ^^^ pts[i] < 65536 := xor_lt16 ht hx
  rw [e]
  refine ⟨?_, Math.mul_lt h2 _⟩
  rw [mul_ofNat h2 h3, h1, add_ofNat ht hx]
  simp only [prodF]
  unfold qt
  rw [getD_at (by omega)]
theorem cv_skip (pts : List Nat) (t : Nat) (ht : t < 65536) (hp : ∀ x ∈ pts, x < 65536) (i : Nat) : ∀ n, i < n → n ≤ pts.length →
  prodF (skip (qt pts) i (F.ofNat t)) n = prodF (fun j => F.ofNat t + qt pts j) i * F.ofNat (((pts.take n).drop (i + 1)).foldr (fun p a => Math.mul a (t ^^^ p)) 1) := by
 intro n
 induction n with
 | zero => intro h; omega
 | succ n ih =>
  intro hi hn
  simp only [prodF]
  by_cases e : i = n
  ·subst e
   have h1 : ∀ m, m ≤ i → prodF (skip (qt pts) i (F.ofNat t)) m = prodF (fun j => F.ofNat t + qt pts j) m := by
    intro m
    induction m with
    | zero => intro _; rfl
    | succ m ihm =>
     intro hm
     simp only [prodF]
     rw [ihm (by omega)]
     congr 1
     unfold skip
     rw [if_neg (by omega)]
   rw [h1 i (Nat.le_refl _), List.drop_eq_nil_of_le (by simp; omega)]
   congr 1
   unfold skip
   rw [if_pos rfl]
   rfl
  ·have hb : (pts.take (n + 1)).drop (i + 1) = (pts.take n).drop (i + 1) ++ [pts[n]] := by
    rw [take_snoc pts n (by omega), List.drop_append_of_le_length (by simp; omega)]
   have hl : ∀ x ∈ (pts.take n).drop (i + 1), x < 65536 := fun x hx => hp x (List.mem_of_mem_take (List.mem_of_mem_drop hx))
   have hx := hp _ (List.getElem_mem (show n < pts.length by omega))
   have h3 : t ^^^ pts[n] < 65536 := xor_lt16 ht hx
   rw [ih (by omega) (by omega), hb, List.foldr_append, List.foldr_cons, List.foldr_nil]
   rw [(behind_go t ht _ hl (Math.mul 1 (t ^^^ pts[n])) (Math.mul_lt (by decide) _)).2, Math.one_mul h3, add_ofNat ht hx]
   unfold skip
   rw [if_neg (fun h => e h.symm), F.mul_assoc]
   unfold qt
   rw [getD_at (show n < pts.length by omega)]
theorem cv_diff (pts : List Nat) (hp : ∀ x ∈ pts, x < 65536) (i : Nat) : F.ofNat (diffL pts i) = prodF (skip (qt pts) i (qt pts i)) pts.length ∧ diffL pts i < 65536 := by
 have h : ∀ n, n ≤ pts.length → F.ofNat ((List.range n).foldl (diffStep pts i) 1) = prodF (skip (qt pts) i (qt pts i)) n ∧ (List.range n).foldl (diffStep pts i) 1 < 65536 := by
  intro n
  induction n with
  | zero => intro _; exact ⟨rfl, show (1 : Nat) < 65536 from by decide⟩
  | succ n ih =>
   intro hn
   obtain ⟨h1, h2⟩ := ih (by omega)
   rw [List.range_succ, List.foldl_append, List.foldl_cons, List.foldl_nil]
   simp only [prodF]
   generalize (List.range n).foldl (diffStep pts i) 1 = x at h1 h2 ⊢
   generalize prodF (skip (qt pts) i (qt pts i)) n = y at h1 ⊢
   unfold diffStep
   by_cases e : n = i
   ·rw [if_pos e]
    refine ⟨?_, h2⟩
    unfold skip
    rw [if_pos e, F.mul_one]
    exact h1
   ·have h3 : pts.getD i 0 ^^^ pts.getD n 0 < 65536 := xor_lt16 (getD_lt hp i) (getD_lt hp n)
    rw [if_neg e]
    refine ⟨?_, Math.mul_lt h2 _⟩
    unfold skip
    rw [if_neg e, mul_ofNat h2 h3, add_ofNat (getD_lt hp i) (getD_lt hp n)]
    rw [h1]
    rfl
 exact h pts.length (Nat.le_refl _)
theorem cv_weight (pts : List Nat) (hp : ∀ x ∈ pts, x < 65536) (t i : Nat) (ht : t < 65536) (hi : i < pts.length) :
  F.ofNat ((weightsL pts (scalesL pts) t).getD i 0) = F.inv (prodF (skip (qt pts) i (qt pts i)) pts.length) * prodF (skip (qt pts) i (F.ofNat t)) pts.length := by
 have e : (weightsL pts (scalesL pts) t).getD i 0 = weightL pts (scalesL pts) t i := by
  unfold weightsL
  simp [hi]
 have es : (scalesL pts).getD i 0 = Math.inv (diffL pts i) := by
  unfold scalesL scaleL
  simp [hi]
 obtain ⟨h1, h2⟩ := cv_diff pts hp i
 obtain ⟨h3, h4⟩ := cv_ahead pts t ht hp i (by omega)
 have hbl : ∀ x ∈ pts.drop (i + 1), x < 65536 := fun x hx => hp x (List.mem_of_mem_drop hx)
 have h5 := (behind_go t ht (pts.drop (i + 1)) hbl 1 (by decide)).1
 rw [e]
 unfold weightL firstL
 rw [es, mul_ofNat (Math.mul_lt (Math.inv_lt h2) _) (show behindL pts t (i + 1) < 65536 from h5), mul_ofNat (Math.inv_lt h2) h4, inv_ofNat h2, h1, h3, F.mul_assoc]
 congr 1
 have := cv_skip pts t ht hp i pts.length hi (Nat.le_refl _)
 rw [List.take_of_length_le (Nat.le_refl _)] at this
 exact this.symm
theorem qt_inj {pts : List Nat} (hnd : pts.Nodup) (hp : ∀ x ∈ pts, x < 65536) : ∀ i j, i < pts.length → j < pts.length → qt pts i = qt pts j → i = j := by
 intro i j hi hj h
 have := congrArg Subtype.val h
 unfold qt at this
 rw [val_ofNat (getD_lt hp i), val_ofNat (getD_lt hp j), getD_at hi, getD_at hj] at this
 exact (List.getElem_inj hnd).1 this
theorem curve_at (pts : List Nat) (rows : List (List Nat)) (width t p : Nat) (hnd : pts.Nodup) (hp : ∀ x ∈ pts, x < 65536) (ht : t < 65536) (hl : rows.length = pts.length) (hr : ∀ r ∈ rows, ∀ x ∈ r, x < 65536) (hpw : p < width)
  (cs : List F) (hcs : cs.length = pts.length) (hsol : ∀ i, i < pts.length → ev cs (qt pts i) = F.ofNat ((rows.getD i []).getD p 0)) :
  F.ofNat ((mixL rows (weightsL pts (scalesL pts) t) width).getD p 0) = ev cs (F.ofNat t) := by
 have hws := weights_lt pts (scalesL pts) t (scales_lt pts)
 have a2 : (mixL rows (weightsL pts (scalesL pts) t) width).getD p 0 = accL rows (weightsL pts (scalesL pts) t) rows.length p := by simp [mixL, hpw]
 rw [a2, acc_sum rows _ hws hr p rows.length, lagrange pts.length (qt pts) (qt_inj hnd hp) cs hcs (F.ofNat t), hl]
 exact sumF_congr pts.length (fun i hi => by rw [cv_weight pts hp t i ht hi, hsol i hi])
theorem row_ext {a b : List Nat} (h : a.length = b.length) (ha : ∀ x ∈ a, x < 65536) (hb : ∀ x ∈ b, x < 65536) (hp : ∀ p, p < b.length → F.ofNat (a.getD p 0) = F.ofNat (b.getD p 0)) : a = b := by
 refine List.ext_getElem h (fun p h1 h2 => ?_)
 have := congrArg Subtype.val (hp p h2)
 rw [val_ofNat (getD_lt ha p), val_ofNat (getD_lt hb p), getD_at h1, getD_at h2] at this
 exact this
theorem mix_len (rows : List (List Nat)) (ws : List Nat) (width : Nat) : (mixL rows ws width).length = width := by simp [mixL]
theorem mix_lt (rows : List (List Nat)) {ws : List Nat} (hw : ∀ x ∈ ws, x < 65536) (width : Nat) : ∀ x ∈ mixL rows ws width, x < 65536 := by
 intro x hx
 unfold mixL at hx
 rw [List.mem_map] at hx
 obtain ⟨p, _, rfl⟩ := hx
 exact accL_lt hw _ _
end Go.Proofs.YtonjphollmdicaaGreatDoor
namespace Go.Proofs.YtonjphollmdicaaGreatDoor
open Go.ChangeShapes Go.WideShapes Go.ChangeAt Go.RowKit
def bodyL (size : Nat) (fs : List FileL) (i : Nat) : List UInt8 := fileBodyL i (fs.getD i ([], [])).1 (fs.getD i ([], [])).2 (cutL (fs.getD i ([], [])).2 size)
def bodiesL (size : Nat) (fs : List FileL) : List (List UInt8) := (List.range fs.length).map (bodyL size fs)
def slicesL (size : Nat) (fs : List FileL) : List (List UInt8) := fs.flatMap fun f => cutL f.2 size
def rowsL (size : Nat) (fs : List FileL) : List (List Nat) := (slicesL size fs).map rowL
theorem cutL_len (data : List UInt8) (size : Nat) (h0 : 0 < size) : (cutL data size).length = slicesOfN data.length size ∧ ∀ t ∈ cutL data size, t.length = size := by
 refine ⟨by simp [cutL], ?_⟩
 intro t ht
 simp only [cutL, List.mem_map, List.mem_range] at ht
 obtain ⟨i, hi, rfl⟩ := ht
 have hp := pad_len data size _ h0 rfl
 have m1 : (i + 1) * size ≤ slicesOfN data.length size * size := Nat.mul_le_mul_right _ hi
 have m2 : (i + 1) * size = i * size + size := Nat.succ_mul i size
 unfold pieceL
 rw [List.length_take, List.length_drop, hp]
 omega
theorem rowsL_len (size : Nat) (fs : List FileL) (h0 : 0 < size) (hf : ∀ f ∈ fs, f.2.length ≤ 400) : (rowsL size fs).length ≤ 400 * fs.length := by
 induction fs with
 | nil => simp [rowsL, slicesL]
 | cons f fs ih =>
  have h1 := ih (fun g hg => hf g (by simp [hg]))
  have h2 := slicesOfN_le f.2.length size h0
  have h3 := hf f (by simp)
  have h4 := (cutL_len f.2 size h0).1
  simp only [rowsL, slicesL, List.flatMap_cons, List.map_append, List.length_append, List.length_map, List.length_cons] at h1 ⊢
  omega
set_option maxRecDepth 100000 in
set_option maxHeartbeats 1000000 in
theorem describe_walk (fs : List FileL) (size : Nat) (a : Option Addr) (cap : Nat) (hn : fs.length ≤ 6) (h0 : 0 < size) (h1 : size ≤ 32) (hf : ∀ f ∈ fs, f.1.length ≤ 20 ∧ f.2.length ≤ 400) (w : World) (hrd : Rd w a (filesV fs)) :
  Calls Tryz.prog 97 #[.slice a fs.length cap, .int .i64 (size : Int)] w fun e w' => ∃ vb vr, e = .returned (.tuple #[vb, vr]) ∧ w'.ownsRow w.heap.size 9 1 vb fs.length (strV (bodiesL size fs)) ∧ OwnRows w' w.heap.size vr (rowsL size fs) ∧ Below w.heap.size w w' := by
 obtain ⟨i0, hi, hz0, hz1, hz2⟩ := info_parts Tryz.infoS
 obtain ⟨i1, hj, hy0, hy1, hy2⟩ := info_parts Tryz.infoRow
 go_enter Tryz.func97, Tryz.ntmps97
 go_wp2_with (at_make; refine wpList_make_own _ rfl _ _ 23 rfl w.heap.size 9 i0 (.string ByteArray.empty) 1 Tryz.underlying23 hi hz0 hz1 .i64 .i64 _ fs.length rfl rfl rfl ?c1 ?c2 (Nat.le_refl _) ?_)
 case c1 => rw [hz2]; omega
 case c2 => unfold maxLen; omega
 intro w1 hown1 hg1
 have hb1 : Below w.heap.size w w1 := (Below.refl _ w).grown hg1 (Nat.le_refl _) (by simp)
 have hsz1 := hb1.size
 clear hg1
 have hr1 : OwnRows (w1.alloc (.cells #[] 167)) w.heap.size (.slice (some ⟨w1.heap.size, 0, none⟩) 0 0) [] := by
  refine ⟨[], World.ownsRow_lit w1 #[] 0 hsz1 (Nat.zero_le _) rfl, fun j r hj => by simp at hj⟩
 have ho1 := hown1.alloc (.cells #[] 167)
 have hb2 := hb1.alloc hsz1 (.cells #[] 167)
 have H1 := hid_of hr1
 have H2 := hid_of ho1
 have H3 := hid_of hb2
 clear hr1 ho1 hb2 hown1 hb1
 go_wp2_with fail
 go_loopw [6, 7, 8, 9, 10, 12, 19] (fun vb vr _ _ _ _ i wr => ∃ k : Nat, k ≤ fs.length ∧ i = .int .i64 (k : Int) ∧ wr.ownsRow w.heap.size 9 1 vb k (strV ((bodiesL size fs).take k)) ∧ OwnRows wr w.heap.size vr (rowsL size (fs.take k)) ∧ Below w.heap.size w wr)
  (fun _ _ _ _ _ _ i _ => fs.length - (intOf i).toNat)
 case atStart => exact ⟨0, by omega, rfl, by simpa [strV] using H2.out, by simpa [rowsL, slicesL] using H1.out, H3.out⟩
 case round =>
  clear H1 H2 H3
  obtain ⟨k, hk, rfl, hownb, hownr, hbl⟩ := hrel
  have hsz := hbl.size
  by_cases hlt : k < fs.length
  ·obtain ⟨b, off, rfl, hc1, hc2⟩ := fileCells hrd (Nat.le_refl _) hbl k hlt
   have hfk := hf fs[k] (List.getElem_mem hlt)
   obtain ⟨name, data, hfe⟩ : ∃ n d, fs[k] = (n, d) := ⟨_, _, rfl⟩
   rw [hfe] at hc1 hc2 hfk
   simp only at hc1 hc2 hfk
   have HFE := hid_of hfe
   clear hfe
   obtain ⟨wo, hwo⟩ : ∃ x, x = wr := ⟨_, rfl⟩
   subst hwo
   have hWb : Below wo.heap.size wo (wo.alloc (.cells #[.string (str name), .string (str data)] 62)) := (Below.refl _ _).alloc (Nat.le_refl _) _
   have hWp := Pair.new wo (.string (str name)) (.string (str data)) 62
   obtain ⟨W, hW⟩ : ∃ W, W = wo.alloc (.cells #[.string (str name), .string (str data)] 62) := ⟨_, rfl⟩
   rw [← hW] at hWb hWp
   have hWs : W.heap.size = wo.heap.size + 1 := by rw [hW]; simp
   have hC := Cut_l data size h0 h1 (by omega) W
   obtain ⟨hcl, hcz⟩ := cutL_len data size h0
   have hcm : (cutL data size).length ≤ 400 := by rw [hcl]; exact Nat.le_trans (slicesOfN_le _ _ h0) hfk.2
   rw [← hcl] at hC
   have K1 := hid_of hWb
   have K2 := hid_of hWp
   have K3 := hid_of hW
   have K4 := hid_of hWs
   have K5 := hid_of hC
   have K6 := hid_of hcl
   have K7 := hid_of hcz
   have K8 := hid_of hownb
   have K9 := hid_of hownr
   have K10 := hid_of hbl
   have K11 := hid_of hrd
   have K12 := hid_of hf
   clear hWb hWp hW hWs hC hcl hcz hownb hownr hrd hf hbl
   go_wp2_with fail
   rw [← K3.out]
   refine K5.out.mono ?_
   rintro e w2 ⟨vS, rfl, hownS, hb2⟩
   obtain ⟨aS, cS, hvS, _, _, hrS⟩ := ownsRow_rd hownS
   have hp2 : Pair w2 wo.heap.size (.string (str name)) (.string (str data)) := ⟨by rw [hb2.cell (by rw [K4.out]; simp)]; exact K2.out.1, by rw [hb2.cell (by rw [K4.out]; simp)]; exact K2.out.2⟩
   have hq0 := hp2.1
   have hq1 := hp2.2
   have hch2 := Below.next K1.out hb2
   rw [hvS]
   have hF := FileBody_walk k name data (cutL data size) aS cS (by omega) (by omega) (by omega) (by omega) (fun t ht => by rw [K7.out t ht]; omega) w2 hrS
   have L1 := hid_of hF
   have L2 := hid_of hownS
   have L3 := hid_of hch2
   have L4 := hid_of hvS
   clear hF hownS hch2 hvS hrS hb2 hp2
   go_wp2_with fail
   refine L1.out.mono ?_
   rintro e w3 ⟨rfl, hb3⟩
   have hch3 := Below.next L3.out hb3
   have hownb3 := ownsRow_later K8.out (Nat.le_refl _) hch3
   have hownr3 := K9.out.later hch3
   have hownS3 := ownsRow_later L2.out (Nat.le_refl _) hb3
   have hbl3 : Below w.heap.size w w3 := K10.out.trans (hch3.mono (by omega))
   have hsz3 := hbl3.size
   have M1 := hid_of hch3
   have M2 := hid_of hownr3
   have M3 := hid_of hownS3
   have M4 := hid_of hbl3
   clear hch3 hownr3 hownS3 hbl3 hb3 hq0 hq1
   go_wp2_with (at_builtin; refine wpList_append_own _ rfl (.tmp 28) (.tmp 33) 23 rfl w.heap.size 9 i0 (.string ByteArray.empty) 1 16 Tryz.underlying23 hi hz0 hz1 hz2 rfl (by decide) _ _ _ rfl (hownb3.alloc _) ⟨w3.heap.size, 0, none⟩ 1 1 [.string (str (fileBodyL k name data (cutL data size)))] rfl rfl (cell_one_new _ _ _) ?d2 ?d3 ?d4 ?d5 ?_)
   case d2 => intro u hu; simp at hu; subst hu; rfl
   case d3 => unfold maxLen; omega
   case d4 => omega
   case d5 => simp; omega
   intro vb4 w4 hownb4 hg4 _
   have hbl4 := below_step M4.out hsz3 hownb3 hg4
   have hown4' : w4.ownsRow w.heap.size 9 1 vb4 (k + 1) (strV ((bodiesL size fs).take (k + 1))) := by
    have e1 : (bodiesL size fs).take (k + 1) = (bodiesL size fs).take k ++ [fileBodyL k name data (cutL data size)] := by
     rw [take_snoc _ k (by simpa [bodiesL] using hlt)]
     congr 2
     simp only [bodiesL, List.getElem_map, List.getElem_range]
     unfold bodyL
     rw [show fs.getD k ([], []) = (name, data) from by rw [← HFE.out]; simp [hlt]]
    rw [e1]
    simpa [strV] using hownb4
   have hrows4 := (M2.out.later ((Below.refl _ _).alloc (Nat.le_refl _) (.cells #[.string (str (fileBodyL k name data (cutL data size)))] 9))).kept (hownb3.alloc _) (by decide) (by decide) hg4
   have hS4 : w4.ownsRow W.heap.size 9 1 vS (cutL data size).length (strV (cutL data size)) := by
    refine (M3.out.alloc _).kept hg4 ?_
    have l1 := M3.out.lt
    have l2 := K8.out.lt
    cases hvb : vS.ownBlock with
    | none => left; rfl
    | some g =>
     right
     intro e
     have := (l1 g hvb).1
     have := (l2 g e.symm).2
     rw [K4.out] at *
     omega
   have hsz4 := hbl4.size
   have N1 := hid_of hown4'
   have N2 := hid_of hrows4
   have N3 := hid_of hS4
   have N4 := hid_of hbl4
   have hbaseS : w.heap.size ≤ W.heap.size := by rw [K4.out]; omega
   clear hown4' hrows4 hS4 hbl4 hownb4 hg4 hownb3 M1 M2 M3 M4 hc1 hc2 hsz3
   go_wp2_with fail
   go_loopw [7, 12, 37] (fun vr _ i wr => ∃ j : Nat, j ≤ (cutL data size).length ∧ i = .int .i64 (j : Int) ∧ wr.ownsRow w.heap.size 9 1 vb4 (k + 1) (strV ((bodiesL size fs).take (k + 1))) ∧ OwnRows wr w.heap.size vr (rowsL size (fs.take k) ++ ((cutL data size).take j).map rowL) ∧ wr.ownsRow W.heap.size 9 1 vS (cutL data size).length (strV (cutL data size)) ∧ Below w.heap.size w wr)
    (fun _ _ i _ => (cutL data size).length - (intOf i).toNat)
   case atStart => exact ⟨0, by omega, rfl, N1.out, by simpa using N2.out, N3.out, N4.out⟩
   case round =>
    clear N1 N2 N3 N4 hsz4
    obtain ⟨j, hjl, rfl, hob, hor, hoS, hbl⟩ := hrel
    have hsz5 := hbl.size
    by_cases hjlt : j < (cutL data size).length
    ·obtain ⟨aS', cS', hvS', _, _, hrS⟩ := ownsRow_rd hoS
     rw [L4.out] at hvS'
     cases hvS'
     obtain ⟨b3, off3, rfl, hc3⟩ := hrS j (.string (str (cutL data size)[j])) (by simp [strV, hjlt])
     have htz := K7.out (cutL data size)[j] (List.getElem_mem hjlt)
     have hR := ReadRow_walk (cutL data size)[j] (by omega) wr
     have P0 := hid_of htz
     clear htz
     have P1 := hid_of hR
     have P2 := hid_of hob
     have P3 := hid_of hor
     have P4 := hid_of hoS
     have P5 := hid_of hbl
     clear hR hob hor hoS hbl hrS
     go_wp2_with fail
     refine P1.out.mono ?_
     rintro e w5 ⟨v5, rfl, hown5, hb5⟩
     have hor5 := P3.out.later hb5
     obtain ⟨vs, hv1, hv2⟩ := hor5
     have hob5 := ownsRow_later P2.out (Nat.le_refl _) hb5
     have hoS5 := ownsRow_later P4.out (Nat.le_refl _) hb5
     have hbl5 : Below w.heap.size w w5 := P5.out.trans (hb5.mono (by omega))
     have hsz6 := hbl5.size
     have hrl : (rowL (cutL data size)[j]).length = (cutL data size)[j].length / 2 := rowL_length _
     rw [← hrl] at hown5
     have hown5' := ownsRow_base (base' := w.heap.size) (by omega) hown5
     have hnl : (rowsL size (fs.take k) ++ ((cutL data size).take j).map rowL).length ≤ 100000 := by
      rw [List.length_append, List.length_map, List.length_take]
      have := rowsL_len size (fs.take k) h0 (fun f hf' => (K12.out f (List.mem_of_mem_take hf')).2)
      have h6 : (fs.take k).length ≤ 6 := by rw [List.length_take]; omega
      omega
     have Q2 := hid_of hv2
     have Q3 := hid_of hob5
     have Q4 := hid_of hoS5
     have Q5 := hid_of hbl5
     have Q6 := hid_of hown5'
     have Q7 := hid_of hrl
     clear hrl
     obtain ⟨a5, c5, hv5, _, _, _⟩ := ownsRow_rd hown5
     rw [hv5] at Q6 ⊢
     clear hv2 hob5 hoS5 hbl5 hown5 hown5' hb5 P1 P2 P3 P4 P5
     go_wp2_with (at_builtin; refine wpList_append_own _ rfl (.tmp 41) (.tmp 44) 160 rfl w.heap.size 167 i1 (.slice none 0 0) 1 24 Tryz.underlying160 hj hy0 hy1 hy2 rfl (by decide) _ _ _ rfl (hv1.alloc _) ⟨w5.heap.size, 0, none⟩ 1 1 [.slice a5 (rowL (cutL data size)[j]).length c5] rfl rfl (cell_one_new _ _ _) ?f2 ?f3 ?f4 ?f5 ?_)
     case f2 => intro u hu; simp at hu; subst hu; rfl
     case f3 => unfold maxLen; omega
     case f4 => omega
     case f5 => simp; omega
     intro v6 w6 hown6 hg6 _
     have hbl6 := below_step Q5.out hsz6 hv1 hg6
     have hal : Below w5.heap.size w5 (w5.alloc (.cells #[.slice a5 (rowL (cutL data size)[j]).length c5] 167)) := (Below.refl _ _).alloc (Nat.le_refl _) _
     have hrows6 : OwnRows w6 w.heap.size v6 (rowsL size (fs.take k) ++ ((cutL data size).take (j + 1)).map rowL) := by
      have hlen : (rowsL size (fs.take k) ++ ((cutL data size).take j).map rowL).length = (rowsL size (fs.take k)).length + j := by
       rw [List.length_append, List.length_map, List.length_take, Nat.min_eq_left hjl]
      rw [← hlen] at hown6
      have := OwnRows.append (hv1.alloc _) (fun j' r' hj' => by
       obtain ⟨u, m1, m2⟩ := Q2.out j' r' hj'
       exact ⟨u, m1, m2.alloc _⟩) (Q6.out.alloc _) hown6 hg6
      rw [take_snoc _ j hjlt, List.map_append, ← List.append_assoc]
      exact this
     have hob6 := (Q3.out.alloc _).kept hg6 (own_ne Q3.out hv1 (by decide))
     have hoS6 := (Q4.out.alloc _).kept hg6 (own_ne Q4.out hv1 (by decide))
     have R1 := hid_of hbl6
     have R2 := hid_of hrows6
     have R3 := hid_of hob6
     have R4 := hid_of hoS6
     clear hbl6 hrows6 hob6 hoS6 hown6 hg6 hv1 hal
     go_wp2_with fail
     go_roundw
     case rel => exact ⟨j + 1, by omega, by go_num, R3.out, R2.out, R4.out, R1.out⟩
     case measure => simp [intOf]; omega
    ·obtain rfl : j = (cutL data size).length := by omega
     have hrows : rowsL size (fs.take k) ++ ((cutL data size).take (cutL data size).length).map rowL = rowsL size (fs.take (k + 1)) := by
      rw [List.take_length, take_snoc fs k hlt]
      unfold rowsL slicesL
      rw [List.flatMap_append, List.map_append, HFE.out]
      simp
     rw [hrows] at hor
     go_wp2_with fail
     go_roundw
     case rel => exact ⟨k + 1, by omega, by go_num, hob, hor, hbl⟩
     case measure => simp [intOf]; omega
  ·obtain rfl : k = fs.length := by omega
   rw [List.take_length] at hownr
   rw [List.take_of_length_le (by simp [bodiesL])] at hownb
   go_wp2_with fail
   go_ret2
   exact ⟨_, _, rfl, hownb, hownr, hbl⟩
end Go.Proofs.YtonjphollmdicaaGreatDoor
