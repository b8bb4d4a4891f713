import Derived.Test.YtonjphollmdicaaRefValue
import Derived.Test.YtonjphollmdicaaPoly
namespace Go.Proofs.Ytonjphollmdicaa
open Math

theorem val_ofNat {n : Nat} (h : n < 65536) : (F.ofNat n).1 = n := Nat.mod_eq_of_lt h
theorem add_ofNat {a b : Nat} (ha : a < 65536) (hb : b < 65536) : F.ofNat (a ^^^ b) = F.ofNat a + F.ofNat b :=
  F.ext (by rw [F.val_add, val_ofNat ha, val_ofNat hb, val_ofNat (xor_lt16 ha hb)])
theorem mul_ofNat {a b : Nat} (ha : a < 65536) (hb : b < 65536) : F.ofNat (Math.mul a b) = F.ofNat a * F.ofNat b :=
  F.ext (by rw [F.val_mul, val_ofNat ha, val_ofNat hb, val_ofNat (Math.mul_lt ha b)])
theorem inv_ofNat {a : Nat} (ha : a < 65536) : F.ofNat (Math.inv a) = F.inv (F.ofNat a) :=
  F.ext (by rw [F.val_inv, val_ofNat ha, val_ofNat (Math.inv_lt ha)])

/-- one place of rows of coefficients -/
def colF (c : List (List Nat)) (p : Nat) : List F := c.map fun r => F.ofNat (r.getD p 0)

theorem valueGo_ev (c : List (List Nat)) (t width p : Nat) (hp : p < width) (ht : t < 65536) (hc : ∀ r ∈ c, ∀ x ∈ r, x < 65536) (_hl : ∀ r ∈ c, r.length = width) :
    ∀ k, k ≤ c.length → F.ofNat ((valueGo c t width k).getD p 0) = ev ((colF c p).drop (c.length - k)) (F.ofNat t) := by
  intro k
  induction k with
  | zero =>
    intro _
    rw [Nat.sub_zero, List.drop_eq_nil_of_le (by simp [colF])]
    simp only [valueGo, ev]
    simp [hp]
    rfl
  | succ k ih =>
    intro hk
    have hv := valueGo_lt hc t width k
    have hvl := valueGo_length c t width k
    have h1 : (valueGo c t width (k + 1)).getD p 0 = (rscaleL (valueGo c t width k) t).getD p 0 ^^^ Math.mul ((c.getD (c.length - 1 - k) []).getD p 0) 1 := by
      simp only [valueGo, raddL]
      rw [List.getD_eq_getElem?_getD, List.getElem?_map, List.getElem?_range (by rw [scaleL_length, hvl]; exact hp)]
      rfl
    have h2 : (rscaleL (valueGo c t width k) t).getD p 0 = Math.mul ((valueGo c t width k).getD p 0) t := by
      simp only [rscaleL]
      rw [List.getD_eq_getElem?_getD, List.getElem?_map, List.getElem?_range (by rw [hvl]; exact hp)]
      rfl
    have hj : c.length - 1 - k < (colF c p).length := by simp [colF]; omega
    have h3 : (colF c p).drop (c.length - (k + 1)) = F.ofNat ((c.getD (c.length - 1 - k) []).getD p 0) :: (colF c p).drop (c.length - k) := by
      rw [show c.length - (k + 1) = c.length - 1 - k from by omega, List.drop_eq_getElem_cons hj, show c.length - 1 - k + 1 = c.length - k from by omega]
      congr 1
      have hj' : c.length - 1 - k < c.length := by omega
      simp [colF, hj']
    have hx := getD_lt (rows_getD_lt hc (c.length - 1 - k)) p
    rw [h1, h2, h3, Math.mul_one hx, add_ofNat (Math.mul_lt (getD_lt hv p) t) hx, mul_ofNat (getD_lt hv p) ht, ih (by omega)]
    simp only [ev]
    rw [F.add_comm, F.mul_comm]

theorem acc_sum (rows : List (List Nat)) (ws : List Nat) (hw : ∀ x ∈ ws, x < 65536) (hr : ∀ r ∈ rows, ∀ x ∈ r, x < 65536) (p : Nat) :
    ∀ k, F.ofNat (accL rows ws k p) = sumF (fun i => F.ofNat (ws.getD i 0) * F.ofNat ((rows.getD i []).getD p 0)) k := by
  intro k
  induction k with
  | zero => rfl
  | succ k ih =>
    have hx := getD_lt (rows_getD_lt hr k) p
    rw [accL_succ, add_ofNat (accL_lt hw k p) (Math.mul_lt (getD_lt hw k) _), mul_ofNat (getD_lt hw k) hx, ih]
    rfl

def pt (i : Nat) : F := F.ofNat i

theorem ahead_prod (K t : Nat) (ht : t < 65536) (hK : K ≤ 1000) : ∀ i, i ≤ K → F.ofNat (aheadL (pointsL K) t i) = prodF (fun j => F.ofNat t + pt j) i ∧ aheadL (pointsL K) t i < 65536 := by
  intro i
  induction i with
  | zero => intro _; exact ⟨rfl, show (1 : Nat) < 65536 from by decide⟩
  | succ i ih =>
    intro hi
    obtain ⟨h1, h2⟩ := ih (by omega)
    have e : aheadL (pointsL K) t (i + 1) = Math.mul (aheadL (pointsL K) t i) (t ^^^ i) := by
      unfold aheadL pointsL
      rw [take_snoc (List.range K) i (by simp; omega), List.foldl_append]
      simp
    have h3 : t ^^^ i < 65536 := xor_lt16 ht (by omega)
    rw [e]
    refine ⟨?_, Math.mul_lt h2 _⟩
    rw [mul_ofNat h2 h3, h1, add_ofNat ht (by omega)]
    rfl

theorem behind_go (t : Nat) (ht : t < 65536) : ∀ l : List Nat, (∀ x ∈ l, x < 65536) → ∀ x, x < 65536 →
    l.foldr (fun p a => Math.mul a (t ^^^ p)) x < 65536 ∧ F.ofNat (l.foldr (fun p a => Math.mul a (t ^^^ p)) x) = F.ofNat (l.foldr (fun p a => Math.mul a (t ^^^ p)) 1) * F.ofNat x := by
  intro l
  induction l with
  | nil => intro _ x hx; exact ⟨hx, by rw [List.foldr_nil, List.foldr_nil]; exact (F.one_mul _).symm⟩
  | cons p l ih =>
    intro hl x hx
    have h1 := ih (fun y hy => hl y (List.mem_cons_of_mem _ hy)) x hx
    have h2 := ih (fun y hy => hl y (List.mem_cons_of_mem _ hy)) 1 (by decide)
    have h3 : t ^^^ p < 65536 := xor_lt16 ht (hl p (by simp))
    simp only [List.foldr_cons]
    refine ⟨Math.mul_lt h1.1 _, ?_⟩
    rw [mul_ofNat h1.1 h3, mul_ofNat h2.1 h3, h1.2]
    ac_rfl

theorem skip_prod (t : Nat) (ht : t < 65536) (i : Nat) : ∀ n, i < n → n ≤ 1000 →
    prodF (skip pt i (F.ofNat t)) n = prodF (fun j => F.ofNat t + pt j) i * F.ofNat (((List.range n).drop (i + 1)).foldr (fun p a => Math.mul a (t ^^^ p)) 1) := by
  intro n
  induction n with
  | zero => intro h; omega
  | succ n ih =>
    intro hi hn
    simp only [prodF]
    by_cases e : i = n
    · subst e
      have h1 : ∀ m, m ≤ i → prodF (skip pt i (F.ofNat t)) m = prodF (fun j => F.ofNat t + pt j) m := by
        intro m
        induction m with
        | zero => intro _; rfl
        | succ m ihm =>
          intro hm
          simp only [prodF]
          rw [ihm (by omega)]
          congr 1
          unfold skip
          rw [if_neg (by omega)]
      rw [h1 i (Nat.le_refl _), List.drop_eq_nil_of_le (by simp)]
      congr 1
      unfold skip
      rw [if_pos rfl]
      rfl
    · have hb : (List.range (n + 1)).drop (i + 1) = (List.range n).drop (i + 1) ++ [n] := by
        rw [List.range_succ, List.drop_append_of_le_length (by simp; omega)]
      have hl : ∀ x ∈ (List.range n).drop (i + 1), x < 65536 := by
        intro x hx
        have := List.mem_of_mem_drop hx
        simp at this
        omega
      have h3 : t ^^^ n < 65536 := xor_lt16 ht (by omega)
      rw [ih (by omega) (by omega), hb, List.foldr_append, List.foldr_cons, List.foldr_nil]
      rw [(behind_go t ht _ hl (Math.mul 1 (t ^^^ n)) (Math.mul_lt (by decide) _)).2, Math.one_mul h3, add_ofNat ht (by omega)]
      unfold skip
      rw [if_neg (fun h => e h.symm), F.mul_assoc]
      rfl

theorem diff_prod (K i : Nat) (hK : K ≤ 1000) (hi : i < K) : F.ofNat (diffL (pointsL K) i) = prodF (skip pt i (pt i)) K ∧ diffL (pointsL K) i < 65536 := by
  have h : ∀ n, n ≤ K → F.ofNat ((List.range n).foldl (diffStep (pointsL K) i) 1) = prodF (skip pt i (pt i)) n ∧ (List.range n).foldl (diffStep (pointsL K) i) 1 < 65536 := by
    intro n
    induction n with
    | zero => intro _; exact ⟨rfl, show (1 : Nat) < 65536 from by decide⟩
    | succ n ih =>
      intro hn
      obtain ⟨h1, h2⟩ := ih (by omega)
      rw [List.range_succ, List.foldl_append, List.foldl_cons, List.foldl_nil]
      simp only [prodF]
      generalize (List.range n).foldl (diffStep (pointsL K) i) 1 = x at h1 h2 ⊢
      generalize prodF (skip pt i (pt i)) n = y at h1 ⊢
      have e1 : (pointsL K).getD i 0 = i := by simp [pointsL, hi]
      have e2 : (pointsL K).getD n 0 = n := by simp [pointsL, show n < K from by omega]
      unfold diffStep
      rw [e1, e2]
      by_cases e : n = i
      · rw [if_pos e]
        refine ⟨?_, h2⟩
        unfold skip
        rw [if_pos e, F.mul_one]
        exact h1
      · have h3 : i ^^^ n < 65536 := xor_lt16 (by omega) (by omega)
        rw [if_neg e]
        refine ⟨?_, Math.mul_lt h2 _⟩
        unfold skip
        rw [if_neg e, mul_ofNat h2 h3, add_ofNat (by omega) (by omega)]
        rw [h1]
        rfl
  have := h K (Nat.le_refl _)
  unfold diffL
  rw [show (pointsL K).length = K from by simp [pointsL]]
  exact this

theorem weight_at (K t i : Nat) (hK : K ≤ 1000) (ht : t < 65536) (hi : i < K) :
    F.ofNat ((weightsL (pointsL K) (scalesL (pointsL K)) t).getD i 0) = F.inv (prodF (skip pt i (pt i)) K) * prodF (skip pt i (F.ofNat t)) K := by
  have hl : (pointsL K).length = K := by simp [pointsL]
  have e : (weightsL (pointsL K) (scalesL (pointsL K)) t).getD i 0 = weightL (pointsL K) (scalesL (pointsL K)) t i := by
    unfold weightsL
    simp [hl, hi]
  have es : (scalesL (pointsL K)).getD i 0 = Math.inv (diffL (pointsL K) i) := by
    unfold scalesL scaleL
    simp [hl, hi]
  obtain ⟨h1, h2⟩ := diff_prod K i hK hi
  obtain ⟨h3, h4⟩ := ahead_prod K t ht hK i (by omega)
  have hbl : ∀ x ∈ (List.range K).drop (i + 1), x < 65536 := by
    intro x hx
    have := List.mem_of_mem_drop hx
    simp at this
    omega
  have h5 := (behind_go t ht ((List.range K).drop (i + 1)) hbl 1 (by decide)).1
  rw [e]
  unfold weightL firstL
  rw [es, mul_ofNat (Math.mul_lt (Math.inv_lt h2) _) (show behindL (pointsL K) t (i + 1) < 65536 from h5), mul_ofNat (Math.inv_lt h2) h4, inv_ofNat h2, h1, h3, F.mul_assoc]
  congr 1
  exact (skip_prod t ht i K hi hK).symm

/-- rows of coefficients that give the rows at 0, 1 and so on give the further rows -/
theorem extra_value (rows ys : List (List Nat)) (width j : Nat) (hK : rows.length ≤ 1000) (hj : j ≤ 1000) (hys : ys.length = rows.length)
    (hr : ∀ r ∈ rows, r.length = width ∧ ∀ x ∈ r, x < 65536) (hy : ∀ r ∈ ys, r.length = width ∧ ∀ x ∈ r, x < 65536)
    (hsol : ∀ i, i < rows.length → ∀ p, p < width → ev (colF ys p) (pt i) = F.ofNat ((rows.getD i []).getD p 0)) :
    valueL ys (rows.length + j) width = extraL rows width j := by
  have hsl : ∀ x ∈ scalesL (pointsL rows.length), x < 65536 := scales_lt _
  have hws := weights_lt (pointsL rows.length) (scalesL (pointsL rows.length)) (rows.length + j) hsl
  apply List.ext_getElem
  · rw [extraL_len]; exact valueGo_length _ _ _ _
  · intro p h1 h2
    have hp : p < width := by rw [extraL_len] at h2; exact h2
    have hv := valueGo_lt (fun r hr => (hy r hr).2) (rows.length + j) width ys.length
    have a1 : (valueL ys (rows.length + j) width)[p] = (valueGo ys (rows.length + j) width ys.length).getD p 0 := by
      unfold valueL at h1 ⊢
      simp [h1]
    have a2 : (extraL rows width j)[p] = accL rows (weightsL (pointsL rows.length) (scalesL (pointsL rows.length)) (rows.length + j)) rows.length p := by simp [extraL, mixL]
    rw [a1, a2]
    have ht : rows.length + j < 65536 := by omega
    have b1 := valueGo_ev ys (rows.length + j) width p hp ht (fun r hr => (hy r hr).2) (fun r hr => (hy r hr).1) ys.length (Nat.le_refl _)
    rw [Nat.sub_self, List.drop_zero] at b1
    have b2 := acc_sum rows _ hws (fun r hr' => (hr r hr').2) p rows.length
    have b3 := lagrange rows.length pt (fun a b ha hb h => by
      have := congrArg Subtype.val h
      unfold pt at this
      rw [val_ofNat (by omega), val_ofNat (by omega)] at this
      exact this) (colF ys p) (by simp [colF, hys]) (F.ofNat (rows.length + j))
    rw [← b1] at b3
    have b4 : F.ofNat ((valueGo ys (rows.length + j) width ys.length).getD p 0) = F.ofNat (accL rows (weightsL (pointsL rows.length) (scalesL (pointsL rows.length)) (rows.length + j)) rows.length p) := by
      rw [b3, b2]
      exact sumF_congr rows.length (fun i hi => by rw [weight_at rows.length (rows.length + j) i hK ht hi, hsol i hi p hp])
    have b5 := congrArg Subtype.val b4
    rw [val_ofNat (getD_lt hv p), val_ofNat (accL_lt hws _ _)] at b5
    exact b5
end Go.Proofs.Ytonjphollmdicaa
