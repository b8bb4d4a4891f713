import Derived.Test.YtonjphollmdicaaGreatDoorB14
namespace Go.Proofs.YtonjphollmdicaaGreatDoor
open Math

/-- a cell of rows, as a number of the field -/
def en (M : List (List Nat)) (i j : Nat) : F := F.ofNat ((M.getD i []).getD j 0)

theorem en_set (M : List (List Nat)) (i : Nat) (r : List Nat) (i' j : Nat) (hi : i < M.length) : en (M.set i r) i' j = if i' = i then F.ofNat (r.getD j 0) else en M i' j := by
  unfold en
  by_cases h : i' = i
  · subst h
    rw [if_pos rfl]
    simp [hi]
  · rw [if_neg h]
    simp only [List.getD_eq_getElem?_getD]
    rw [List.getElem?_set_ne (fun e => h e.symm)]

theorem scale_at (r : List Nat) (b j : Nat) (hj : j < r.length) (hr : ∀ x ∈ r, x < 65536) (hb : b < 65536) : F.ofNat ((rscaleL r b).getD j 0) = F.ofNat (r.getD j 0) * F.ofNat b := by
  rw [← mul_ofNat (getD_lt hr j) hb]
  congr 1
  simp only [rscaleL]
  rw [List.getD_eq_getElem?_getD, List.getElem?_map, List.getElem?_range hj]
  rfl
theorem add_at (r m : List Nat) (b j : Nat) (hj : j < r.length) (hr : ∀ x ∈ r, x < 65536) (hm : ∀ x ∈ m, x < 65536) (hb : b < 65536) : F.ofNat ((raddL r m b).getD j 0) = F.ofNat (r.getD j 0) + F.ofNat (m.getD j 0) * F.ofNat b := by
  rw [← mul_ofNat (getD_lt hm j) hb, ← add_ofNat (getD_lt hr j) (Math.mul_lt (getD_lt hm j) b)]
  congr 1
  simp only [raddL]
  rw [List.getD_eq_getElem?_getD, List.getElem?_map, List.getElem?_range hj]
  rfl

/-- rows of one width, all of numbers of the field -/
structure Full (M : List (List Nat)) (n w : Nat) : Prop where
  len : M.length = n
  wide : ∀ i, i < n → (M.getD i []).length = w
  low : ∀ i, ∀ x ∈ M.getD i [], x < 65536

theorem Full.set {M : List (List Nat)} {n w : Nat} (h : Full M n w) (i : Nat) (r : List Nat) (hr : r.length = w) (hx : ∀ x ∈ r, x < 65536) : Full (M.set i r) n w := by
  refine ⟨by rw [List.length_set, h.len], fun k hk => ?_, fun k => ?_⟩
  · by_cases e : k = i
    · subst e
      simp [h.len, hk, hr]
    · simp only [List.getD_eq_getElem?_getD]
      rw [List.getElem?_set_ne (fun e' => e e'.symm)]
      exact h.wide k hk
  · by_cases e : k = i
    · subst e
      by_cases hk : k < M.length
      · simp only [List.getD_eq_getElem?_getD]
        rw [List.getElem?_set_self hk]
        exact hx
      · rw [List.set_eq_of_length_le (by omega)]
        exact h.low k
    · simp only [List.getD_eq_getElem?_getD]
      rw [List.getElem?_set_ne (fun e' => e e'.symm)]
      exact h.low k

/-- what one row of a system says of the unknowns x, with a factor s of the right side -/
def says (A Y : List (List Nat)) (K : Nat) (p : Nat) (x : Nat → F) (s : F) (i : Nat) : F := sumF (fun j => en A i j * x j) K + s * en Y i p

theorem sumF_mul (f : Nat → F) (b : F) : ∀ n, sumF (fun j => f j * b) n = sumF f n * b
  | 0 => (F.zero_mul b).symm
  | n + 1 => by simp only [sumF]; rw [sumF_mul f b n, F.add_mul]
theorem sumF_add (f g : Nat → F) : ∀ n, sumF (fun j => f j + g j) n = sumF f n + sumF g n
  | 0 => (F.add_zero _).symm
  | n + 1 => by simp only [sumF]; rw [sumF_add f g n]; ac_rfl

/-- every solution of the one system is one of the other -/
def Sound (A0 Y0 A Y : List (List Nat)) (K w : Nat) : Prop :=
  ∀ p, p < w → ∀ (x : Nat → F) (s : F), (∀ i, i < K → says A Y K p x s i = F.zero) → ∀ i, i < K → says A0 Y0 K p x s i = F.zero

theorem Sound.refl (A Y : List (List Nat)) (K w : Nat) : Sound A Y A Y K w := fun _ _ _ _ h => h

theorem Sound.step {A0 Y0 A Y A' Y' : List (List Nat)} {K w : Nat} (h : Sound A0 Y0 A Y K w) (h' : Sound A Y A' Y' K w) : Sound A0 Y0 A' Y' K w :=
  fun p hp x s hh => h p hp x s (h' p hp x s hh)

def swapL (M : List (List Nat)) (p c : Nat) : List (List Nat) := (M.set p (M.getD c [])).set c (M.getD p [])

theorem en_swap (M : List (List Nat)) (p c i j : Nat) (hp : p < M.length) (hc : c < M.length) : en (swapL M p c) i j = en M (if i = c then p else if i = p then c else i) j := by
  unfold swapL
  rw [en_set _ _ _ _ _ (by rw [List.length_set]; exact hc)]
  by_cases h : i = c
  · rw [if_pos h, if_pos h]; rfl
  · rw [if_neg h, if_neg h, en_set _ _ _ _ _ hp]
    by_cases h2 : i = p
    · rw [if_pos h2, if_pos h2]; rfl
    · rw [if_neg h2, if_neg h2]

theorem Full.swap {M : List (List Nat)} {n w : Nat} (h : Full M n w) (p c : Nat) (hp : p < n) (hc : c < n) : Full (swapL M p c) n w :=
  (h.set p _ (h.wide c hc) (h.low c)).set c _ (h.wide p hp) (h.low p)

theorem sound_swap {A Y : List (List Nat)} {K w : Nat} (hA : Full A K K) (hY : Full Y K w) (p c : Nat) (hp : p < K) (hc : c < K) : Sound A Y (swapL A p c) (swapL Y p c) K w := by
  intro q _ x s h i hi
  have key : ∀ k, k < K → says A Y K q x s (if k = c then p else if k = p then c else k) = F.zero := by
    intro k hk
    have := h k hk
    unfold says at this ⊢
    rw [en_swap _ _ _ _ _ (by rw [hY.len]; exact hp) (by rw [hY.len]; exact hc)] at this
    rw [sumF_congr K (fun j _ => by rw [en_swap _ _ _ _ _ (by rw [hA.len]; exact hp) (by rw [hA.len]; exact hc)])] at this
    exact this
  by_cases h1 : i = c
  · have := key p hp
    by_cases e : p = c
    · rw [if_pos e] at this; rw [h1, ← e]; exact this
    · rw [if_neg e, if_pos rfl] at this; rw [h1]; exact this
  · by_cases h2 : i = p
    · have := key c hc
      rw [if_pos rfl] at this
      rw [h2]; exact this
    · have := key i hi
      rw [if_neg h1, if_neg h2] at this
      exact this

theorem sound_scale {A Y : List (List Nat)} {K w : Nat} (hA : Full A K K) (hY : Full Y K w) (c b : Nat) (hc : c < K) (hb : b < 65536) (hb0 : b ≠ 0) :
    Sound A Y (A.set c (rscaleL (A.getD c []) b)) (Y.set c (rscaleL (Y.getD c []) b)) K w := by
  intro q hq x s h i hi
  by_cases e : i = c
  · subst e
    have := h i hi
    unfold says at this ⊢
    rw [en_set _ _ _ _ _ (by rw [hY.len]; exact hi), if_pos rfl, scale_at _ _ _ (by rw [hY.wide i hi]; exact hq) (hY.low i) hb] at this
    rw [sumF_congr K (g := fun j => (en A i j * x j) * F.ofNat b) (fun j hj => by
      rw [en_set _ _ _ _ _ (by rw [hA.len]; exact hi), if_pos rfl, scale_at _ _ _ (by rw [hA.wide i hi]; exact hj) (hA.low i) hb]
      unfold en
      ac_rfl), sumF_mul] at this
    have e2 : sumF (fun j => en A i j * x j) K * F.ofNat b + s * (F.ofNat ((Y.getD i []).getD q 0) * F.ofNat b) = (sumF (fun j => en A i j * x j) K + s * en Y i q) * F.ofNat b := by
      rw [F.add_mul]; unfold en; ac_rfl
    rw [e2] at this
    rcases F.mul_eq_zero this with h1 | h1
    · exact h1
    · exfalso
      have := congrArg Subtype.val h1
      rw [val_ofNat hb] at this
      exact hb0 this
  · have := h i hi
    unfold says at this ⊢
    rw [en_set _ _ _ _ _ (by rw [hY.len]; exact hc), if_neg e] at this
    rw [sumF_congr K (g := fun j => en A i j * x j) (fun j _ => by rw [en_set _ _ _ _ _ (by rw [hA.len]; exact hc), if_neg e])] at this
    exact this

theorem sound_add {A Y : List (List Nat)} {K w : Nat} (hA : Full A K K) (hY : Full Y K w) (k c f : Nat) (hk : k < K) (hc : c < K) (hne : k ≠ c) (hf : f < 65536) :
    Sound A Y (A.set k (raddL (A.getD k []) (A.getD c []) f)) (Y.set k (raddL (Y.getD k []) (Y.getD c []) f)) K w := by
  intro q hq x s h
  have other : ∀ i, i < K → i ≠ k → says A Y K q x s i = F.zero := by
    intro i hi e
    have := h i hi
    unfold says at this ⊢
    rw [en_set _ _ _ _ _ (by rw [hY.len]; exact hk), if_neg e] at this
    rw [sumF_congr K (g := fun j => en A i j * x j) (fun j _ => by rw [en_set _ _ _ _ _ (by rw [hA.len]; exact hk), if_neg e])] at this
    exact this
  intro i hi
  by_cases e : i = k
  · subst e
    have hcz := other c hc (fun e => hne e.symm)
    have := h i hi
    unfold says at this hcz ⊢
    rw [en_set _ _ _ _ _ (by rw [hY.len]; exact hi), if_pos rfl, add_at _ _ _ _ (by rw [hY.wide i hi]; exact hq) (hY.low i) (hY.low c) hf] at this
    rw [sumF_congr K (g := fun j => en A i j * x j + (en A c j * x j) * F.ofNat f) (fun j hj => by
      rw [en_set _ _ _ _ _ (by rw [hA.len]; exact hi), if_pos rfl, add_at _ _ _ _ (by rw [hA.wide i hi]; exact hj) (hA.low i) (hA.low c) hf, F.add_mul]
      unfold en
      congr 1
      ac_rfl), sumF_add, sumF_mul] at this
    have e2 : sumF (fun j => en A i j * x j) K + sumF (fun j => en A c j * x j) K * F.ofNat f + s * (F.ofNat ((Y.getD i []).getD q 0) + F.ofNat ((Y.getD c []).getD q 0) * F.ofNat f)
        = (sumF (fun j => en A i j * x j) K + s * en Y i q) + (sumF (fun j => en A c j * x j) K + s * en Y c q) * F.ofNat f := by
      rw [F.mul_add, F.add_mul]; unfold en; ac_rfl
    rw [e2, hcz, F.zero_mul, F.add_zero] at this
    exact this
  · exact other i hi e

def powF (t : F) : Nat → F
  | 0 => F.one
  | n + 1 => powF t n * t

theorem sumF_shift (f : Nat → F) : ∀ n, sumF f (n + 1) = f 0 + sumF (fun j => f (j + 1)) n
  | 0 => by simp only [sumF]; rw [F.zero_add, F.add_zero]
  | n + 1 => by
    have := sumF_shift f n
    simp only [sumF] at this ⊢
    rw [this, F.add_assoc]

theorem ev_range (t : F) : ∀ (n : Nat) (x : Nat → F), ev ((List.range n).map x) t = sumF (fun j => powF t j * x j) n
  | 0, _ => rfl
  | n + 1, x => by
    rw [List.range_succ_eq_map, List.map_cons, List.map_map, sumF_shift]
    have e : ev (x 0 :: List.map (x ∘ Nat.succ) (List.range n)) t = x 0 + t * ev (List.map (x ∘ Nat.succ) (List.range n)) t := rfl
    rw [e, ev_range t n (x ∘ Nat.succ)]
    congr 1
    · exact (F.one_mul _).symm
    · rw [F.mul_comm, ← sumF_mul]
      exact sumF_congr n (fun j _ => by simp only [powF, Function.comp]; ac_rfl)

/-- the rows of the powers of some numbers -/
def Vand (q : Nat → F) (A : List (List Nat)) (K : Nat) : Prop := ∀ i, i < K → ∀ j, j < K → en A i j = powF (q i) j

theorem vand_kernel {q : Nat → F} {A Y : List (List Nat)} {K : Nat} (hV : Vand q A K) (hK : ∀ a b, a < K → b < K → q a = q b → a = b) (p : Nat) (x : Nat → F) (h : ∀ i, i < K → says A Y K p x F.zero i = F.zero) : ∀ j, j < K → x j = F.zero := by
  have hz := roots_zero ((List.range K).map q) ((List.range K).map x) (by
      rw [List.nodup_iff_pairwise_ne, List.pairwise_map]
      refine List.Pairwise.imp_of_mem ?_ (List.nodup_range (n := K))
      intro a b ha hb hab e
      have h1 : a < K := by simpa using ha
      have h2 : b < K := by simpa using hb
      exact hab (hK a b h1 h2 e)) (by simp) (by
      intro r hr
      obtain ⟨i, hi, rfl⟩ := List.mem_map.1 hr
      have hi' : i < K := by simpa using hi
      have := h i hi'
      unfold says at this
      rw [F.zero_mul, F.add_zero] at this
      rw [ev_range, ← this]
      exact sumF_congr K (fun j hj => by rw [hV i hi' j hj]))
  intro j hj
  exact hz (x j) (List.mem_map.2 ⟨j, by simpa using hj, rfl⟩)

/-- the columns ahead of c are those of the unit -/
def Unit' (A : List (List Nat)) (K c : Nat) : Prop := ∀ j, j < c → ∀ i, i < K → en A i j = if i = j then F.one else F.zero

theorem pivot_there {q : Nat → F} {A0 Y0 A Y : List (List Nat)} {K w c : Nat} (hV : Vand q A0 K) (hK : ∀ a b, a < K → b < K → q a = q b → a = b) (hw : 0 < w) (hS : Sound A0 Y0 A Y K w) (hU : Unit' A K c) (hc : c < K) (h : ∀ p, c ≤ p → p < K → en A p c = F.zero) : False := by
  have hx := vand_kernel (Y := Y0) hV hK 0 (fun j => if j < c then en A j c else if j = c then F.one else F.zero) (hS 0 hw _ F.zero (by
    intro i hi
    unfold says
    rw [F.zero_mul, F.add_zero]
    by_cases hic : i < c
    · have e : sumF (fun j => en A i j * (if j < c then en A j c else if j = c then F.one else F.zero)) K = sumF (fun j => (if j = i then en A i c else F.zero) + (if j = c then en A i c else F.zero)) K := by
        refine sumF_congr K (fun j hj => ?_)
        by_cases h1 : j < c
        · rw [if_pos h1, hU j h1 i hi, if_neg (show ¬ j = c from by omega), F.add_zero]
          by_cases h2 : i = j
          · rw [if_pos h2, if_pos h2.symm, F.one_mul, h2]
          · rw [if_neg h2, if_neg (fun e => h2 e.symm), F.zero_mul]
        · rw [if_neg h1, if_neg (show ¬ j = i from by omega), F.zero_add]
          by_cases h2 : j = c
          · rw [if_pos h2, if_pos h2, F.mul_one, h2]
          · rw [if_neg h2, if_neg h2, F.mul_zero]
      rw [e, sumF_add, sumF_single i K hi (fun j _ hne => by rw [if_neg hne]), sumF_single c K hc (fun j _ hne => by rw [if_neg hne]), if_pos rfl, if_pos rfl, F.add_self]
    · refine sumF_zero K (fun j hj => ?_)
      show en A i j * (if j < c then en A j c else if j = c then F.one else F.zero) = F.zero
      by_cases h1 : j < c
      · rw [hU j h1 i hi, if_neg (show ¬ i = j from by omega), F.zero_mul]
      · rw [if_neg h1]
        by_cases h2 : j = c
        · rw [h2, h i (by omega) hi, F.zero_mul]
        · rw [if_neg h2, F.mul_zero])) c hc
  simp only [Nat.lt_irrefl, if_false, if_true] at hx
  exact absurd (congrArg Subtype.val hx) (show ¬ (1 : Nat) = 0 from by decide)

/-- when all columns are those of the unit, the right side is the answer -/
theorem solved {q : Nat → F} {A0 Y0 A Y : List (List Nat)} {K w : Nat} (hV : Vand q A0 K) (hS : Sound A0 Y0 A Y K w) (hU : Unit' A K K) (hYl : Y.length = K) (p : Nat) (hp : p < w) (i : Nat) (hi : i < K) :
    ev (colF Y p) (q i) = en Y0 i p := by
  have h := hS p hp (fun j => en Y j p) F.one (by
    intro k hk
    unfold says
    rw [F.one_mul, sumF_single k K hk (fun j hj hne => by rw [hU j hj k hk, if_neg (fun e => hne e.symm), F.zero_mul]), hU k hk k hk, if_pos rfl, F.one_mul, F.add_self]) i hi
  unfold says at h
  rw [F.one_mul] at h
  have h2 := F.eq_of_add h
  rw [← h2]
  have e : colF Y p = (List.range K).map (fun j => en Y j p) := by
    apply List.ext_getElem
    · simp [colF, hYl]
    · intro j h1 h2
      have hj : j < Y.length := by simpa [colF] using h1
      simp [colF, en, hj]
  rw [e, ev_range]
  exact sumF_congr K (fun j hj => by rw [hV i hi j hj])

theorem unit_swap {A : List (List Nat)} {K c p : Nat} (hA : Full A K K) (hU : Unit' A K c) (hp : p < K) (hcp : c ≤ p) (hc : c < K) : Unit' (swapL A p c) K c := by
  intro j hj i hi
  rw [en_swap _ _ _ _ _ (by rw [hA.len]; exact hp) (by rw [hA.len]; exact hc)]
  by_cases h1 : i = c
  · rw [if_pos h1, hU j hj p hp, if_neg (by omega), if_neg (by omega)]
  · by_cases h2 : i = p
    · rw [if_neg h1, if_pos h2, hU j hj c hc, if_neg (by omega), if_neg (by omega)]
    · rw [if_neg h1, if_neg h2]
      exact hU j hj i hi

theorem unit_scale {A : List (List Nat)} {K c b : Nat} (hA : Full A K K) (hU : Unit' A K c) (hc : c < K) (hb : b < 65536) : Unit' (A.set c (rscaleL (A.getD c []) b)) K c := by
  intro j hj i hi
  rw [en_set _ _ _ _ _ (by rw [hA.len]; exact hc)]
  by_cases e : i = c
  · have h1 := hU j hj c hc
    rw [if_neg (by omega)] at h1
    rw [if_pos e, scale_at _ _ _ (by rw [hA.wide c hc]; omega) (hA.low c) hb]
    unfold en at h1
    rw [h1, F.zero_mul, if_neg (by omega)]
  · rw [if_neg e]; exact hU j hj i hi

theorem unit_add {A : List (List Nat)} {K c k f : Nat} (hA : Full A K K) (hU : Unit' A K c) (hc : c < K) (hk : k < K) (hf : f < 65536) : Unit' (A.set k (raddL (A.getD k []) (A.getD c []) f)) K c := by
  intro j hj i hi
  rw [en_set _ _ _ _ _ (by rw [hA.len]; exact hk)]
  by_cases e : i = k
  · have h1 := hU j hj c hc
    have h2 := hU j hj k hk
    rw [if_neg (by omega)] at h1
    rw [if_pos e, add_at _ _ _ _ (by rw [hA.wide k hk]; omega) (hA.low k) (hA.low c) hf]
    unfold en at h1 h2
    rw [h1, h2, F.zero_mul, F.add_zero, e]
  · rw [if_neg e]; exact hU j hj i hi
end Go.Proofs.YtonjphollmdicaaGreatDoor
