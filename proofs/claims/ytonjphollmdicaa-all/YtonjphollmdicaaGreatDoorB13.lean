import Derived.Test.YtonjphollmdicaaGreatDoorB12
set_option maxRecDepth 100000
set_option maxHeartbeats 4000000
set_option linter.unusedSimpArgs false
namespace Go.Proofs.YtonjphollmdicaaGreatDoor
open Math
def en (M : List (List Nat)) (i j : Nat) : F := F.ofNat ((M.getD i []).getD j 0)
theorem DU (M : List (List Nat)) (i : Nat) (r : List Nat) (i' j : Nat) (hi : i < M.length) : en (M.set i r) i' j = if i' = i then F.ofNat (r.getD j 0) else en M i' j := by
  unfold en
  by_cases h : i' = i
  · subst h
    rw [if_pos rfl]
    simp [hi]
  · rw [if_neg h]
    simp only [List.getD_eq_getElem?_getD]
    rw [List.getElem?_set_ne (fun e => h e.symm)]
theorem Hv (r : List Nat) (b j : Nat) (hj : j < r.length) (hr : ∀ x ∈ r, x < 65536) (hb : b < 65536) : F.ofNat ((BE r b).getD j 0) = F.ofNat (r.getD j 0) * F.ofNat b := by
  rw [← Cl (AP hr j) hb]
  congr 1
  simp only [BE]
  rw [List.getD_eq_getElem?_getD, List.getElem?_map, List.getElem?_range hj]
  rfl
theorem NC (r m : List Nat) (b j : Nat) (hj : j < r.length) (hr : ∀ x ∈ r, x < 65536) (hm : ∀ x ∈ m, x < 65536) (hb : b < 65536) : F.ofNat ((D8 r m b).getD j 0) = F.ofNat (r.getD j 0) + F.ofNat (m.getD j 0) * F.ofNat b := by
  rw [← Cl (AP hm j) hb, ← Ev (AP hr j) (Math.mul_lt (AP hm j) b)]
  congr 1
  simp only [D8]
  rw [List.getD_eq_getElem?_getD, List.getElem?_map, List.getElem?_range hj]
  rfl
structure Full (M : List (List Nat)) (n w : Nat) : Prop where
  len : M.length = n
  wide : ∀ i, i < n → (M.getD i []).length = w
  low : ∀ i, ∀ x ∈ M.getD i [], x < 65536
theorem Full.set {M : List (List Nat)} {n w : Nat} (h : Full M n w) (i : Nat) (r : List Nat) (hr : r.length = w) (hx : ∀ x ∈ r, x < 65536) : Full (M.set i r) n w := by
  refine ⟨by rw [List.length_set, h.len], fun k hk => ?_, fun k => ?_⟩
  · by_cases e : k = i
    · subst e
      simp [h.len, hk, hr]
    · simp only [List.getD_eq_getElem?_getD]
      rw [List.getElem?_set_ne (fun e' => e e'.symm)]
      exact h.wide k hk
  · by_cases e : k = i
    · subst e
      by_cases hk : k < M.length
      · simp only [List.getD_eq_getElem?_getD]
        rw [List.getElem?_set_self hk]
        exact hx
      · rw [List.set_eq_of_length_le (by omega)]
        exact h.low k
    · simp only [List.getD_eq_getElem?_getD]
      rw [List.getElem?_set_ne (fun e' => e e'.symm)]
      exact h.low k
def Nn (A Y : List (List Nat)) (K : Nat) (p : Nat) (x : Nat → F) (s : F) (i : Nat) : F := FB (fun j => en A i j * x j) K + s * en Y i p
theorem Hu (f : Nat → F) (b : F) : ∀ n, FB (fun j => f j * b) n = FB f n * b
  | 0 => (F.zero_mul b).symm
  | n + 1 => by simp only [FB]; rw [Hu f b n, F.add_mul]
theorem Kz (f g : Nat → F) : ∀ n, FB (fun j => f j + g j) n = FB f n + FB g n
  | 0 => (F.add_zero _).symm
  | n + 1 => by simp only [FB]; rw [Kz f g n]; ac_rfl
def Sound (A0 Y0 A Y : List (List Nat)) (K w : Nat) : Prop :=
  ∀ p, p < w → ∀ (x : Nat → F) (s : F), (∀ i, i < K → Nn A Y K p x s i = F.zero) → ∀ i, i < K → Nn A0 Y0 K p x s i = F.zero
theorem Sound.refl (A Y : List (List Nat)) (K w : Nat) : Sound A Y A Y K w := fun _ _ _ _ h => h
theorem Sound.step {A0 Y0 A Y A' Y' : List (List Nat)} {K w : Nat} (h : Sound A0 Y0 A Y K w) (h' : Sound A Y A' Y' K w) : Sound A0 Y0 A' Y' K w :=
  fun p hp x s hh => h p hp x s (h' p hp x s hh)
def FK (M : List (List Nat)) (p c : Nat) : List (List Nat) := (M.set p (M.getD c [])).set c (M.getD p [])
theorem Md (M : List (List Nat)) (p c i j : Nat) (hp : p < M.length) (hc : c < M.length) : en (FK M p c) i j = en M (if i = c then p else if i = p then c else i) j := by
  unfold FK
  rw [DU _ _ _ _ _ (by rw [List.length_set]; exact hc)]
  by_cases h : i = c
  · rw [if_pos h, if_pos h]; rfl
  · rw [if_neg h, if_neg h, DU _ _ _ _ _ hp]
    by_cases h2 : i = p
    · rw [if_pos h2, if_pos h2]; rfl
    · rw [if_neg h2, if_neg h2]
theorem Full.swap {M : List (List Nat)} {n w : Nat} (h : Full M n w) (p c : Nat) (hp : p < n) (hc : c < n) : Full (FK M p c) n w :=
  (h.set p _ (h.wide c hc) (h.low c)).set c _ (h.wide p hp) (h.low p)
theorem Ot {A Y : List (List Nat)} {K w : Nat} (hA : Full A K K) (hY : Full Y K w) (p c : Nat) (hp : p < K) (hc : c < K) : Sound A Y (FK A p c) (FK Y p c) K w := by
  intro q _ x s h i hi
  have key : ∀ k, k < K → Nn A Y K q x s (if k = c then p else if k = p then c else k) = F.zero := by
    intro k hk
    have := h k hk
    unfold Nn at this ⊢
    rw [Md _ _ _ _ _ (by rw [hY.len]; exact hp) (by rw [hY.len]; exact hc)] at this
    rw [BH K (fun j _ => by rw [Md _ _ _ _ _ (by rw [hA.len]; exact hp) (by rw [hA.len]; exact hc)])] at this
    exact this
  by_cases h1 : i = c
  · have := key p hp
    by_cases e : p = c
    · rw [if_pos e] at this; rw [h1, ← e]; exact this
    · rw [if_neg e, if_pos rfl] at this; rw [h1]; exact this
  · by_cases h2 : i = p
    · have := key c hc
      rw [if_pos rfl] at this
      rw [h2]; exact this
    · have := key i hi
      rw [if_neg h1, if_neg h2] at this
      exact this
theorem L6 {A Y : List (List Nat)} {K w : Nat} (hA : Full A K K) (hY : Full Y K w) (c b : Nat) (hc : c < K) (hb : b < 65536) (hb0 : b ≠ 0) :
    Sound A Y (A.set c (BE (A.getD c []) b)) (Y.set c (BE (Y.getD c []) b)) K w := by
  intro q hq x s h i hi
  by_cases e : i = c
  · subst e
    have := h i hi
    unfold Nn at this ⊢
    rw [DU _ _ _ _ _ (by rw [hY.len]; exact hi), if_pos rfl, Hv _ _ _ (by rw [hY.wide i hi]; exact hq) (hY.low i) hb] at this
    rw [BH K (g := fun j => (en A i j * x j) * F.ofNat b) (fun j hj => by
      rw [DU _ _ _ _ _ (by rw [hA.len]; exact hi), if_pos rfl, Hv _ _ _ (by rw [hA.wide i hi]; exact hj) (hA.low i) hb]
      unfold en
      ac_rfl), Hu] at this
    have e2 : FB (fun j => en A i j * x j) K * F.ofNat b + s * (F.ofNat ((Y.getD i []).getD q 0) * F.ofNat b) = (FB (fun j => en A i j * x j) K + s * en Y i q) * F.ofNat b := by
      rw [F.add_mul]; unfold en; ac_rfl
    rw [e2] at this
    rcases F.mul_eq_zero this with h1 | h1
    · exact h1
    · exfalso
      have := congrArg Subtype.val h1
      rw [Bz hb] at this
      exact hb0 this
  · have := h i hi
    unfold Nn at this ⊢
    rw [DU _ _ _ _ _ (by rw [hY.len]; exact hc), if_neg e] at this
    rw [BH K (g := fun j => en A i j * x j) (fun j _ => by rw [DU _ _ _ _ _ (by rw [hA.len]; exact hc), if_neg e])] at this
    exact this
theorem Po {A Y : List (List Nat)} {K w : Nat} (hA : Full A K K) (hY : Full Y K w) (k c f : Nat) (hk : k < K) (hc : c < K) (hne : k ≠ c) (hf : f < 65536) :
    Sound A Y (A.set k (D8 (A.getD k []) (A.getD c []) f)) (Y.set k (D8 (Y.getD k []) (Y.getD c []) f)) K w := by
  intro q hq x s h
  have other : ∀ i, i < K → i ≠ k → Nn A Y K q x s i = F.zero := by
    intro i hi e
    have := h i hi
    unfold Nn at this ⊢
    rw [DU _ _ _ _ _ (by rw [hY.len]; exact hk), if_neg e] at this
    rw [BH K (g := fun j => en A i j * x j) (fun j _ => by rw [DU _ _ _ _ _ (by rw [hA.len]; exact hk), if_neg e])] at this
    exact this
  intro i hi
  by_cases e : i = k
  · subst e
    have hcz := other c hc (fun e => hne e.symm)
    have := h i hi
    unfold Nn at this hcz ⊢
    rw [DU _ _ _ _ _ (by rw [hY.len]; exact hi), if_pos rfl, NC _ _ _ _ (by rw [hY.wide i hi]; exact hq) (hY.low i) (hY.low c) hf] at this
    rw [BH K (g := fun j => en A i j * x j + (en A c j * x j) * F.ofNat f) (fun j hj => by
      rw [DU _ _ _ _ _ (by rw [hA.len]; exact hi), if_pos rfl, NC _ _ _ _ (by rw [hA.wide i hi]; exact hj) (hA.low i) (hA.low c) hf, F.add_mul]
      unfold en
      congr 1
      ac_rfl), Kz, Hu] at this
    have e2 : FB (fun j => en A i j * x j) K + FB (fun j => en A c j * x j) K * F.ofNat f + s * (F.ofNat ((Y.getD i []).getD q 0) + F.ofNat ((Y.getD c []).getD q 0) * F.ofNat f)
        = (FB (fun j => en A i j * x j) K + s * en Y i q) + (FB (fun j => en A c j * x j) K + s * en Y c q) * F.ofNat f := by
      rw [F.mul_add, F.add_mul]; unfold en; ac_rfl
    rw [e2, hcz, F.zero_mul, F.add_zero] at this
    exact this
  · exact other i hi e
def Ss (t : F) : Nat → F
  | 0 => F.one
  | n + 1 => Ss t n * t
theorem Jp (f : Nat → F) : ∀ n, FB f (n + 1) = f 0 + FB (fun j => f (j + 1)) n
  | 0 => by simp only [FB]; rw [F.zero_add, F.add_zero]
  | n + 1 => by
    have := Jp f n
    simp only [FB] at this ⊢
    rw [this, F.add_assoc]
theorem Kt (t : F) : ∀ (n : Nat) (x : Nat → F), ev ((List.range n).map x) t = FB (fun j => Ss t j * x j) n
  | 0, _ => rfl
  | n + 1, x => by
    rw [List.range_succ_eq_map, List.map_cons, List.map_map, Jp]
    have e : ev (x 0 :: List.map (x ∘ Nat.succ) (List.range n)) t = x 0 + t * ev (List.map (x ∘ Nat.succ) (List.range n)) t := rfl
    rw [e, Kt t n (x ∘ Nat.succ)]
    congr 1
    · exact (F.one_mul _).symm
    · rw [F.mul_comm, ← Hu]
      exact BH n (fun j _ => by simp only [Ss, Function.comp]; ac_rfl)
def SP (q : Nat → F) (A : List (List Nat)) (K : Nat) : Prop := ∀ i, i < K → ∀ j, j < K → en A i j = Ss (q i) j
theorem MA {q : Nat → F} {A Y : List (List Nat)} {K : Nat} (hV : SP q A K) (hK : ∀ a b, a < K → b < K → q a = q b → a = b) (p : Nat) (x : Nat → F) (h : ∀ i, i < K → Nn A Y K p x F.zero i = F.zero) : ∀ j, j < K → x j = F.zero := by
  have hz := GM ((List.range K).map q) ((List.range K).map x) (by
      rw [List.nodup_iff_pairwise_ne, List.pairwise_map]
      refine List.Pairwise.imp_of_mem ?_ (List.nodup_range (n := K))
      intro a b ha hb hab e
      have h1 : a < K := by simpa using ha
      have h2 : b < K := by simpa using hb
      exact hab (hK a b h1 h2 e)) (by simp) (by
      intro r hr
      obtain ⟨i, hi, rfl⟩ := List.mem_map.1 hr
      have hi' : i < K := by simpa using hi
      have := h i hi'
      unfold Nn at this
      rw [F.zero_mul, F.add_zero] at this
      rw [Kt, ← this]
      exact BH K (fun j hj => by rw [hV i hi' j hj]))
  intro j hj
  exact hz (x j) (List.mem_map.2 ⟨j, by simpa using hj, rfl⟩)
def Un9 (A : List (List Nat)) (K c : Nat) : Prop := ∀ j, j < c → ∀ i, i < K → en A i j = if i = j then F.one else F.zero
theorem MI {q : Nat → F} {A0 Y0 A Y : List (List Nat)} {K w c : Nat} (hV : SP q A0 K) (hK : ∀ a b, a < K → b < K → q a = q b → a = b) (hw : 0 < w) (hS : Sound A0 Y0 A Y K w) (hU : Un9 A K c) (hc : c < K) (h : ∀ p, c ≤ p → p < K → en A p c = F.zero) : False := by
  have hx := MA (Y := Y0) hV hK 0 (fun j => if j < c then en A j c else if j = c then F.one else F.zero) (hS 0 hw _ F.zero (by
    intro i hi
    unfold Nn
    rw [F.zero_mul, F.add_zero]
    by_cases hic : i < c
    · have e : FB (fun j => en A i j * (if j < c then en A j c else if j = c then F.one else F.zero)) K = FB (fun j => (if j = i then en A i c else F.zero) + (if j = c then en A i c else F.zero)) K := by
        refine BH K (fun j hj => ?_)
        by_cases h1 : j < c
        · rw [if_pos h1, hU j h1 i hi, if_neg (show ¬ j = c from by omega), F.add_zero]
          by_cases h2 : i = j
          · rw [if_pos h2, if_pos h2.symm, F.one_mul, h2]
          · rw [if_neg h2, if_neg (fun e => h2 e.symm), F.zero_mul]
        · rw [if_neg h1, if_neg (show ¬ j = i from by omega), F.zero_add]
          by_cases h2 : j = c
          · rw [if_pos h2, if_pos h2, F.mul_one, h2]
          · rw [if_neg h2, if_neg h2, F.mul_zero]
      rw [e, Kz, DW i K hi (fun j _ hne => by rw [if_neg hne]), DW c K hc (fun j _ hne => by rw [if_neg hne]), if_pos rfl, if_pos rfl, F.add_self]
    · refine IP K (fun j hj => ?_)
      show en A i j * (if j < c then en A j c else if j = c then F.one else F.zero) = F.zero
      by_cases h1 : j < c
      · rw [hU j h1 i hi, if_neg (show ¬ i = j from by omega), F.zero_mul]
      · rw [if_neg h1]
        by_cases h2 : j = c
        · rw [h2, h i (by omega) hi, F.zero_mul]
        · rw [if_neg h2, F.mul_zero])) c hc
  simp only [Nat.lt_irrefl, if_false, if_true] at hx
  exact absurd (congrArg Subtype.val hx) (show ¬ (1 : Nat) = 0 from by decide)
theorem Sy {q : Nat → F} {A0 Y0 A Y : List (List Nat)} {K w : Nat} (hV : SP q A0 K) (hS : Sound A0 Y0 A Y K w) (hU : Un9 A K K) (hYl : Y.length = K) (p : Nat) (hp : p < w) (i : Nat) (hi : i < K) :
    ev (KT Y p) (q i) = en Y0 i p := by
  have h := hS p hp (fun j => en Y j p) F.one (by
    intro k hk
    unfold Nn
    rw [F.one_mul, DW k K hk (fun j hj hne => by rw [hU j hj k hk, if_neg (fun e => hne e.symm), F.zero_mul]), hU k hk k hk, if_pos rfl, F.one_mul, F.add_self]) i hi
  unfold Nn at h
  rw [F.one_mul] at h
  have h2 := F.eq_of_add h
  rw [← h2]
  have e : KT Y p = (List.range K).map (fun j => en Y j p) := by
    apply List.ext_getElem
    · simp [KT, hYl]
    · intro j h1 h2
      have hj : j < Y.length := by simpa [KT] using h1
      simp [KT, en, hj]
  rw [e, Kt]
  exact BH K (fun j hj => by rw [hV i hi j hj])
theorem PK {A : List (List Nat)} {K c p : Nat} (hA : Full A K K) (hU : Un9 A K c) (hp : p < K) (hcp : c ≤ p) (hc : c < K) : Un9 (FK A p c) K c := by
  intro j hj i hi
  rw [Md _ _ _ _ _ (by rw [hA.len]; exact hp) (by rw [hA.len]; exact hc)]
  by_cases h1 : i = c
  · rw [if_pos h1, hU j hj p hp, if_neg (by omega), if_neg (by omega)]
  · by_cases h2 : i = p
    · rw [if_neg h1, if_pos h2, hU j hj c hc, if_neg (by omega), if_neg (by omega)]
    · rw [if_neg h1, if_neg h2]
      exact hU j hj i hi
theorem Oj {A : List (List Nat)} {K c b : Nat} (hA : Full A K K) (hU : Un9 A K c) (hc : c < K) (hb : b < 65536) : Un9 (A.set c (BE (A.getD c []) b)) K c := by
  intro j hj i hi
  rw [DU _ _ _ _ _ (by rw [hA.len]; exact hc)]
  by_cases e : i = c
  · have h1 := hU j hj c hc
    rw [if_neg (by omega)] at h1
    rw [if_pos e, Hv _ _ _ (by rw [hA.wide c hc]; omega) (hA.low c) hb]
    unfold en at h1
    rw [h1, F.zero_mul, if_neg (by omega)]
  · rw [if_neg e]; exact hU j hj i hi
theorem RC {A : List (List Nat)} {K c k f : Nat} (hA : Full A K K) (hU : Un9 A K c) (hc : c < K) (hk : k < K) (hf : f < 65536) : Un9 (A.set k (D8 (A.getD k []) (A.getD c []) f)) K c := by
  intro j hj i hi
  rw [DU _ _ _ _ _ (by rw [hA.len]; exact hk)]
  by_cases e : i = k
  · have h1 := hU j hj c hc
    have h2 := hU j hj k hk
    rw [if_neg (by omega)] at h1
    rw [if_pos e, NC _ _ _ _ (by rw [hA.wide k hk]; omega) (hA.low k) (hA.low c) hf]
    unfold en at h1 h2
    rw [h1, h2, F.zero_mul, F.add_zero, e]
  · rw [if_neg e]; exact hU j hj i hi
end Go.Proofs.YtonjphollmdicaaGreatDoor
namespace Go.Proofs.YtonjphollmdicaaGreatDoor
open Go.ChangeShapes Go.WideShapes Go.ChangeAt Go.RowKit Math
theorem Tryz.infoU16s : (Tryz.prog.info? 121).map (fun i => (i.zero, i.size, i.bytes)) = some (some (.slice none 0 0), 1, 24) := by kernel_rfl
def D5 (wd : Nat) (g cp : Nat → Nat) (n : Nat) : List Value := (List.range n).map fun i => .slice (some ⟨g i, 0, none⟩) wd (cp i)
theorem Jn (wd : Nat) (g cp : Nat → Nat) (n i : Nat) (h : i < n) : (D5 wd g cp n)[i]? = some (.slice (some ⟨g i, 0, none⟩) wd (cp i)) := by simp [D5, h]
structure Grid (W : World) (B : Nat) (v : Value) (n wd : Nat) (M : List (List Nat)) (g cp : Nat → Nat) : Prop where
 full : Full M n wd
 own : W.ownsRow B 121 1 v n (D5 wd g cp n)
 row : ∀ i, i < n → Row W B (g i) (cp i) (M.getD i [])
 inj : ∀ i j, i < n → j < n → g i = g j → i = j
 nil : n = 0 → v.ownBlock = none
def Apart (n : Nat) (g : Nat → Nat) (m : Nat) (g' : Nat → Nat) : Prop := ∀ i j, i < n → j < m → g i ≠ g' j
theorem Grid.empty (W : World) (B wd : Nat) (g cp : Nat → Nat) : Grid W B (.slice none 0 0) 0 wd [] g cp :=
 ⟨⟨rfl, fun i hi => absurd hi (Nat.not_lt_zero _), fun i x hx => by simp at hx⟩, World.ownsRow_nil _ _ _ _, fun i hi => absurd hi (Nat.not_lt_zero _), fun i _ hi => absurd hi (Nat.not_lt_zero _), fun _ => rfl⟩
theorem Grid.later {W W' : World} {B : Nat} {v : Value} {n wd : Nat} {M : List (List Nat)} {g cp : Nat → Nat} (h : Grid W B v n wd M g cp) {D : Nat} (hD : W.heap.size ≤ D) (hb : Below D W W') : Grid W' B v n wd M g cp :=
 ⟨h.full, Ab h.own hD hb, fun i hi => Ab (h.row i hi) hD hb, h.inj, h.nil⟩
theorem Grid.drew {W : World} {B : Nat} {v : Value} {n wd : Nat} {M : List (List Nat)} {g cp : Nat → Nat} (h : Grid W B v n wd M g cp) : Grid W.drew B v n wd M g cp := ⟨h.full, h.own, h.row, h.inj, h.nil⟩
theorem Grid.drewN {W : World} {B : Nat} {v : Value} {n wd : Nat} {M : List (List Nat)} {g cp : Nat → Nat} (h : Grid W B v n wd M g cp) (k : Nat) : Grid (W.drewN k) B v n wd M g cp := ⟨h.full, h.own, h.row, h.inj, h.nil⟩
theorem Grid.lt {W : World} {B : Nat} {v : Value} {n wd : Nat} {M : List (List Nat)} {g cp : Nat → Nat} (h : Grid W B v n wd M g cp) (i : Nat) (hi : i < n) : g i < W.heap.size ∧ B ≤ g i := by
 have := (h.row i hi).lt (g i) (by simp [Value.ownBlock])
 exact ⟨this.2, this.1⟩
theorem Grid.form {W : World} {B : Nat} {v : Value} {n wd : Nat} {M : List (List Nat)} {g cp : Nat → Nat} (h : Grid W B v n wd M g cp) (h0 : 0 < n) : ∃ hd cap, v = .slice (some ⟨hd, 0, none⟩) n cap ∧ B ≤ hd ∧ hd < W.heap.size := by
 rcases h.own.2 with ⟨_, h1⟩ | ⟨hd, cap, cur, hv, hb, hh, _⟩
 ·omega
 ·exact ⟨hd, cap, hv, hb, (Array.getElem?_eq_some_iff.1 hh).1⟩
theorem Grid.head {W : World} {B : Nat} {n wd hd cap : Nat} {M : List (List Nat)} {g cp : Nat → Nat} (h : Grid W B (.slice (some ⟨hd, 0, none⟩) n cap) n wd M g cp) (i : Nat) (hi : i < n) : W.cell? ⟨hd, i, none⟩ = some (.slice (some ⟨g i, 0, none⟩) wd (cp i)) ∧ W.frozen? ⟨hd, i, none⟩ = false := by
 refine ⟨?_, h.own.frozenAt i⟩
 rw [h.own.cellAt i (by omega)]
 exact Jn wd g cp n i hi
theorem Grid.cell {W : World} {B : Nat} {v : Value} {n wd : Nat} {M : List (List Nat)} {g cp : Nat → Nat} (h : Grid W B v n wd M g cp) (i : Nat) (hi : i < n) (j : Nat) (hj : j < wd) : W.cell? ⟨g i, j, none⟩ = some (.int .u16 (((M.getD i []).getD j 0 : Nat) : Int)) := by
 have hr := h.row i hi
 have hl := h.full.wide i hi
 unfold Row at hr
 rw [hr.cellAt j (by rw [hl]; omega)]
 have hj' : j < (M.getD i []).length := by rw [hl]; exact hj
 rw [A9, List.getElem?_map, List.getElem?_eq_getElem hj']
 simp only [Option.map_some, List.getD_eq_getElem?_getD (l := M.getD i []), List.getElem?_eq_getElem hj', Option.getD_some]
theorem Grid.kept {W W' : World} {B b : Nat} {v : Value} {n wd : Nat} {M : List (List Nat)} {g cp : Nat → Nat} (h : Grid W B v n wd M g cp) {B' cap' : Nat} {r : List Nat} (hr : Row W B' b cap' r) (hg : W.grownBy W' (some b)) (hb : ∀ i, i < n → g i ≠ b) : Grid W' B v n wd M g cp := by
 refine ⟨h.full, h.own.kept hg ?_, fun i hi => (h.row i hi).kept hg (.inr ?_), h.inj, h.nil⟩
 ·have := Bn h.own hr (by decide)
  simpa [Value.ownBlock] using this
 ·have := hb i hi
  simpa [Value.ownBlock] using this
theorem Grid.changed {W W' : World} {B : Nat} {v : Value} {n wd : Nat} {M : List (List Nat)} {g cp : Nat → Nat} (h : Grid W B v n wd M g cp) (c : Nat) (hc : c < n) {r : List Nat} (hr : Row W' B (g c) (cp c) r) (hl : r.length = wd) (hx : ∀ x ∈ r, x < 65536) (hg : W.grownBy W' (some (g c))) : Grid W' B v n wd (M.set c r) g cp := by
 refine ⟨h.full.set c r hl hx, h.own.kept hg ?_, fun i hi => ?_, h.inj, h.nil⟩
 ·have := Bn h.own (h.row c hc) (by decide)
  simpa [Value.ownBlock] using this
 ·by_cases e : i = c
  ·subst e
   have : (M.set i r).getD i [] = r := by simp [h.full.len, hi]
   rw [this]; exact hr
  ·have : (M.set c r).getD i [] = M.getD i [] := by
    simp only [List.getD_eq_getElem?_getD]
    rw [List.getElem?_set_ne (fun e' => e e'.symm)]
   rw [this]
   refine (h.row i hi).kept hg (.inr ?_)
   simp only [Value.ownBlock, ne_eq, Option.some.injEq]
   exact fun e' => e (h.inj i c hi hc e')
theorem Ms {W : World} {B B' : Nat} {v v' : Value} {n wd n' wd' : Nat} {M M' : List (List Nat)} {g cp g' cp' : Nat → Nat} (h : Grid W B v n wd M g cp) (h' : Grid W B' v' n' wd' M' g' cp') (ha : Apart n g n' g') : v'.ownBlock = none ∨ v'.ownBlock ≠ v.ownBlock := by
 rcases Nat.eq_zero_or_pos n' with h0' | h0'
 ·exact .inl (h'.nil h0')
 ·right
  obtain ⟨hd', cap', hv', _, _⟩ := h'.form h0'
  subst hv'
  rcases Nat.eq_zero_or_pos n with h0 | h0
  ·rw [h.nil h0]; simp [Value.ownBlock]
  ·obtain ⟨hd, cap, hv, _, _⟩ := h.form h0
   subst hv
   simp only [Value.ownBlock, ne_eq, Option.some.injEq]
   intro e
   subst e
   have e1 := (h.head 0 h0).1
   have e2 := (h'.head 0 h0').1
   rw [e1] at e2
   simp at e2
   exact ha 0 0 h0 h0' e2.1
theorem Grid.keptHead {W W' : World} {B B' : Nat} {v v' : Value} {n wd n' wd' : Nat} {M M' : List (List Nat)} {g cp g' cp' : Nat → Nat} (h' : Grid W B' v' n' wd' M' g' cp') (h : Grid W B v n wd M g cp) (ha : Apart n g n' g') (hg : W.grownBy W' v.ownBlock) : Grid W' B' v' n' wd' M' g' cp' :=
 ⟨h'.full, h'.own.kept hg (Ms h h' ha), fun i hi => (h'.row i hi).kept hg (Bn (h'.row i hi) h.own (by decide)), h'.inj, h'.nil⟩
def sw (p c i : Nat) : Nat := if i = c then p else if i = p then c else i
theorem LS {p c i n : Nat} (hp : p < n) (hc : c < n) (hi : i < n) : sw p c i < n := by unfold sw; split <;> (try split) <;> omega
theorem SN {p c i j : Nat} (h : sw p c i = sw p c j) : i = j := by
 unfold sw at h
 split at h <;> split at h <;> (try split at h) <;> (try split at h) <;> omega
theorem JR (M : List (List Nat)) (p c i : Nat) (hp : p < M.length) (hc : c < M.length) : (FK M p c).getD i [] = M.getD (sw p c i) [] := by
 unfold FK sw
 simp only [List.getD_eq_getElem?_getD]
 by_cases h1 : i = c
 ·rw [if_pos h1, h1, List.getElem?_set_self (by rw [List.length_set]; exact hc)]
  rfl
 ·rw [if_neg h1, List.getElem?_set_ne (fun e => h1 e.symm)]
  by_cases h2 : i = p
  ·rw [if_pos h2, h2, List.getElem?_set_self hp]
   rfl
  ·rw [if_neg h2, List.getElem?_set_ne (fun e => h2 e.symm)]
theorem Grid.swap {W : World} {B : Nat} {n wd hd cap : Nat} {M : List (List Nat)} {g cp : Nat → Nat} (h : Grid W B (.slice (some ⟨hd, 0, none⟩) n cap) n wd M g cp) (p c : Nat) (hp : p < n) (hc : c < n) :
  Grid ((W.setCell ⟨hd, p, none⟩ (.slice (some ⟨g c, 0, none⟩) wd (cp c))).setCell ⟨hd, c, none⟩ (.slice (some ⟨g p, 0, none⟩) wd (cp p))) B (.slice (some ⟨hd, 0, none⟩) n cap) n wd (FK M p c) (fun i => g (sw p c i)) (fun i => cp (sw p c i)) ∧
  W.grownBy ((W.setCell ⟨hd, p, none⟩ (.slice (some ⟨g c, 0, none⟩) wd (cp c))).setCell ⟨hd, c, none⟩ (.slice (some ⟨g p, 0, none⟩) wd (cp p))) (some hd) := by
 obtain ⟨o1, g1⟩ := h.own.stored p (.slice (some ⟨g c, 0, none⟩) wd (cp c))
 obtain ⟨o2, g2⟩ := o1.stored c (.slice (some ⟨g p, 0, none⟩) wd (cp p))
 have hg := g1.trans g2
 refine ⟨⟨h.full.swap p c hp hc, ?_, fun i hi => ?_, fun i j hi hj e => SN (h.inj _ _ (LS hp hc hi) (LS hp hc hj) e), fun h0 => by omega⟩, hg⟩
 ·have e : ((D5 wd g cp n).set p (.slice (some ⟨g c, 0, none⟩) wd (cp c))).set c (.slice (some ⟨g p, 0, none⟩) wd (cp p)) = D5 wd (fun i => g (sw p c i)) (fun i => cp (sw p c i)) n := by
   apply List.ext_getElem
   ·simp [D5]
   ·intro i h1 h2
    simp only [D5, List.getElem_set, List.getElem_map, List.getElem_range, sw]
    by_cases e1 : i = c
    ·subst e1; simp
    ·have e1' : ¬ c = i := fun e => e1 e.symm
     by_cases e2 : i = p
     ·subst e2; simp [e1, e1']
     ·have e2' : ¬ p = i := fun e => e2 e.symm
      simp [e1, e2, e1', e2']
  rw [← e]; exact o2
 ·rw [JR M p c i (by rw [h.full.len]; exact hp) (by rw [h.full.len]; exact hc)]
  have hr := h.row (sw p c i) (LS hp hc hi)
  exact hr.kept hg (by have := Bn hr h.own (by decide); simpa [Value.ownBlock] using this)
theorem Apart.swap {K : Nat} {g g' : Nat → Nat} (h : Apart K g K g') (p c : Nat) (hp : p < K) (hc : c < K) : Apart K (fun i => g (sw p c i)) K (fun i => g' (sw p c i)) := fun _ _ hi hj => h _ _ (LS hp hc hi) (LS hp hc hj)
theorem Grid.push {W w2 : World} {B : Nat} {v v2 : Value} {n wd : Nat} {M : List (List Nat)} {g cp : Nat → Nat} (h : Grid W B v n wd M g cp) {gl cl : Nat} {r : List Nat} (hr : Row W B gl cl r) (hl : r.length = wd) (hx : ∀ x ∈ r, x < 65536) (hgl : ∀ i, i < n → g i ≠ gl)
  (hown : w2.ownsRow B 121 1 v2 (n + 1) (D5 wd g cp n ++ [.slice (some ⟨gl, 0, none⟩) wd cl])) (hg : W.grownBy w2 v.ownBlock) :
  Grid w2 B v2 (n + 1) wd (M ++ [r]) (fun i => if i < n then g i else gl) (fun i => if i < n then cp i else cl) := by
 have hlen := h.full.len
 have hold : ∀ i, i < n → (M ++ [r]).getD i [] = M.getD i [] := by
  intro i hi
  simp only [List.getD_eq_getElem?_getD]
  rw [List.getElem?_append_left (by omega)]
 have hnew : (M ++ [r]).getD n [] = r := by
  simp only [List.getD_eq_getElem?_getD]
  rw [List.getElem?_append_right (by omega), hlen]
  simp
 have hrow : ∀ i, i < n → Row w2 B (g i) (cp i) (M.getD i []) := fun i hi => (h.row i hi).kept hg (Bn (h.row i hi) h.own (by decide))
 have hrl : Row w2 B gl cl r := hr.kept hg (Bn hr h.own (by decide))
 refine ⟨⟨by simp [hlen], fun i hi => ?_, fun i => ?_⟩, ?_, fun i hi => ?_, fun i j hi hj e => ?_, fun h0 => by omega⟩
 ·by_cases e : i < n
  ·rw [hold i e]; exact h.full.wide i e
  ·obtain rfl : i = n := by omega
   rw [hnew]; exact hl
 ·by_cases e : i < n
  ·rw [hold i e]; exact h.full.low i
  ·by_cases e2 : i = n
   ·subst e2
    rw [hnew]; exact hx
   ·intro x hx'
    simp only [List.getD_eq_getElem?_getD] at hx'
    rw [List.getElem?_eq_none (by simp; omega)] at hx'
    simp at hx'
 ·have e : D5 wd (fun i => if i < n then g i else gl) (fun i => if i < n then cp i else cl) (n + 1) = D5 wd g cp n ++ [.slice (some ⟨gl, 0, none⟩) wd cl] := by
   unfold D5
   rw [List.range_succ, List.map_append]
   congr 1
   ·apply List.map_congr_left
    intro i hi
    have : i < n := by simpa using hi
    simp [this]
   ·simp
  rw [e]; exact hown
 ·by_cases e : i < n
  ·simp only [if_pos e]
   rw [hold i e]; exact hrow i e
  ·obtain rfl : i = n := by omega
   simp only [if_neg e]
   rw [hnew]; exact hrl
 ·by_cases e1 : i < n
  ·by_cases e2 : j < n
   ·simp only [if_pos e1, if_pos e2] at e
    exact h.inj i j e1 e2 e
   ·simp only [if_pos e1, if_neg e2] at e
    exact absurd e (hgl i e1)
  ·by_cases e2 : j < n
   ·simp only [if_neg e1, if_pos e2] at e
    exact absurd e.symm (hgl j e2)
   ·omega
theorem Grid.rdRows {W : World} {B : Nat} {n wd hd cap : Nat} {M : List (List Nat)} {g cp : Nat → Nat} (h : Grid W B (.slice (some ⟨hd, 0, none⟩) n cap) n wd M g cp) : RdRows W (some ⟨hd, 0, none⟩) M := by
 intro j r hj
 have hjl : j < n := by
  have := (List.getElem?_eq_some_iff.1 hj).1
  rw [h.full.len] at this; exact this
 have hr : M.getD j [] = r := by rw [List.getD_eq_getElem?_getD, hj]; rfl
 have hrow := h.row j hjl
 have hwd := h.full.wide j hjl
 rw [hr] at hrow hwd
 obtain ⟨a', c', hv', _, _, hrd⟩ := Aw hrow
 cases hv'
 refine ⟨hd, 0, _, cp j, rfl, ?_, hrd⟩
 rw [Nat.zero_add, hwd]
 exact (h.head j hjl).1
def OwnRowsU (W : World) (B : Nat) (v : Value) (rs : List (List Nat)) : Prop :=
 ∃ vs, W.ownsRow B 121 1 v rs.length vs ∧ ∀ (j : Nat) (r : List Nat), rs[j]? = some r → ∃ u, vs[j]? = some u ∧ W.ownsRow B 80 1 u r.length (A9 r)
theorem OwnRowsU.later {W W' : World} {B : Nat} {v : Value} {rs : List (List Nat)} (h : OwnRowsU W B v rs) (hb : Below W.heap.size W W') : OwnRowsU W' B v rs := by
 obtain ⟨vs, h1, h2⟩ := h
 refine ⟨vs, Ab h1 (Nat.le_refl _) hb, fun j r hj => ?_⟩
 obtain ⟨u, k1, k2⟩ := h2 j r hj
 exact ⟨u, k1, Ab k2 (Nat.le_refl _) hb⟩
theorem OwnRowsU.kept {W W' : World} {B b' : Nat} {v v' : Value} {rs : List (List Nat)} {e : TypeId} {s n : Nat} {xs : List Value} (h : OwnRowsU W B v rs) (h' : W.ownsRow b' e s v' n xs) (h1 : 121 ≠ e) (h2 : 80 ≠ e) (hg : W.grownBy W' v'.ownBlock) : OwnRowsU W' B v rs := by
 obtain ⟨vs, k1, k2⟩ := h
 refine ⟨vs, k1.kept hg (Bn k1 h' h1), fun j r hj => ?_⟩
 obtain ⟨u, m1, m2⟩ := k2 j r hj
 exact ⟨u, m1, m2.kept hg (Bn m2 h' h2)⟩
theorem OwnRowsU.append {W W' : World} {B : Nat} {v v' u : Value} {rs : List (List Nat)} {r : List Nat} {vs : List Value} (hv : W.ownsRow B 121 1 v rs.length vs) (hold : ∀ (j : Nat) (r : List Nat), rs[j]? = some r → ∃ u, vs[j]? = some u ∧ W.ownsRow B 80 1 u r.length (A9 r))
  (hu : W.ownsRow B 80 1 u r.length (A9 r)) (hv' : W'.ownsRow B 121 1 v' (rs.length + 1) (vs ++ [u])) (hg : W.grownBy W' v.ownBlock) : OwnRowsU W' B v' (rs ++ [r]) := by
 have hl : vs.length = rs.length := by have := hv.1; simpa using this
 refine ⟨vs ++ [u], by rw [List.length_append]; exact hv', fun j r' hj => ?_⟩
 rcases Nat.lt_or_ge j rs.length with hlt | hge
 ·rw [List.getElem?_append_left hlt] at hj
  obtain ⟨u', m1, m2⟩ := hold j r' hj
  exact ⟨u', by rw [List.getElem?_append_left (by omega)]; exact m1, m2.kept hg (Bn m2 hv (by decide))⟩
 ·rw [List.getElem?_append_right hge] at hj
  have hj0 : j - rs.length = 0 := by
   have := (List.getElem?_eq_some_iff.1 hj).1
   simp at this; omega
  rw [hj0] at hj
  simp at hj
  subst hj
  exact ⟨u, by rw [List.getElem?_append_right (by omega), show j - vs.length = 0 from by omega]; rfl, hu.kept hg (Bn hu hv (by decide))⟩
theorem OwnRowsU.rdRows {W : World} {B : Nat} {v : Value} {rs : List (List Nat)} (h : OwnRowsU W B v rs) : ∃ a c, v = .slice a rs.length c ∧ RdRows W a rs := by
 obtain ⟨vs, h1, h2⟩ := h
 obtain ⟨a, c, hv, _, _, hr⟩ := Aw h1
 refine ⟨a, c, hv, fun k r hk => ?_⟩
 obtain ⟨u, m1, m2⟩ := h2 k r hk
 obtain ⟨b, off, ha, hc⟩ := hr k u m1
 obtain ⟨a', c', hu, _, _, hr'⟩ := Aw m2
 subst hu
 exact ⟨b, off, a', c', ha, hc, hr'⟩
theorem OwnRowsU.base {W : World} {B B' : Nat} {v : Value} {rs : List (List Nat)} (hb : B' ≤ B) (h : OwnRowsU W B v rs) : OwnRowsU W B' v rs := by
 obtain ⟨vs, h1, h2⟩ := h
 refine ⟨vs, Ad hb h1, fun j r hj => ?_⟩
 obtain ⟨u, k1, k2⟩ := h2 j r hj
 exact ⟨u, k1, Ad hb k2⟩
theorem Grid.ownRows {W : World} {B : Nat} {v : Value} {n wd : Nat} {M : List (List Nat)} {g cp : Nat → Nat} (h : Grid W B v n wd M g cp) : OwnRowsU W B v M := by
 refine ⟨D5 wd g cp n, by rw [h.full.len]; exact h.own, fun j r hj => ?_⟩
 have hjl : j < n := by
  have := (List.getElem?_eq_some_iff.1 hj).1
  rw [h.full.len] at this; exact this
 have hr : M.getD j [] = r := by rw [List.getD_eq_getElem?_getD, hj]; rfl
 have hrow := h.row j hjl
 have hwd := h.full.wide j hjl
 rw [hr] at hrow hwd
 refine ⟨_, Jn wd g cp n j hjl, ?_⟩
 unfold Row at hrow
 rw [hwd] at hrow ⊢
 exact hrow
def Col (A : List (List Nat)) (c i : Nat) : Prop := en A c c = F.one ∧ ∀ k, k < i → k ≠ c → en A k c = F.zero
theorem PB {A : List (List Nat)} {K c b : Nat} (hA : Full A K K) (hc : c < K) (hb : b < 65536) (hb1 : en A c c * F.ofNat b = F.one) : Col (A.set c (BE (A.getD c []) b)) c 0 := by
 refine ⟨?_, fun k hk => absurd hk (Nat.not_lt_zero _)⟩
 rw [DU _ _ _ _ _ (by rw [hA.len]; exact hc), if_pos rfl, Hv _ _ _ (by rw [hA.wide c hc]; exact hc) (hA.low c) hb]
 exact hb1
theorem Nc {A : List (List Nat)} {c i : Nat} (h : Col A c i) (hi : i = c ∨ en A i c = F.zero) : Col A c (i + 1) := by
 refine ⟨h.1, fun k hk hne => ?_⟩
 by_cases e : k = i
 ·subst e
  rcases hi with hi | hi
  ·exact absurd hi hne
  ·exact hi
 ·exact h.2 k (by omega) hne
theorem R7 {A : List (List Nat)} {K c i f : Nat} (hA : Full A K K) (h : Col A c i) (hc : c < K) (hi : i < K) (hne : i ≠ c) (hf : f = (A.getD i []).getD c 0) : Col (A.set i (D8 (A.getD i []) (A.getD c []) f)) c (i + 1) := by
 have hil : i < A.length := by rw [hA.len]; exact hi
 have hfl : f < 65536 := by rw [hf]; exact AP (hA.low i) c
 refine ⟨?_, fun k hk hkc => ?_⟩
 ·rw [DU _ _ _ _ _ hil, if_neg (fun e => hne e.symm)]; exact h.1
 ·rw [DU _ _ _ _ _ hil]
  by_cases e : k = i
  ·rw [if_pos e, NC _ _ _ _ (by rw [hA.wide i hi]; exact hc) (hA.low i) (hA.low c) hfl]
   have h1 := h.1
   unfold en at h1
   rw [h1, F.one_mul, hf, F.add_self]
  ·rw [if_neg e]; exact h.2 k (by omega) hkc
theorem Qk {A : List (List Nat)} {K c : Nat} (hU : Un9 A K c) (h : Col A c K) : Un9 A K (c + 1) := by
 intro j hj i hi
 by_cases e : j = c
 ·subst e
  by_cases e2 : i = j
  ·rw [if_pos e2, e2]; exact h.1
  ·rw [if_neg e2]; exact h.2 i hi e2
 ·exact hU j (by omega) i hi
theorem Py {A : List (List Nat)} {K wd i j : Nat} (hA : Full A K wd) : en A i j = F.zero ↔ (A.getD i []).getD j 0 = 0 := by
 have hl := AP (hA.low i) j
 unfold en
 constructor
 ·intro h
  have := congrArg Subtype.val h
  rw [Bz hl] at this
  exact this
 ·intro h
  rw [h]; rfl
end Go.Proofs.YtonjphollmdicaaGreatDoor
namespace Go.Proofs.YtonjphollmdicaaGreatDoor
open Go.ChangeShapes Go.WideShapes Go.ChangeAt Go.RowKit Math
def OU (t : Nat) : Nat → Nat
 | 0 => 1
 | j + 1 => Math.mul (OU t j) t
def EI (t n : Nat) : List Nat := (List.range n).map (OU t)
theorem JW (t : Nat) : ∀ j, OU t j < 65536
 | 0 => by simp [OU]
 | j + 1 => Math.mul_lt (JW t j) t
theorem LK (t n : Nat) : (EI t n).length = n := by simp [EI]
theorem Ob (t n : Nat) : EI t (n + 1) = EI t n ++ [OU t n] := by simp [EI, List.range_succ]
theorem NS (t n j : Nat) (h : j < n) : (EI t n).getD j 0 = OU t j := by simp [EI, h]
theorem Qy (t n : Nat) : ∀ x ∈ EI t n, x < 65536 := by
 intro x hx
 simp only [EI, List.mem_map] at hx
 obtain ⟨j, _, rfl⟩ := hx
 exact JW t j
theorem Jv (t : Nat) (ht : t < 65536) : ∀ j, F.ofNat (OU t j) = Ss (F.ofNat t) j
 | 0 => rfl
 | j + 1 => by rw [OU, Ss, Cl (JW t j) ht, Jv t ht j]
def Fu (ts : List Nat) (K i : Nat) : List (List Nat) := (List.range i).map fun q => EI (ts.getD q 0) K
theorem My (ts : List Nat) (K i : Nat) : Fu ts K (i + 1) = Fu ts K i ++ [EI (ts.getD i 0) K] := by simp [Fu, List.range_succ]
theorem IR (ts : List Nat) (K : Nat) (h : ∀ x ∈ ts, x < 65536) : SP (fun i => F.ofNat (ts.getD i 0)) (Fu ts K K) K := by
 intro i hi j hj
 have e : (Fu ts K K).getD i [] = EI (ts.getD i 0) K := by simp [Fu, hi]
 unfold en
 rw [e, NS _ _ _ hj, Jv _ (AP h i)]
def NB (l : List Nat) : List Value := l.map fun (n : Nat) => Value.int .i64 (n : Int)
theorem Sp {w : World} {a : Option Addr} {l : List Nat} (h : Rd w a (NB l)) (k : Nat) (hk : k < l.length) : ∃ b off, a = some ⟨b, off, none⟩ ∧ w.cell? ⟨b, off + k, none⟩ = some (.int .i64 ((l.getD k 0 : Nat) : Int)) := by
 refine h k _ ?_
 simp [NB, hk]
theorem NP (ts : List Nat) (hnd : ts.Nodup) (hx : ∀ x ∈ ts, x < 65536) : ∀ a b, a < ts.length → b < ts.length → F.ofNat (ts.getD a 0) = F.ofNat (ts.getD b 0) → a = b := by
 intro a b ha hb e
 have := congrArg Subtype.val e
 rw [Bz (AP hx a), Bz (AP hx b)] at this
 have h1 : ts.getD a 0 = ts[a] := by simp [ha]
 have h2 : ts.getD b 0 = ts[b] := by simp [hb]
 rw [h1, h2] at this
 exact (List.getElem_inj hnd).1 this
def Sys0 (B : Nat) (W : World) (va vy : Value) (i K wd : Nat) (A Y : List (List Nat)) : Prop :=
 ∃ gA cA gY cY, Grid W B va i K A gA cA ∧ Grid W B vy i wd Y gY cY ∧ Apart i gA i gY
theorem Sys0.start (B : Nat) (W : World) (K wd : Nat) : Sys0 B W (.slice none 0 0) (.slice none 0 0) 0 K wd [] [] :=
 ⟨fun _ => 0, fun _ => 0, fun _ => 0, fun _ => 0, Grid.empty _ _ _ _ _, Grid.empty _ _ _ _ _, fun _ _ h => absurd h (Nat.not_lt_zero _)⟩
theorem Sys0.later {B : Nat} {W W' : World} {va vy : Value} {i K wd : Nat} {A Y : List (List Nat)} (h : Sys0 B W va vy i K wd A Y) (hb : Below W.heap.size W W') : Sys0 B W' va vy i K wd A Y := by
 obtain ⟨gA, cA, gY, cY, h1, h2, h3⟩ := h
 exact ⟨gA, cA, gY, cY, h1.later (Nat.le_refl _) hb, h2.later (Nat.le_refl _) hb, h3⟩
theorem Ou {B : Nat} {W0 W1 W2 W3 W4 : World} {va vy va' vy' : Value} {i K wd : Nat} {A Y : List (List Nat)} {gA cA gY cY : Nat → Nat} {gl cl gm cm : Nat} {r m : List Nat}
  (h1 : Grid W0 B va i K A gA cA) (h2 : Grid W0 B vy i wd Y gY cY) (h3 : Apart i gA i gY) (hB : B ≤ W0.heap.size)
  (h01 : Below W0.heap.size W0 W1) (hr : W1.ownsRow W0.heap.size 80 1 (.slice (some ⟨gl, 0, none⟩) K cl) K (A9 r)) (hrl : r.length = K) (hrx : ∀ x ∈ r, x < 65536)
  (ho : W2.ownsRow B 121 1 va' (i + 1) (D5 K gA cA i ++ [.slice (some ⟨gl, 0, none⟩) K cl])) (hg : W1.grownBy W2 va.ownBlock)
  (h23 : Below W2.heap.size W2 W3) (hm : W3.ownsRow W2.heap.size 80 1 (.slice (some ⟨gm, 0, none⟩) wd cm) wd (A9 m)) (hml : m.length = wd) (hmx : ∀ x ∈ m, x < 65536)
  (ho' : W4.ownsRow B 121 1 vy' (i + 1) (D5 wd gY cY i ++ [.slice (some ⟨gm, 0, none⟩) wd cm])) (hg' : W3.grownBy W4 vy.ownBlock) :
  Sys0 B W4 va' vy' (i + 1) K wd (A ++ [r]) (Y ++ [m]) := by
 subst hrl hml
 have a1 := h1.later (Nat.le_refl _) h01
 have y1 := h2.later (Nat.le_refl _) h01
 have hsz1 := h01.size
 have hgl := hr.lt gl (by simp [Value.ownBlock])
 have hglA : ∀ q, q < i → gA q ≠ gl := fun q hq e => by have := (h1.lt q hq).1; omega
 have hglY : ∀ q, q < i → gY q ≠ gl := fun q hq e => by have := (h2.lt q hq).1; omega
 have a2 := a1.push (Ad (by omega) hr) rfl hrx hglA ho hg
 have y2 := y1.keptHead a1 h3 hg
 have hsz2 := hg.size
 have a3 := a2.later (Nat.le_refl _) h23
 have y3 := y2.later (Nat.le_refl _) h23
 have hgm := hm.lt gm (by simp [Value.ownBlock])
 have hgmY : ∀ q, q < i → gY q ≠ gm := fun q hq e => by have := (y2.lt q hq).1; omega
 have hgmA : ∀ q, q < i + 1 → (if q < i then gA q else gl) ≠ gm := fun q hq e => by have := (a2.lt q hq).1; omega
 have hap : Apart i gY (i + 1) (fun q => if q < i then gA q else gl) := by
  intro q j hq hj e
  by_cases hji : j < i
  ·simp only [if_pos hji] at e
   exact h3 j q hji hq e.symm
  ·simp only [if_neg hji] at e
   exact hglY q hq e
 have y4 := y3.push (Ad (by omega) hm) rfl hmx hgmY ho' hg'
 have a4 := a3.keptHead y3 hap hg'
 refine ⟨_, _, _, _, a4, y4, ?_⟩
 intro q j hq hj e
 by_cases hji : j < i
 ·simp only [if_pos hji] at e
  exact hap j q hji hq e.symm
 ·simp only [if_neg hji] at e
  exact hgmA q hq e
theorem MP {B : Nat} {W0 W1 W2 : World} {va vy : Value} {i K wd : Nat} {A Y : List (List Nat)} {gA cA gY cY : Nat → Nat}
  (h1 : Grid W0 B va i K A gA cA) (h2 : Grid W0 B vy i wd Y gY cY) (h3 : Apart i gA i gY) (h01 : Below W0.heap.size W0 W1) (hg : W1.grownBy W2 va.ownBlock) : W2.ownsRow B 121 1 vy i (D5 wd gY cY i) := by
 have a1 := h1.later (Nat.le_refl _) h01
 have y1 := h2.later (Nat.le_refl _) h01
 exact (y1.keptHead a1 h3 hg).own
end Go.Proofs.YtonjphollmdicaaGreatDoor
