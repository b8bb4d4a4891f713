import Derived.Test.YtonjphollmdicaaGreatDoorB01
import Derived.Test.YtonjphollmdicaaGreatDoorB03
import Derived.Deep.DeepAppendRoom
import Derived.ArgAppend
set_option maxRecDepth 100000
set_option maxHeartbeats 4000000
set_option linter.unusedSimpArgs false
namespace Go.Proofs.YtonjphollmdicaaGreatDoor
open Go.ChangeShapes Go.WideShapes Go.ChangeAt Go.RowKit
def rep (n : Nat) (p : List Value) : List Value := (List.replicate n p).flatten
theorem Gy (n : Nat) (p : List Value) : (rep n p).length = n * p.length := by simp [rep]
theorem MQ (n k : Nat) (p : List Value) : rep (n + k) p = rep n p ++ rep k p := by
 unfold rep
 rw [← List.replicate_append_replicate, List.flatten_append]
theorem Rz {m n : Nat} (h : m ≤ n) (p : List Value) : (rep n p).take (m * p.length) = rep m p := by
 obtain ⟨k, rfl⟩ := Nat.exists_eq_add_of_le h
 rw [MQ, ← Gy m p]
 exact List.take_left
theorem PO (n : Nat) (p : List Value) : ∀ i j, i < n → j < p.length → (rep n p)[i * p.length + j]? = p[j]? := by
 induction n with
 | zero => intro i j h; omega
 | succ n ih =>
  intro i j hi hj
  have e : rep (n + 1) p = p ++ rep n p := by simp [rep, List.replicate_succ]
  rw [e]
  cases i with
  | zero => rw [Nat.zero_mul, Nat.zero_add, List.getElem?_append_left hj]
  | succ i =>
   rw [Nat.succ_mul, List.getElem?_append_right (by omega), show i * p.length + p.length + j - p.length = i * p.length + j from by omega]
   exact ih i j (by omega) hj
theorem So {n : Nat} {p : List Value} {u : Value} (h : u ∈ rep n p) : u ∈ p := by
 unfold rep at h
 obtain ⟨l, hl, hu⟩ := List.mem_flatten.1 h
 rw [(List.mem_replicate.1 hl).2] at hu
 exact hu
theorem Fk {w w' : World} {base : Nat} {e : TypeId} {sz : Nat} {v : Value} {n : Nat} {xs : List Value} (h : w.ownsRow base e sz v n xs) (hk : ∀ k, v.ownBlock = some k → w'.heap[k]? = w.heap[k]?) : w'.ownsRow base e sz v n xs := by
 refine ⟨h.1, ?_⟩
 rcases h.2 with h1 | ⟨g, cap, cur, rfl, hb, hg, h2⟩
 ·exact .inl h1
 ·exact .inr ⟨g, cap, cur, rfl, hb, by rw [hk g rfl]; exact hg, h2⟩
theorem Rd.same {w w' : World} {a : Option Addr} {xs : List Value} (h : Rd w a xs) (hk : ∀ c, a = some c → w'.heap[c.block]? = w.heap[c.block]?) : Rd w' a xs := by
 intro k u hu
 obtain ⟨b, off, rfl, hc⟩ := h k u hu
 refine ⟨b, off, rfl, ?_⟩
 have hk' := hk ⟨b, off, none⟩ rfl
 rw [World.cell?_of_block (w := w) (a := ⟨b, off + k, none⟩) hk']
 exact hc
theorem Id {w : World} {base : Nat} {e : TypeId} {g n m c : Nat} {p : List Value} (h : w.ownsRow base e p.length (.slice (some ⟨g, 0, none⟩) n c) n (rep n p)) (hm : m ≤ n) : w.ownsRow base e p.length (.slice (some ⟨g, 0, none⟩) m c) m (rep m p) := by
 refine ⟨Gy _ _, ?_⟩
 rcases h.2 with ⟨h1, _⟩ | ⟨g', cap, cur, h1, hb, hg, h2, h3, h4, h5⟩
 ·cases h1
 ·cases h1
  refine .inr ⟨g, c, cur, rfl, hb, hg, by omega, h3, h4, ?_⟩
  rw [← Rz hm p, ← h5, List.take_take, Nat.min_eq_left (Nat.mul_le_mul_right _ hm)]
theorem A6 {w : World} {base : Nat} {e : TypeId} {sz : Nat} {v : Value} {n : Nat} {xs : List Value} (h : w.ownsRow base e sz v n xs) : ∃ a c, v = .slice a n c ∧ Rd w a xs ∧ (∀ ad, a = some ad → ∃ g, ad = ⟨g, 0, none⟩ ∧ v.ownBlock = some g) ∧ (a = none → c = 0) := by
 obtain ⟨a, c, rfl, hr⟩ := AE h
 refine ⟨a, c, rfl, hr, fun ad e => ?_, fun e => ?_⟩
 ·subst e
  rcases h.2 with ⟨h1, _⟩ | ⟨g, cap, cur, h1, _⟩
  ·cases h1
  ·cases h1
   exact ⟨g, rfl, rfl⟩
 ·subst e
  rcases h.2 with ⟨h1, _⟩ | ⟨g, cap, cur, h1, _⟩
  ·cases h1
   rfl
  ·cases h1
section
variable {P : Program} {w : World} {ops : Array Oper} {rest : List Oper} {o : Oper} {a : Act} {Q : Exit → Act → World → Prop}
def Grew (base : Nat) (e : TypeId) (p : List Value) (w : World) (v : Value) (n m : Nat) (v' : Value) (w' : World) : Prop :=
 w'.ownsRow base e p.length v' (n + m) (rep (n + m) p) ∧ w'.ownsRow base e p.length v n (rep n p) ∧ Touch (Ed v) w w' ∧ (∀ k, v'.ownBlock = some k → v.ownBlock = some k ∨ w.heap.size ≤ k) ∧
 ∀ g k, k ≤ n + m → Rd w (some ⟨g, 0, none⟩) (rep k p) → Rd w' (some ⟨g, 0, none⟩) (rep k p)
theorem AJ (hgd : o.guard = none) (s x : Operand) (t : TypeId) (ho : o.op = .call { callee := .builtin .append, args := #[s, x], argTypes := #[t, t] })
  (base : Nat) (e : TypeId) (i : TypeInfo) (z : Value) (bytes : Nat) (p : List Value) (ht : P.underlying t = some (.slice e)) (hi : P.info? e = some i) (hz : i.zero = some z)
  (hsize : i.size = p.length) (hby : i.bytes = bytes) (hzs : z.cells.size = p.length) (hsz : 0 < p.length)
  (v : Value) (n : Nat) (hs : a.eval s = v) (hown : w.ownsRow base e p.length v n (rep n p))
  (ad : Addr) (m c : Nat) (hx : a.eval x = .slice (some ad) m c) (hm : 0 < m) (hnews : ∀ j u, (rep m p)[j]? = some u → w.cell? (ad.add j) = some u) (h1 : ∀ u ∈ p, u.oneCell' = true)
  (h63 : n + m ≤ maxLen) (hbytes : (n + m) * bytes ≤ 140737488355328) (hbase : base ≤ w.heap.size)
  (h : ∀ v' w', Grew base e p w v n m v' w' → wpList P ops Q rest (a.put o.dst v') w') : wpList P ops Q (o :: rest) a w := by
 have hone : ∀ u ∈ rep m p, u.oneCell' = true := fun u hu => h1 u (So hu)
 have grows : ∀ (ao : Option Addr) (cap : Nat), v = .slice ao n cap → (ao = none → n = 0 ∧ cap = 0) → (∀ b, ao = some b → ∀ j u, (rep n p)[j]? = some u → w.cell? (b.add j) = some u) → cap < n + m → wpList P ops Q (o :: rest) a w := by
  intro ao cap hv hn ho' hfull
  subst hv
  refine wpList_append_grows w hgd s x t ho e i z p.length bytes ht hi hz hsize hby hzs hsz ao n cap (rep n p) hs hn (Gy _ _) ho' ad m c (rep m p) hx (Gy _ _) hnews hone hfull h63 hbytes ?_
  intro v' w' h2 h3
  rw [← MQ] at h2
  have hbel : Below w.heap.size w w' := ⟨h3.os, h3.tape, h3.output, h3.size, fun k hk => h3.block k hk (by simp)⟩
  refine h v' w' ⟨Ad hbase h2, Ab hown (Nat.le_refl _) hbel, Touch.of_below hbel _, fun k hk => .inr (h2.lt k hk).1, fun g k _ hr => hr.later (Nat.le_refl _) hbel⟩
 rcases hown.2 with ⟨rfl, rfl⟩ | ⟨g, cap, cur, rfl, hb, hg, hnc, hcm, hcs, htk⟩
 ·exact grows none 0 rfl (fun _ => ⟨rfl, rfl⟩) (fun b hb => by cases hb) (by omega)
 ·by_cases hroom : n + m ≤ cap
  ·refine wpList_append_own_spare w hgd s x t ho base e i p.length ht hi hsize g n cap (rep n p) hs hown ad m c (rep m p) hx (Gy _ _) hnews hone hroom ?_
   intro w' h2 h3
   rw [← MQ] at h2
   refine h _ w' ⟨h2, Id h2 (by omega), Touch.of_row h3, fun k hk => .inl hk, fun g' k hk hr => ?_⟩
   by_cases hg' : g' = g
   ·subst hg'
    obtain ⟨a', c', e', hr'⟩ := AE (Id h2 hk)
    cases e'
    exact hr'
   ·intro j u hu
    obtain ⟨b, off, e', hc⟩ := hr j u hu
    cases e'
    exact ⟨g', 0, rfl, by rw [(Touch.of_grown h3).cell (World.block_lt_of_cell? w _ hc) (by simp [hg'])]; exact hc⟩
  ·exact grows (some ⟨g, 0, none⟩) cap rfl (fun h => by cases h) (fun b hb => by cases hb; exact hown.cells rfl) (by omega)
end
def Bj (m : Int) : List UInt8 := [109, 97, 114, 107, UInt8.ofNat (m.toNat / 65536), UInt8.ofNat (m.toNat / 256), UInt8.ofNat m.toNat]
def MJ : Nat → Int → List Value
 | 0, m => [.string (str (Bj m))]
 | 1, m => [.string (str (Bj m)), .string (str (Bj m))]
 | 2, m => [.int .i64 m]
 | _, m => [.bool (m == 1)]
def Sb : Nat → TypeId
 | 0 => 23
 | 1 => 22
 | 2 => 31
 | _ => 32
def RQ (w : World) (B : Nat) (F : Nat → Prop) (rs : Nat → Value) (j : Nat) (m : Int) (v : Value) : Prop :=
 ∃ g n c, v = .slice g n c ∧ n ≤ 1003 ∧ Rd w g (rep n (MJ j m)) ∧ ∀ ad, g = some ad → F ad.block ∧ ad.block ≠ B ∧ ∀ r, r < 8 → (rs r).ownBlock ≠ some ad.block
def cellsB (rs : Nat → Value) : List Value := [rs 0, rs 1, rs 2, rs 3, rs 4, rs 5, rs 6, rs 7]
structure BookI (w : World) (base B : Nat) (F : Nat → Prop) (rs : Nat → Value) (T : Nat → List Value) (M : Nat → List Int) : Prop where
 blk : Blk w B (cellsB rs)
 lo : base ≤ B
 hi : F B
 le : ∀ k, F k → k < w.heap.size
 apart : ∀ i j k, i < 8 → j < 8 → i ≠ j → (rs i).ownBlock = some k → (rs j).ownBlock ≠ some k
 off : ∀ i k, i < 8 → (rs i).ownBlock = some k → F k ∧ k ≠ B
 rowT : ∀ j, j < 4 → w.ownsRow base (Sb j) 1 (rs j) (T j).length (T j)
 rowM : ∀ j, j < 4 → w.ownsRow base 3 1 (rs (4 + j)) (M j).length ((M j).map (Value.int .i64))
 len : ∀ j, j < 4 → (T j).length = (M j).length
 rng : ∀ j m, j < 4 → m ∈ M j → -4398046511104 ≤ m ∧ m ≤ 4398046511104 ∧ (j ≠ 2 → 0 ≤ m)
 good : ∀ (j i : Nat) (v : Value) (m : Int), j < 4 → (T j)[i]? = some v → (M j)[i]? = some m → RQ w B F rs j m v
section
variable {w w' : World} {base B : Nat} {F F' : Nat → Prop} {rs : Nat → Value} {T : Nat → List Value} {M : Nat → List Int}
theorem BookI.lt (h : BookI w base B F rs T M) : B < w.heap.size := h.le B h.hi
theorem BookI.bas (h : BookI w base B F rs T M) : base ≤ w.heap.size := by have := h.lo; have := h.lt; omega
theorem BookI.same (h : BookI w base B F rs T M) (hsz : w.heap.size ≤ w'.heap.size) (hb : ∀ k, F k → w'.heap[k]? = w.heap[k]?) : BookI w' base B F rs T M where
 blk := fun k u hk => by
  have h1 := h.blk k u hk
  exact ⟨by rw [World.cell?_of_block (w := w) (hb _ h.hi)]; exact h1.1, by rw [World.frozen?_of_block (w := w) (hb _ h.hi)]; exact h1.2⟩
 lo := h.lo
 hi := h.hi
 le := fun k hk => Nat.lt_of_lt_of_le (h.le k hk) hsz
 apart := h.apart
 off := h.off
 rowT := fun j hj => Fk (h.rowT j hj) fun k hk => hb k (h.off j k (by omega) hk).1
 rowM := fun j hj => Fk (h.rowM j hj) fun k hk => hb k (h.off (4 + j) k (by omega) hk).1
 len := h.len
 rng := h.rng
 good := fun j i v m hj hv hm => by
  obtain ⟨g, n, c, e, hn, hr, hg⟩ := h.good j i v m hj hv hm
  exact ⟨g, n, c, e, hn, hr.same (fun ad ha => hb _ (hg ad ha).1), hg⟩
theorem BookI.later (h : BookI w base B F rs T M) {N : Nat} (hN : ∀ k, F k → k < N) (hb : Below N w w') : BookI w' base B F rs T M := h.same hb.size fun k hk => hb.block k (hN k hk)
theorem BookI.touch (h : BookI w base B F rs T M) {L : List Nat} (ht : Touch L w w') (hL : ∀ k ∈ L, ¬ F k) : BookI w' base B F rs T M := h.same ht.size fun k hk => ht.block k (h.le k hk) fun e => hL k e hk
theorem BookI.mono (h : BookI w base B F rs T M) (hF : ∀ k, F k → F' k) (hle : ∀ k, F' k → k < w.heap.size) : BookI w base B F' rs T M where
 blk := h.blk
 lo := h.lo
 hi := hF _ h.hi
 le := hle
 apart := h.apart
 off := fun i k hi hk => ⟨hF _ (h.off i k hi hk).1, (h.off i k hi hk).2⟩
 rowT := h.rowT
 rowM := h.rowM
 len := h.len
 rng := h.rng
 good := fun j i v m hj hv hm => by
  obtain ⟨g, n, c, e, hn, hr, hg⟩ := h.good j i v m hj hv hm
  exact ⟨g, n, c, e, hn, hr, fun ad ha => ⟨hF _ (hg ad ha).1, (hg ad ha).2⟩⟩
def upd {α : Type} (f : Nat → α) (j : Nat) (x : α) : Nat → α := fun i => if i = j then x else f i
theorem DJ {α : Type} (f : Nat → α) (j : Nat) (x : α) : upd f j x j = x := by simp [upd]
theorem CE {α : Type} (f : Nat → α) {i j : Nat} (x : α) (h : i ≠ j) : upd f j x i = f i := by simp [upd, h]
theorem BookI.keep (h : BookI w base B F rs T M) {j : Nat} (hj : j < 4) {tv mv : Value} {m : Int} {new : List Value} {ms : List Int}
  (hF : ∀ k, F k → F' k) (hle : ∀ k, F' k → k < w'.heap.size) (hfr : ∀ k, w.heap.size ≤ k → k < w'.heap.size → F' k)
  (hm : -4398046511104 ≤ m ∧ m ≤ 4398046511104 ∧ (j ≠ 2 → 0 ≤ m)) (hms : ∀ x ∈ ms, x = m) (hlen : new.length = ms.length)
  (hnew : ∀ v ∈ new, ∃ g n c, v = .slice g n c ∧ n ≤ 1003 ∧ Rd w g (rep n (MJ j m)) ∧ ∀ ad, g = some ad → ¬ F ad.block ∧ F' ad.block ∧ ad.block < w.heap.size)
  (ht : Touch (B :: (Ed (rs j) ++ Ed (rs (4 + j)))) w w') (hblk : Blk w' B (cellsB (upd (upd rs j tv) (4 + j) mv)))
  (hT : w'.ownsRow base (Sb j) 1 tv (T j ++ new).length (T j ++ new)) (hM : w'.ownsRow base 3 1 mv (M j ++ ms).length ((M j ++ ms).map (Value.int .i64)))
  (at1 : ∀ k, tv.ownBlock = some k → (rs j).ownBlock = some k ∨ w.heap.size ≤ k) (at2 : ∀ k, mv.ownBlock = some k → (rs (4 + j)).ownBlock = some k ∨ w.heap.size ≤ k) (at3 : ∀ k, w.heap.size ≤ k → tv.ownBlock = some k → mv.ownBlock ≠ some k) :
  BookI w' base B F' (upd (upd rs j tv) (4 + j) mv) (upd T j (T j ++ new)) (upd M j (M j ++ ms)) := by
 have hsz := ht.size
 have hlt := h.lt
 have offlt : ∀ i k, i < 8 → (rs i).ownBlock = some k → k < w.heap.size := fun i k hi hk => h.le k (h.off i k hi hk).1
 obtain ⟨R, hR⟩ : ∃ R, R = upd (upd rs j tv) (4 + j) mv := ⟨_, rfl⟩
 have hRo : ∀ i, i ≠ j → i ≠ 4 + j → R i = rs i := fun i h1 h2 => by rw [hR, CE _ _ h2, CE _ _ h1]
 have hRj : R j = tv := by rw [hR, CE _ _ (by omega), DJ]
 have hRm : R (4 + j) = mv := by rw [hR, DJ]
 rw [← hR] at hblk ⊢
 have where' : ∀ i k, i < 8 → (R i).ownBlock = some k → (rs i).ownBlock = some k ∨ w.heap.size ≤ k := fun i k hi hk => by
  by_cases h1 : i = j
  ·subst h1; rw [hRj] at hk; exact at1 k hk
  ·by_cases h2 : i = 4 + j
   ·subst h2; rw [hRm] at hk; exact at2 k hk
   ·rw [hRo i h1 h2] at hk; exact .inl hk
 have fresh : ∀ i k, i < 8 → (R i).ownBlock = some k → w.heap.size ≤ k → i = j ∨ i = 4 + j := fun i k hi hk hn => by
  by_cases h1 : i = j
  ·exact .inl h1
  ·by_cases h2 : i = 4 + j
   ·exact .inr h2
   ·rw [hRo i h1 h2] at hk; have := offlt i k hi hk; omega
 have same : ∀ k, k < w.heap.size → k ≠ B → (rs j).ownBlock ≠ some k → (rs (4 + j)).ownBlock ≠ some k → w'.heap[k]? = w.heap[k]? := fun k hk h1 h2 h3 => ht.block k hk (by
  intro hm
  rcases List.mem_cons.1 hm with h4 | h4
  ·exact h1 h4
  ·rcases List.mem_append.1 h4 with h4 | h4
   ·exact h2 (blkL_mem.1 h4)
   ·exact h3 (blkL_mem.1 h4))
 have kept : ∀ jj m' v, (∃ g n c, v = .slice g n c ∧ n ≤ 1003 ∧ Rd w g (rep n (MJ jj m')) ∧ ∀ ad, g = some ad → F' ad.block ∧ ad.block < w.heap.size ∧ ad.block ≠ B ∧ ∀ r, r < 8 → (rs r).ownBlock ≠ some ad.block) → RQ w' B F' R jj m' v := by
  rintro jj m' v ⟨g, n, c, e, hn, hr, hg⟩
  refine ⟨g, n, c, e, hn, hr.same (fun ad ha => same _ (hg ad ha).2.1 (hg ad ha).2.2.1 ((hg ad ha).2.2.2 j (by omega)) ((hg ad ha).2.2.2 (4 + j) (by omega))), fun ad ha => ⟨(hg ad ha).1, (hg ad ha).2.2.1, fun r hr hk => ?_⟩⟩
  rcases where' r _ hr hk with h1 | h1
  ·exact (hg ad ha).2.2.2 r hr h1
  ·have := (hg ad ha).2.1; omega
 have old : ∀ i q v m', i < 4 → (T i)[q]? = some v → (M i)[q]? = some m' → RQ w' B F' R i m' v := fun i q v m' hi hv hm' => by
  obtain ⟨g, n, c, e, hn, hr, hg⟩ := h.good i q v m' hi hv hm'
  exact kept i m' v ⟨g, n, c, e, hn, hr, fun ad ha => ⟨hF _ (hg ad ha).1, h.le _ (hg ad ha).1, (hg ad ha).2⟩⟩
 refine ⟨hblk, h.lo, hF _ h.hi, hle, ?_, ?_, ?_, ?_, ?_, ?_, ?_⟩
 ·intro i i' k hi hi' hne h1 h2
  rcases where' i k hi h1 with h3 | h3
  ·rcases where' i' k hi' h2 with h4 | h4
   ·exact h.apart i i' k hi hi' hne h3 h4
   ·have := offlt i k hi h3; omega
  ·rcases where' i' k hi' h2 with h4 | h4
   ·have := offlt i' k hi' h4; omega
   ·rcases fresh i k hi h1 h3 with rfl | rfl
    ·rcases fresh i' k hi' h2 h3 with rfl | rfl
     ·exact hne rfl
     ·rw [hRj] at h1; rw [hRm] at h2; exact at3 k h3 h1 h2
    ·rcases fresh i' k hi' h2 h3 with rfl | rfl
     ·rw [hRm] at h1; rw [hRj] at h2; exact at3 k h3 h2 h1
     ·exact hne rfl
 ·intro i k hi hk
  rcases where' i k hi hk with h3 | h3
  ·exact ⟨hF _ (h.off i k hi h3).1, (h.off i k hi h3).2⟩
  ·refine ⟨hfr k h3 ?_, by omega⟩
   rcases fresh i k hi hk h3 with rfl | rfl
   ·rw [hRj] at hk; exact (hT.lt k hk).2
   ·rw [hRm] at hk; exact (hM.lt k hk).2
 ·intro i hi
  by_cases h1 : i = j
  ·subst h1; rw [hRj, DJ]; exact hT
  ·rw [hRo i h1 (by omega), CE _ _ h1]
   exact Fk (h.rowT i hi) fun k hk => same k (offlt i k (by omega) hk) (h.off i k (by omega) hk).2 (h.apart i j k (by omega) (by omega) h1 hk) (h.apart i (4 + j) k (by omega) (by omega) (by omega) hk)
 ·intro i hi
  by_cases h1 : i = j
  ·subst h1; rw [hRm, DJ]; exact hM
  ·rw [hRo (4 + i) (by omega) (by omega), CE _ _ h1]
   exact Fk (h.rowM i hi) fun k hk => same k (offlt (4 + i) k (by omega) hk) (h.off (4 + i) k (by omega) hk).2 (h.apart (4 + i) j k (by omega) (by omega) (by omega) hk) (h.apart (4 + i) (4 + j) k (by omega) (by omega) (by omega) hk)
 ·intro i hi
  by_cases h1 : i = j
  ·subst h1; rw [DJ, DJ, List.length_append, List.length_append, h.len i hi, hlen]
  ·rw [CE _ _ h1, CE _ _ h1]; exact h.len i hi
 ·intro i x hi hx
  by_cases h1 : i = j
  ·subst h1
   rw [DJ] at hx
   rcases List.mem_append.1 hx with h2 | h2
   ·exact h.rng i x hi h2
   ·rw [hms x h2]; exact hm
  ·rw [CE _ _ h1] at hx; exact h.rng i x hi hx
 ·intro i q v m' hi hv hm'
  by_cases h1 : i = j
  ·subst h1
   rw [DJ] at hv hm'
   by_cases hq : q < (T i).length
   ·rw [List.getElem?_append_left hq] at hv
    rw [List.getElem?_append_left (by rw [← h.len i hi]; exact hq)] at hm'
    exact old i q v m' hi hv hm'
   ·rw [List.getElem?_append_right (by omega)] at hv
    rw [List.getElem?_append_right (by rw [← h.len i hi]; omega)] at hm'
    have e := hms m' (List.mem_of_getElem? hm')
    subst e
    obtain ⟨g, n, c, e, hn, hr, hg⟩ := hnew v (List.mem_of_getElem? hv)
    refine kept i m' v ⟨g, n, c, e, hn, hr, fun ad ha => ⟨(hg ad ha).2.1, (hg ad ha).2.2, fun e => (hg ad ha).1 (e ▸ h.hi), fun r hr' hk => (hg ad ha).1 (h.off r _ hr' hk).1⟩⟩
  ·rw [CE _ _ h1] at hv hm'
   exact old i q v m' hi hv hm'
end
def GA (w : World) (base B : Nat) (F : Nat → Prop) (M : Nat → List Int) (j : Nat) (v : Value) (e : Ending) (w' : World) : Prop :=
 e = .returned (.tuple #[]) ∧ Below base w w' ∧ (∀ k, k < w.heap.size → ¬ F k → v.ownBlock ≠ some k → w'.heap[k]? = w.heap[k]?) ∧
 ∃ rs' T' M', BookI w' base B (fun k => F k ∨ v.ownBlock = some k ∨ (w.heap.size ≤ k ∧ k < w'.heap.size)) rs' T' M' ∧ ∀ i, (M' i).length = (M i).length + if i = j then 4 else 0
theorem KR (rs : Nat → Value) (v : Value) : ∀ j, j < 8 → (cellsB rs).set j v = cellsB (upd rs j v)
 | 0, _ | 1, _ | 2, _ | 3, _ | 4, _ | 5, _ | 6, _ | 7, _ => by simp [cellsB, upd]
section
variable {w0 w w4 w5 w6 : World} {base B : Nat} {F : Nat → Prop} {rs : Nat → Value} {T : Nat → List Value} {M : Nat → List Int} {j : Nat} {tv mv v : Value} {m : Int} {new : List Value}
theorem BookI.mid (h : BookI w base B F rs T M) (hj : j < 4) (g4 : w.grownBy w4 (rs j).ownBlock) :
  Blk w4 B (cellsB rs) ∧ (w4.setCell ⟨B, j, none⟩ tv).ownsRow base 3 1 (rs (4 + j)) (M j).length ((M j).map (Value.int .i64)) ∧ Blk (w4.setCell ⟨B, j, none⟩ tv) B (cellsB (upd rs j tv)) := by
 have hB : B ∉ Ed (rs j) := fun e => (h.off j B (by omega) (blkL_mem.1 e)).2 rfl
 have hblk := h.blk.touch (Touch.of_row g4) hB
 refine ⟨hblk, ?_, ?_⟩
 ·refine ownsRow_setCell_other (AQ (h.rowM j hj) (Touch.of_row g4) fun k hk e => h.apart (4 + j) j k (by omega) (by omega) (by omega) hk (blkL_mem.1 e)) (fun e => (h.off (4 + j) B (by omega) e).2 rfl) tv
 ·rw [← KR rs tv j (by omega)]
  exact hblk.set j tv
theorem Qx (h : BookI w base B F rs T M) (hj : j < 4) (hv : ∀ k, v.ownBlock = some k → ¬ F k ∧ base ≤ k ∧ k < w.heap.size) (t0 : Touch (Ed v) w0 w) (hB0 : base ≤ w0.heap.size)
  (hm : -4398046511104 ≤ m ∧ m ≤ 4398046511104 ∧ (j ≠ 2 → 0 ≤ m)) (hl4 : new.length = 4)
  (hFw : ∀ k, F k → k < w0.heap.size)
  (hnew : ∀ u ∈ new, ∃ g n c, u = .slice g n c ∧ n ≤ 1003 ∧ Rd w g (rep n (MJ j m)) ∧ ∀ ad, g = some ad → (v.ownBlock = some ad.block ∨ w0.heap.size ≤ ad.block) ∧ ad.block < w.heap.size)
  (hT4 : w4.ownsRow base (Sb j) 1 tv ((T j).length + 4) (T j ++ new)) (g4 : w.grownBy w4 (rs j).ownBlock) (at4 : tv.ownBlock = (rs j).ownBlock ∨ tv.ownBlock = some w.heap.size)
  (b5 : Below (w4.setCell ⟨B, j, none⟩ tv).heap.size (w4.setCell ⟨B, j, none⟩ tv) w5)
  (hM6 : w6.ownsRow base 3 1 mv ((M j).length + 4) ((M j).map (Value.int .i64) ++ [.int .i64 m, .int .i64 m, .int .i64 m, .int .i64 m])) (g6 : w5.grownBy w6 (rs (4 + j)).ownBlock) (at6 : mv.ownBlock = (rs (4 + j)).ownBlock ∨ mv.ownBlock = some w5.heap.size) :
  GA w0 base B F M j v (.returned (.tuple #[])) (w6.setCell ⟨B, 4 + j, none⟩ mv) := by
 have hlt := h.lt
 have z0 := t0.size
 have z4 := g4.size
 have ez : (w4.setCell ⟨B, j, none⟩ tv).heap.size = w4.heap.size := World.size_setCell ..
 have z5 := b5.size
 rw [ez] at z5
 have z6 := g6.size
 have ez6 : (w6.setCell ⟨B, 4 + j, none⟩ mv).heap.size = w6.heap.size := World.size_setCell ..
 obtain ⟨m1, m2, m3⟩ := h.mid (tv := tv) hj g4
 obtain ⟨L, hL⟩ : ∃ L, L = B :: (Ed (rs j) ++ Ed (rs (4 + j))) := ⟨_, rfl⟩
 have t4 : Touch L w (w4.setCell ⟨B, j, none⟩ tv) := ((Touch.of_row g4).mono (fun x hx => by rw [hL]; simp [hx])).setCell (.inl (by rw [hL]; simp)) tv
 have t5 : Touch L w w5 := t4.trans (Touch.of_below b5 _)
 have t6 : Touch L w w6 := t5.trans ((Touch.of_row g6).mono (fun x hx => by rw [hL]; simp [hx]))
 have t7 : Touch L w (w6.setCell ⟨B, 4 + j, none⟩ mv) := t6.setCell (.inl (by rw [hL]; simp)) mv
 have b3 : Blk w5 B (cellsB (upd rs j tv)) := m3.touch (Touch.of_below b5 []) (by simp)
 have tvk : ∀ k, tv.ownBlock = some k → (rs j).ownBlock = some k ∨ k = w.heap.size := fun k hk => by
  rcases at4 with e | e
  ·exact .inl (e ▸ hk)
  ·rw [e] at hk; exact .inr (Option.some.inj hk).symm
 have tvB : tv.ownBlock ≠ some B := fun e => by
  rcases tvk B e with e | e
  ·exact (h.off j B (by omega) e).2 rfl
  ·omega
 have tvM : ∀ k, tv.ownBlock = some k → (rs (4 + j)).ownBlock ≠ some k := fun k hk e => by
  rcases tvk k hk with e' | e'
  ·exact h.apart j (4 + j) k (by omega) (by omega) (by omega) e' e
  ·have := h.le k (h.off (4 + j) k (by omega) e).1; omega
 have mvk : ∀ k, mv.ownBlock = some k → (rs (4 + j)).ownBlock = some k ∨ k = w5.heap.size := fun k hk => by
  rcases at6 with e | e
  ·exact .inl (e ▸ hk)
  ·rw [e] at hk; exact .inr (Option.some.inj hk).symm
 have mvB : mv.ownBlock ≠ some B := fun e => by
  rcases mvk B e with e | e
  ·exact (h.off (4 + j) B (by omega) e).2 rfl
  ·omega
 have hT7 : (w6.setCell ⟨B, 4 + j, none⟩ mv).ownsRow base (Sb j) 1 tv ((T j).length + 4) (T j ++ new) := by
  refine ownsRow_setCell_other ?_ tvB mv
  refine AQ ?_ (Touch.of_row g6) fun k hk e => tvM k hk (blkL_mem.1 e)
  exact Ab (ownsRow_setCell_other hT4 tvB tv) (Nat.le_refl _) b5
 have hM7 : (w6.setCell ⟨B, 4 + j, none⟩ mv).ownsRow base 3 1 mv ((M j).length + 4) ((M j).map (Value.int .i64) ++ [.int .i64 m, .int .i64 m, .int .i64 m, .int .i64 m]) := ownsRow_setCell_other hM6 mvB mv
 have hb6 : Blk w6 B (cellsB (upd rs j tv)) := b3.touch (Touch.of_row g6) (fun e => (h.off (4 + j) B (by omega) (blkL_mem.1 e)).2 rfl)
 have hb7 := hb6.set (4 + j) mv
 rw [KR _ mv (4 + j) (by omega)] at hb7
 have hbook := h.keep (F' := fun k => F k ∨ v.ownBlock = some k ∨ (w0.heap.size ≤ k ∧ k < (w6.setCell ⟨B, 4 + j, none⟩ mv).heap.size)) hj (tv := tv) (mv := mv) (m := m) (new := new) (ms := [m, m, m, m])
  (fun k hk => .inl hk) (fun k hk => by
   rcases hk with hk | hk | hk
   ·have := h.le k hk; omega
   ·have := (hv k hk).2.2; omega
   ·exact hk.2) (fun k h1 h2 => .inr (.inr ⟨by omega, h2⟩)) hm (by simp) (by simp [hl4])
  (fun u hu => by
   obtain ⟨g, n, c, e, hn, hr, hg⟩ := hnew u hu
   refine ⟨g, n, c, e, hn, hr, fun ad ha => ?_⟩
   obtain ⟨h1, h2⟩ := hg ad ha
   refine ⟨fun hf => ?_, ?_, h2⟩
   ·rcases h1 with h1 | h1
    ·exact (hv _ h1).1 hf
    ·have := hFw _ hf; omega
   ·rcases h1 with h1 | h1
    ·exact .inr (.inl h1)
    ·exact .inr (.inr ⟨h1, by omega⟩))
  (hL ▸ t7) hb7 (by rw [List.length_append, hl4]; exact hT7) (by rw [List.length_append, List.map_append]; exact hM7)
  (fun k hk => (tvk k hk).imp id (fun e => by omega)) (fun k hk => (mvk k hk).imp id (fun e => by omega))
  (fun k hk1 hk2 hk3 => by
   rcases mvk k hk3 with e | e
   ·exact tvM k hk2 e
   ·have := (hT4.lt k hk2).2; omega)
 have hnL : ∀ k, k ∈ L → base ≤ k ∧ F k := fun k hk => by
  rw [hL] at hk
  rcases List.mem_cons.1 hk with rfl | hk
  ·exact ⟨h.lo, h.hi⟩
  ·rcases List.mem_append.1 hk with hk | hk
   ·exact ⟨((h.rowT j hj).lt k (blkL_mem.1 hk)).1, (h.off j k (by omega) (blkL_mem.1 hk)).1⟩
   ·exact ⟨((h.rowM j hj).lt k (blkL_mem.1 hk)).1, (h.off (4 + j) k (by omega) (blkL_mem.1 hk)).1⟩
 refine ⟨rfl, ?_, ?_, _, _, _, hbook, fun i => ?_⟩
 ·exact (t0.below hB0 fun x hx => (hv x (blkL_mem.1 hx)).2.1).trans (t7.below (by omega) fun x hx => (hnL x hx).1)
 ·intro k hk hF hvk
  rw [t7.block k (by omega) (fun e => hF (hnL k e).2), t0.block k hk (fun e => hvk (blkL_mem.1 e))]
 ·by_cases hi : i = j
  ·subst hi
   simp [DJ]
  ·rw [CE _ _ hi]
   simp [hi]
end
theorem Fc (m : Nat) (w : World) :
  Calls Tryz.prog 59 #[.int .i64 (m : Int)] w fun e w' => e = .returned (.string (str (Bj (m : Int)))) ∧ Below w.heap.size w w' := by
 have hc := run_convert_bytes_back (P := Tryz.prog) (w.alloc (.cells #[.int .u8 ((m : Int) / 65536 % 256), .int .u8 ((m : Int) / 256 % 256), .int .u8 ((m : Int) % 256)] 5)) 67 9 5 ⟨w.heap.size, 0, none⟩ 3 [UInt8.ofNat (m / 65536), UInt8.ofNat (m / 256), UInt8.ofNat m]
  Tryz.underlying67 Tryz.underlying5 Tryz.underlying9 (by
   intro j hj
   have hj : j < 3 := hj
   rcases j with _ | _ | _ | j
   ·simp [Addr.add]
   ·simp [Addr.add]
   ·simp [Addr.add]
   ·omega)
 have hb : Below w.heap.size w (w.alloc (.cells #[.int .u8 ((m : Int) / 65536 % 256), .int .u8 ((m : Int) / 256 % 256), .int .u8 ((m : Int) % 256)] 5)) := (Below.refl _ _).alloc (Nat.le_refl _) _
 have HB := Aa hb
 clear hb
 simp only [List.length_cons, List.length_nil, Nat.zero_add, Nat.reduceAdd] at hc
 go_enter Tryz.func59, Tryz.ntmps59
 go_wp2_with fail
 go_ret
 refine ⟨?_, HB.out⟩
 rw [show (⟨#[109, 97, 114, 107]⟩ : ByteArray) ++ ⟨#[UInt8.ofNat (m / 65536), UInt8.ofNat (m / 256), UInt8.ofNat m]⟩ = str (Bj (m : Int)) from ByteArray.ext (by simp [Bj, str])]
 rfl
def Copy (w : World) (p : List Value) (N : Nat) (v u : Value) (n : Nat) : Prop := ∃ g c, u = .slice (some ⟨g, 0, none⟩) n c ∧ Rd w (some ⟨g, 0, none⟩) (rep n p) ∧ (v.ownBlock = some g ∨ N ≤ g) ∧ g < w.heap.size
section
variable {base N n m k : Nat} {e : TypeId} {p : List Value} {W W' : World} {v v' u : Value}
theorem Copy.alloc (h : Copy W p N v u k) (o : Obj) : Copy (W.alloc o) p N v u k := by
 obtain ⟨g, c, rfl, hr, h1, h2⟩ := h
 exact ⟨g, c, rfl, hr.later (Nat.le_refl _) ((Below.refl _ _).alloc (Nat.le_refl _) _), h1, by simp; omega⟩
theorem Grew.copy (hg : Grew base e p W v n m v' W') (hm : 0 < m) (hN : N ≤ W.heap.size) : Copy W' p N v v' (n + m) := by
 obtain ⟨h1, _, _, h4, _⟩ := hg
 obtain ⟨a, c, rfl, hr, ha, hn⟩ := A6 h1
 cases a with
 | none =>
  rcases h1.2 with ⟨_, h0⟩ | ⟨g, cap, cur, h0, _⟩
  ·omega
  ·cases h0
 | some ad =>
  obtain ⟨g, rfl, hg⟩ := ha ad rfl
  exact ⟨g, c, rfl, hr, (h4 g hg).imp id (fun h => by omega), (h1.lt g hg).2⟩
theorem Copy.next (h : Copy W p N v u k) (hg : Grew base e p W v n m v' W') (hk : k ≤ n + m) : Copy W' p N v u k := by
 obtain ⟨g, c, rfl, hr, h1, h2⟩ := h
 exact ⟨g, c, rfl, hg.2.2.2.2 g k hk hr, h1, by have := hg.2.2.1.size; omega⟩
theorem PE {v1 v2 v3 : Value} (hv : W.ownsRow base e p.length v n (rep n p)) (h1 : Copy W p N v v1 (n + 1)) (h2 : Copy W p N v v2 (n + 2)) (h3 : Copy W p N v v3 (n + 3)) (hn : n ≤ 1000) :
  ∀ u ∈ [v, v1, v2, v3], ∃ g n c, u = .slice g n c ∧ n ≤ 1003 ∧ Rd W g (rep n p) ∧ ∀ ad, g = some ad → (v.ownBlock = some ad.block ∨ N ≤ ad.block) ∧ ad.block < W.heap.size := by
 have key : ∀ u k, k ≤ 1003 → Copy W p N v u k → ∃ g n c, u = .slice g n c ∧ n ≤ 1003 ∧ Rd W g (rep n p) ∧ ∀ ad, g = some ad → (v.ownBlock = some ad.block ∨ N ≤ ad.block) ∧ ad.block < W.heap.size := by
  rintro u k hk ⟨g, c, rfl, hr, h1, h2⟩
  exact ⟨some ⟨g, 0, none⟩, k, c, rfl, hk, hr, fun ad ha => by cases ha; exact ⟨h1, h2⟩⟩
 intro u hu
 simp only [List.mem_cons, List.not_mem_nil, or_false] at hu
 rcases hu with rfl | rfl | rfl | rfl
 ·obtain ⟨a, c, rfl, hr, ha, _⟩ := A6 hv
  refine ⟨a, n, c, rfl, by omega, hr, fun ad he => ?_⟩
  obtain ⟨g, rfl, hg⟩ := ha ad he
  exact ⟨.inl hg, (hv.lt g hg).2⟩
 ·exact key _ _ (by omega) h1
 ·exact key _ _ (by omega) h2
 ·exact key _ _ (by omega) h3
end
theorem Gp {n : Nat} {p ys : List Value} (hl : ys.length = n * p.length) (h0 : 0 < p.length) (h : ∀ i q, i < n → q < p.length → ys[i * p.length + q]? = p[q]?) : ys = rep n p := by
 refine List.ext_getElem? fun k => ?_
 by_cases hk : k < n * p.length
 ·have hi : k / p.length < n := Nat.div_lt_of_lt_mul (by rw [Nat.mul_comm]; exact hk)
  have hq : k % p.length < p.length := Nat.mod_lt _ h0
  have e : k / p.length * p.length + k % p.length = k := by rw [Nat.mul_comm]; exact Nat.div_add_mod k p.length
  have h1 := h _ _ hi hq
  have h2 := PO n p _ _ hi hq
  rw [e] at h1 h2
  rw [h1, h2]
 ·rw [List.getElem?_eq_none (by omega), List.getElem?_eq_none (by rw [Gy]; omega)]
theorem CU {W : World} {g : Nat} {cs : List Value} {p : List Value} {m : Nat} (hb : Rd W (some ⟨g, 0, none⟩) cs) (e : rep m p = cs) : ∀ j u, (rep m p)[j]? = some u → W.cell? ((⟨g, 0, none⟩ : Addr).add j) = some u := by
 intro j u hj
 rw [e] at hj
 obtain ⟨b, off, e', hc⟩ := hb j u hj
 cases e'
 have hadd : (⟨g, 0, none⟩ : Addr).add j = ⟨g, 0 + j, none⟩ := by unfold Addr.add; split <;> simp_all
 rw [hadd]
 exact hc
theorem ES (w : World) (cs : Array Value) (t : TypeId) : Rd (w.alloc (.cells cs t)) (some ⟨w.heap.size, 0, none⟩) cs.toList := fun k u hk => ⟨w.heap.size, 0, rfl, by rw [Nat.zero_add]; exact (Blk.new w cs t k u hk).1⟩
theorem CT (w : World) (cs : List Value) (t : TypeId) : ∀ j u, cs[j]? = some u → (w.alloc (.cells cs.toArray t)).cell? ((⟨w.heap.size, 0, none⟩ : Addr).add j) = some u := fun j u hj => by
 have hadd : (⟨w.heap.size, 0, none⟩ : Addr).add j = ⟨w.heap.size, j, none⟩ := by unfold Addr.add; split <;> simp_all
 rw [hadd]
 exact (Blk.new w cs.toArray t j u (by simpa using hj)).1
section
variable {w w3 w4 : World} {base B : Nat} {F : Nat → Prop} {rs : Nat → Value} {T : Nat → List Value} {M : Nat → List Int} {j q n mk nc mc : Nat} {na ma : Option Addr} {l v1 v2 v3 tv : Value} {e : TypeId} {m : Int}
theorem Gx (h : BookI w base B F rs T M) (hj : j < 4) (hq : q = 4 + j) (hnv : rs j = .slice na mk nc) (hmv : rs q = .slice ma mk mc) (hmk : mk = (M j).length) (hF : ∀ k ∈ Ed l, ¬ F k) (hn : n ≤ 1000)
  (hm : -4398046511104 ≤ m ∧ m ≤ 4398046511104 ∧ (j ≠ 2 → 0 ≤ m)) (t3 : Touch (Ed l) w w3) (o3 : w3.ownsRow base e (MJ j m).length l n (rep n (MJ j m))) (k1 : Copy w3 (MJ j m) w.heap.size l v1 (n + 1)) (k2 : Copy w3 (MJ j m) w.heap.size l v2 (n + 2)) (k3 : Copy w3 (MJ j m) w.heap.size l v3 (n + 3))
  (hT4 : w4.ownsRow base (Sb j) 1 tv (mk + 4) (T j ++ [l, v1, v2, v3])) (g4 : (w3.alloc (.cells #[l, v1, v2, v3] (Sb j))).grownBy w4 (Value.slice na mk nc).ownBlock) (at4 : tv.ownBlock = (Value.slice na mk nc).ownBlock ∨ tv.ownBlock = some (w3.heap.size + 1)) :
  (w4.cell? ⟨B, j, none⟩ = some (.slice na mk nc) ∧ w4.frozen? ⟨B, j, none⟩ = false) ∧ ∀ W5, W5 = w4.setCell ⟨B, j, none⟩ tv → W5.cell? ⟨B, q, none⟩ = some (.slice ma mk mc) ∧ W5.ownsRow base 3 1 (.slice ma mk mc) mk ((M j).map (Value.int .i64)) ∧ B < W5.heap.size ∧ base ≤ W5.heap.size ∧
   ∀ A w6, (W5.drew.alloc A).grownBy w6 (Value.slice ma mk mc).ownBlock → (w6.cell? ⟨B, q, none⟩ = some (.slice ma mk mc) ∧ w6.frozen? ⟨B, q, none⟩ = false) ∧
    ∀ mv, w6.ownsRow base 3 1 mv (mk + 4) ((M j).map (Value.int .i64) ++ [.int .i64 m, .int .i64 m, .int .i64 m, .int .i64 m]) → (mv.ownBlock = (Value.slice ma mk mc).ownBlock ∨ mv.ownBlock = some (W5.heap.size + 1)) → GA w base B F M j l (.returned (.tuple #[])) (w6.setCell ⟨B, q, none⟩ mv) := by
 subst hq hmk
 have h3 := (h.touch t3 hF).touch ((Touch.refl [] w3).alloc (.cells #[l, v1, v2, v3] (Sb j))) (by simp)
 rw [← hnv] at g4 at4
 obtain ⟨m1, m2, m3⟩ := h3.mid (tv := tv) hj g4
 have cj : ∀ r, (cellsB r)[j]? = some (r j) := by
  intro r
  match j, hj with
  | 0, _ | 1, _ | 2, _ | 3, _ => rfl
 have cq : ∀ r, (cellsB r)[4 + j]? = some (r (4 + j)) := by
  intro r
  match j, hj with
  | 0, _ | 1, _ | 2, _ | 3, _ => rfl
 have a1 := m1 j _ (cj rs)
 rw [hnv] at a1
 refine ⟨a1, fun W5 hW5 => ?_⟩
 subst hW5
 have a2 := m3 (4 + j) _ (cq _)
 rw [CE _ _ (by omega), hmv] at a2
 have hlt := World.block_lt_of_cell? _ _ a2.1
 have hlo := h.lo
 have hlt' : B < (w4.setCell ⟨B, j, none⟩ tv).heap.size := hlt
 rw [hmv] at m2
 refine ⟨a2.1, m2, hlt, by omega, fun A w6 hg => ⟨?_, fun mv h1 h2 => ?_⟩⟩
 ·have hB : B ∉ Ed (.slice ma (M j).length mc) := fun e => (h.off (4 + j) B (by omega) (by rw [hmv]; exact blkL_mem.1 e)).2 rfl
  have t := (Touch.refl [] (w4.setCell ⟨B, j, none⟩ tv)).drew.alloc A
  have hl : B < ((w4.setCell ⟨B, j, none⟩ tv).drew.alloc A).heap.size := Nat.lt_of_lt_of_le hlt t.size
  exact ⟨by rw [(Touch.of_row hg).cell (x := ⟨B, 4 + j, none⟩) hl hB, t.cell (x := ⟨B, 4 + j, none⟩) hlt (by simp)]; exact a2.1, by rw [(Touch.of_row hg).frozen (x := ⟨B, 4 + j, none⟩) hl hB, t.frozen (x := ⟨B, 4 + j, none⟩) hlt (by simp)]; exact a2.2⟩
 ·refine Qx (m := m) h3 hj (fun q hq => ⟨hF q (blkL_mem.2 hq), (o3.lt q hq).1, Nat.lt_of_lt_of_le (o3.lt q hq).2 (by simp)⟩) (t3.alloc _) h.bas hm rfl h.le (fun u hu => ?_) (by rw [h.len j hj]; exact hT4) g4 (at4.imp id (fun e => by rw [e]; simp)) (w5 := (w4.setCell ⟨B, j, none⟩ tv).drew.alloc A) (((Touch.refl [] (w4.setCell ⟨B, j, none⟩ tv)).drew.alloc A).below (Nat.le_refl _) (by simp)) h1 (by rw [hmv]; exact hg) (by rw [hmv]; exact h2.imp id (fun e => by rw [e]; simp))
  obtain ⟨g, n', c', e, h4, h5, h6⟩ := PE o3 k1 k2 k3 hn u hu
  exact ⟨g, n', c', e, h4, h5.later (Nat.le_refl _) ((Below.refl _ _).alloc (Nat.le_refl _) _), fun ad ha => ⟨(h6 ad ha).1, Nat.lt_of_lt_of_le (h6 ad ha).2 (by simp)⟩⟩
end
end Go.Proofs.YtonjphollmdicaaGreatDoor
