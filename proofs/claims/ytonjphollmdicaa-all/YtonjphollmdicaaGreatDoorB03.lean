import Derived.Test.YtonjphollmdicaaGreatDoorB01
import Derived.Test.YtonjphollmdicaaGreatDoorB02
import Derived.Deep.QuietTactic
import Derived.BigQuiet
import Derived.Deep.OwnRows
import Derived.Deep.RegionWith
import Derived.Laws.AppendOwnNone
import Derived.Deep.DeepAppendRoom
import Derived.ArgAppend
set_option maxRecDepth 100000
set_option maxHeartbeats 4000000
set_option linter.unusedSimpArgs false
namespace Go.Proofs.YtonjphollmdicaaGreatDoor
open Go.ChangeShapes Go.WideShapes Go.ChangeAt Go.RowKit
theorem KC (a b : List UInt8) : str a ++ str b = str (a ++ b) := by rw [Hw, Dg]
theorem BJ {B : Nat} {a w : World} (h : Below B a w) (n : Nat) : Below B a (w.drewN n) := ⟨h.os, h.tape, h.output, h.size, h.block⟩
def IL (fs : List Aj) (i : Nat) : Bool := match fs[i]? with
 | some f => BB (fs.take i) f.1
 | none => false
def D5 (fs : List Aj) : Bool := (List.range fs.length).any (IL fs)
def A7 (l : List FoundL) : List Value := l.flatMap fun f => [.int .u8 (f.kind.toNat : Int), .int .u64 (f.set : Int), .string (str f.body)]
theorem Hg (l : List FoundL) (f : FoundL) : A7 (l ++ [f]) = A7 l ++ [.int .u8 (f.kind.toNat : Int), .int .u64 (f.set : Int), .string (str f.body)] := by simp [A7]
theorem Ig : ∀ (k : Nat) (s : List UInt8), (F8 k s).length ≤ k
 | 0, _ => by simp [F8]
 | k + 1, [] => by simp [F8]
 | k + 1, b :: r => by
  simp only [F8]
  cases h : Dy (b :: r) with
  | none => have := Ig k r; simp only; omega
  | some x =>
   obtain ⟨f, n⟩ := x
   have := Ig k ((b :: r).drop n)
   simp only [List.length_cons]
   omega
theorem IQ (s : List UInt8) : (DX s).length ≤ s.length := Ig _ _
theorem Gj (vs : List (List UInt8)) (M : Nat) (h : ∀ v ∈ vs, v.length ≤ M) : (As vs).length ≤ vs.length * M := by
 induction vs with
 | nil => simp [As]
 | cons v r ih =>
  have h1 := ih (fun x hx => h x (List.mem_cons_of_mem _ hx))
  have h2 := h v (by simp)
  have h3 := IQ v
  simp only [As, List.flatMap_cons, List.length_append, List.length_cons] at h1 ⊢
  rw [Nat.succ_mul]
  omega
theorem JF (vs : List (List UInt8)) (k : Nat) (h : k < vs.length) : As (vs.take (k + 1)) = As (vs.take k) ++ DX vs[k] := by
 unfold As
 rw [Ao vs k h, List.flatMap_append]
 simp
theorem KD (w : World) (x y z : Value) (t : TypeId) : ∀ j u, [x, y, z][j]? = some u → (w.alloc (.cells #[x, y, z] t)).cell? ((⟨w.heap.size, 0, none⟩ : Addr).add j) = some u := by
 intro j u h
 rcases j with _ | _ | _ | j
 ·simp at h; subst h; simp [Addr.add]
 ·simp at h; subst h; simp [Addr.add]
 ·simp at h; subst h; simp [Addr.add]
 ·simp at h
def BX (f : FoundL) : Bool := f.kind == 77 && decide (3 ≤ f.body.length) && (Ax ((CZ (f.body.take 2) : Nat) : Int) && (AA f.body == f.set) && decide (1 ≤ (f.body.getD 2 0).toNat) && decide ((f.body.getD 2 0).toNat ≤ 6) && decide (f.body.length = 3 + 8 * (f.body.getD 2 0).toNat))
def AV (l : List FoundL) : Option FoundL := l.find? BX
theorem DL {w : World} {a : Option Addr} {l : List FoundL} (h : Rd w a (A7 l)) (k : Nat) (hk : k < l.length) :
  ∃ b off, a = some ⟨b, off, none⟩ ∧ w.cell? ⟨b, off + k * 3, none⟩ = some (.int .u8 (l[k].kind.toNat : Int)) ∧ w.cell? ⟨b, off + k * 3 + 1, none⟩ = some (.int .u64 (l[k].set : Int)) ∧ w.cell? ⟨b, off + k * 3 + 2, none⟩ = some (.string (str l[k].body)) := by
 have key : ∀ (l : List FoundL) (k : Nat) (hk : k < l.length), (A7 l)[k * 3]? = some (.int .u8 (l[k].kind.toNat : Int)) ∧ (A7 l)[k * 3 + 1]? = some (.int .u64 (l[k].set : Int)) ∧ (A7 l)[k * 3 + 2]? = some (.string (str l[k].body)) := by
  intro l
  induction l with
  | nil => intro k hk; simp at hk
  | cons f r ih =>
   intro k hk
   cases k with
   | zero => exact ⟨rfl, rfl, rfl⟩
   | succ k =>
    obtain ⟨h1, h2, h3⟩ := ih k (by simpa using hk)
    have e : A7 (f :: r) = [.int .u8 (f.kind.toNat : Int), .int .u64 (f.set : Int), .string (str f.body)] ++ A7 r := rfl
    rw [e, show (k + 1) * 3 = k * 3 + 3 from by omega]
    refine ⟨?_, ?_, ?_⟩
    ·rw [List.getElem?_append_right (by simp)]; exact h1
    ·rw [List.getElem?_append_right (by simp)]
     simpa using h2
    ·rw [List.getElem?_append_right (by simp)]
     simpa using h3
 obtain ⟨k1, k2, k3⟩ := key l k hk
 obtain ⟨b, off, e, h1⟩ := h _ _ k1
 obtain ⟨b', off', e', h2⟩ := h _ _ k2
 obtain ⟨b'', off'', e'', h3⟩ := h _ _ k3
 rw [e] at e' e''
 cases e'
 cases e''
 exact ⟨b, off, e, h1, by rw [Nat.add_assoc]; exact h2, by rw [Nat.add_assoc]; exact h3⟩
structure DescL where
 name : List UInt8
 long : Nat
 hash : Nat
 slices : List Nat
def Bq (s : List UInt8) : Nat := (s.getD 1 0).toNat
def Bz (s : List UInt8) : Nat := CZ ((s.drop (2 + Bq s)).take 2)
def EN (s : List UInt8) : Nat := CZ ((s.drop (4 + Bq s)).take 8)
def Ic (s : List UInt8) (i : Nat) : Nat := CZ ((s.drop (12 + Bq s + 8 * i)).take 8)
def Di (s : List UInt8) (b : Nat) : Bool := decide (2 ≤ s.length) && decide (1 ≤ Bq s) && decide (Bq s ≤ 20) && decide (12 + Bq s ≤ s.length) && decide (Bz s ≤ 400) && decide (s.length = 12 + Bq s + 8 * Ai (Bz s) b)
def He (s : List UInt8) (b : Nat) : DescL := ⟨(s.drop 2).take (Bq s), Bz s, EN s, (List.range (Ai (Bz s) b)).map (Ic s)⟩
def Hk (s : List UInt8) (b : Nat) : Option DescL := if Di s b then some (He s b) else none
def Ci (set i hash : Nat) (f : FoundL) : Bool := f.kind == 70 && (f.set == set) && decide (1 ≤ f.body.length) && ((f.body.getD 0 0).toNat == i) && (AA f.body == hash)
def Bk (l : List FoundL) (set i hash b : Nat) : Option DescL := l.findSome? fun f => if Ci set i hash f then Hk f.body b else none
def DP (name : List UInt8) (long hash : Nat) (fs : List Aj) : Nat := match fs.find? (fun f => f.1 == name) with
 | none => 3
 | some f => if f.2.length = long ∧ AA f.2 = hash then 1 else 2
theorem Js (name : List UInt8) (long hash : Nat) (fs : List Aj) (k : Nat) (hk : k < fs.length) : DP name long hash (fs.drop k) = if fs[k].1 = name then (if fs[k].2.length = long ∧ AA fs[k].2 = hash then 1 else 2) else DP name long hash (fs.drop (k + 1)) := by
 rw [List.drop_eq_getElem_cons hk]
 unfold DP
 rw [List.find?_cons]
 by_cases h : fs[k].1 = name
 ·rw [if_pos h, beq_iff_eq.2 h]
 ·rw [if_neg h, beq_eq_false_iff_ne.2 h]
def GQ (data : List UInt8) (b : Nat) : List UInt8 := data ++ List.replicate (b - 1) 0
def CM (data : List UInt8) (b at' : Nat) : List UInt8 := ((GQ data b).drop at').take b
def Dh (b hash : Nat) (data : List UInt8) (from' : Nat) : Option (List UInt8) := ((List.range data.length).drop from').findSome? fun j => if AA (CM data b j) = hash then some (CM data b j) else none
def AK (fs : List Aj) (b hash : Nat) : Option (List UInt8) := fs.findSome? fun f => Dh b hash f.2 0
theorem AC {w : World} {base : Nat} {e : TypeId} {sz : Nat} {v : Value} {n : Nat} {xs : List Value} (h : w.ownsRow base e sz v n xs) : ∃ a cap, v = .slice a n cap ∧ Rd w a xs := by
 rcases h.2 with ⟨rfl, rfl⟩ | ⟨g, cap, cur, rfl, _, hg, _⟩
 ·have hx : xs = [] := List.eq_nil_of_length_eq_zero (by simpa using h.1)
  subst hx
  exact ⟨none, 0, rfl, fun k u hu => by simp at hu⟩
 ·refine ⟨some ⟨g, 0, none⟩, cap, rfl, fun k u hu => ⟨g, 0, rfl, ?_⟩⟩
  have := h.cells (g := g) rfl k u hu
  have hadd : (⟨g, 0, none⟩ : Addr).add k = ⟨g, 0 + k, none⟩ := by unfold Addr.add; split <;> simp_all
  rw [hadd] at this
  exact this
theorem Gy : ∀ (k : Nat) (s : List UInt8) (M : Nat), s.length ≤ M → ∀ f ∈ F8 k s, f.body.length ≤ M
 | 0, _, _, _, f, hf => by simp [F8] at hf
 | k + 1, [], _, _, f, hf => by simp [F8] at hf
 | k + 1, b :: r, M, h, f, hf => by
  simp only [F8] at hf
  cases hr : Dy (b :: r) with
  | none =>
   rw [hr] at hf
   exact Gy k r M (by simp only [List.length_cons] at h; omega) f hf
  | some x =>
   obtain ⟨g, n⟩ := x
   rw [hr] at hf
   simp only [List.mem_cons] at hf
   rcases hf with rfl | hf
   ·unfold Dy at hr
    split at hr
    ·simp only [Option.some.injEq, Prod.mk.injEq] at hr
     rw [← hr.1]
     unfold Ep
     simp only [List.length_take, List.length_drop]
     omega
    ·cases hr
   ·exact Gy k _ M (by rw [List.length_drop]; omega) f hf
theorem JH (vs : List (List UInt8)) (M : Nat) (h : ∀ v ∈ vs, v.length ≤ M) : ∀ f ∈ As vs, f.body.length ≤ M := by
 intro f hf
 unfold As at hf
 rw [List.mem_flatMap] at hf
 obtain ⟨v, hv, hf⟩ := hf
 exact Gy _ v M (h v hv) f hf
def rep (n : Nat) (p : List Value) : List Value := (List.replicate n p).flatten
theorem GC (n : Nat) (p : List Value) : (rep n p).length = n * p.length := by simp [rep]
theorem ML (n k : Nat) (p : List Value) : rep (n + k) p = rep n p ++ rep k p := by
 unfold rep
 rw [← List.replicate_append_replicate, List.flatten_append]
theorem Qt {m n : Nat} (h : m ≤ n) (p : List Value) : (rep n p).take (m * p.length) = rep m p := by
 obtain ⟨k, rfl⟩ := Nat.exists_eq_add_of_le h
 rw [ML, ← GC m p]
 exact List.take_left
theorem O9 (n : Nat) (p : List Value) : ∀ i j, i < n → j < p.length → (rep n p)[i * p.length + j]? = p[j]? := by
 induction n with
 | zero => intro i j h; omega
 | succ n ih =>
  intro i j hi hj
  have e : rep (n + 1) p = p ++ rep n p := by simp [rep, List.replicate_succ]
  rw [e]
  cases i with
  | zero => rw [Nat.zero_mul, Nat.zero_add, List.getElem?_append_left hj]
  | succ i =>
   rw [Nat.succ_mul, List.getElem?_append_right (by omega), show i * p.length + p.length + j - p.length = i * p.length + j from by omega]
   exact ih i j (by omega) hj
theorem RP {n : Nat} {p : List Value} {u : Value} (h : u ∈ rep n p) : u ∈ p := by
 unfold rep at h
 obtain ⟨l, hl, hu⟩ := List.mem_flatten.1 h
 rw [(List.mem_replicate.1 hl).2] at hu
 exact hu
theorem E5 {w w' : World} {base : Nat} {e : TypeId} {sz : Nat} {v : Value} {n : Nat} {xs : List Value} (h : w.ownsRow base e sz v n xs) (hk : ∀ k, v.ownBlock = some k → w'.heap[k]? = w.heap[k]?) : w'.ownsRow base e sz v n xs := by
 refine ⟨h.1, ?_⟩
 rcases h.2 with h1 | ⟨g, cap, cur, rfl, hb, hg, h2⟩
 ·exact .inl h1
 ·exact .inr ⟨g, cap, cur, rfl, hb, by rw [hk g rfl]; exact hg, h2⟩
theorem Rd.same {w w' : World} {a : Option Addr} {xs : List Value} (h : Rd w a xs) (hk : ∀ c, a = some c → w'.heap[c.block]? = w.heap[c.block]?) : Rd w' a xs := by
 intro k u hu
 obtain ⟨b, off, rfl, hc⟩ := h k u hu
 refine ⟨b, off, rfl, ?_⟩
 have hk' := hk ⟨b, off, none⟩ rfl
 rw [World.cell?_of_block (w := w) (a := ⟨b, off + k, none⟩) hk']
 exact hc
theorem Is {w : World} {base : Nat} {e : TypeId} {g n m c : Nat} {p : List Value} (h : w.ownsRow base e p.length (.slice (some ⟨g, 0, none⟩) n c) n (rep n p)) (hm : m ≤ n) : w.ownsRow base e p.length (.slice (some ⟨g, 0, none⟩) m c) m (rep m p) := by
 refine ⟨GC _ _, ?_⟩
 rcases h.2 with ⟨h1, _⟩ | ⟨g', cap, cur, h1, hb, hg, h2, h3, h4, h5⟩
 ·cases h1
 ·cases h1
  refine .inr ⟨g, c, cur, rfl, hb, hg, by omega, h3, h4, ?_⟩
  rw [← Qt hm p, ← h5, List.take_take, Nat.min_eq_left (Nat.mul_le_mul_right _ hm)]
theorem AZ {w : World} {base : Nat} {e : TypeId} {sz : Nat} {v : Value} {n : Nat} {xs : List Value} (h : w.ownsRow base e sz v n xs) : ∃ a c, v = .slice a n c ∧ Rd w a xs ∧ (∀ ad, a = some ad → ∃ g, ad = ⟨g, 0, none⟩ ∧ v.ownBlock = some g) ∧ (a = none → c = 0) := by
 obtain ⟨a, c, rfl, hr⟩ := AC h
 refine ⟨a, c, rfl, hr, fun ad e => ?_, fun e => ?_⟩
 ·subst e
  rcases h.2 with ⟨h1, _⟩ | ⟨g, cap, cur, h1, _⟩
  ·cases h1
  ·cases h1
   exact ⟨g, rfl, rfl⟩
 ·subst e
  rcases h.2 with ⟨h1, _⟩ | ⟨g, cap, cur, h1, _⟩
  ·cases h1
   rfl
  ·cases h1
section
variable {P : Program} {w : World} {ops : Array Oper} {rest : List Oper} {o : Oper} {a : Act} {Q : Exit → Act → World → Prop}
def Grew (base : Nat) (e : TypeId) (p : List Value) (w : World) (v : Value) (n m : Nat) (v' : Value) (w' : World) : Prop :=
 w'.ownsRow base e p.length v' (n + m) (rep (n + m) p) ∧ w'.ownsRow base e p.length v n (rep n p) ∧ Touch (Ea v) w w' ∧ (∀ k, v'.ownBlock = some k → v.ownBlock = some k ∨ w.heap.size ≤ k) ∧
 ∀ g k, k ≤ n + m → Rd w (some ⟨g, 0, none⟩) (rep k p) → Rd w' (some ⟨g, 0, none⟩) (rep k p)
theorem AI (hgd : o.guard = none) (s x : Operand) (t : TypeId) (ho : o.op = .call { callee := .builtin .append, args := #[s, x], argTypes := #[t, t] })
  (base : Nat) (e : TypeId) (i : TypeInfo) (z : Value) (bytes : Nat) (p : List Value) (ht : P.underlying t = some (.slice e)) (hi : P.info? e = some i) (hz : i.zero = some z)
  (hsize : i.size = p.length) (hby : i.bytes = bytes) (hzs : z.cells.size = p.length) (hsz : 0 < p.length)
  (v : Value) (n : Nat) (hs : a.eval s = v) (hown : w.ownsRow base e p.length v n (rep n p))
  (ad : Addr) (m c : Nat) (hx : a.eval x = .slice (some ad) m c) (hm : 0 < m) (hnews : ∀ j u, (rep m p)[j]? = some u → w.cell? (ad.add j) = some u) (h1 : ∀ u ∈ p, u.oneCell' = true)
  (h63 : n + m ≤ maxLen) (hbytes : (n + m) * bytes ≤ 140737488355328) (hbase : base ≤ w.heap.size)
  (h : ∀ v' w', Grew base e p w v n m v' w' → wpList P ops Q rest (a.put o.dst v') w') : wpList P ops Q (o :: rest) a w := by
 have hone : ∀ u ∈ rep m p, u.oneCell' = true := fun u hu => h1 u (RP hu)
 have grows : ∀ (ao : Option Addr) (cap : Nat), v = .slice ao n cap → (ao = none → n = 0 ∧ cap = 0) → (∀ b, ao = some b → ∀ j u, (rep n p)[j]? = some u → w.cell? (b.add j) = some u) → cap < n + m → wpList P ops Q (o :: rest) a w := by
  intro ao cap hv hn ho' hfull
  subst hv
  refine wpList_append_grows w hgd s x t ho e i z p.length bytes ht hi hz hsize hby hzs hsz ao n cap (rep n p) hs hn (GC _ _) ho' ad m c (rep m p) hx (GC _ _) hnews hone hfull h63 hbytes ?_
  intro v' w' h2 h3
  rw [← ML] at h2
  have hbel : Below w.heap.size w w' := ⟨h3.os, h3.tape, h3.output, h3.size, fun k hk => h3.block k hk (by simp)⟩
  refine h v' w' ⟨Ad hbase h2, Ab hown (Nat.le_refl _) hbel, Touch.of_below hbel _, fun k hk => .inr (h2.lt k hk).1, fun g k _ hr => hr.later (Nat.le_refl _) hbel⟩
 rcases hown.2 with ⟨rfl, rfl⟩ | ⟨g, cap, cur, rfl, hb, hg, hnc, hcm, hcs, htk⟩
 ·exact grows none 0 rfl (fun _ => ⟨rfl, rfl⟩) (fun b hb => by cases hb) (by omega)
 ·by_cases hroom : n + m ≤ cap
  ·refine wpList_append_own_spare w hgd s x t ho base e i p.length ht hi hsize g n cap (rep n p) hs hown ad m c (rep m p) hx (GC _ _) hnews hone hroom ?_
   intro w' h2 h3
   rw [← ML] at h2
   refine h _ w' ⟨h2, Is h2 (by omega), Touch.of_row h3, fun k hk => .inl hk, fun g' k hk hr => ?_⟩
   by_cases hg' : g' = g
   ·subst hg'
    obtain ⟨a', c', e', hr'⟩ := AC (Is h2 hk)
    cases e'
    exact hr'
   ·intro j u hu
    obtain ⟨b, off, e', hc⟩ := hr j u hu
    cases e'
    exact ⟨g', 0, rfl, by rw [(Touch.of_grown h3).cell (World.block_lt_of_cell? w _ hc) (by simp [hg'])]; exact hc⟩
  ·exact grows (some ⟨g, 0, none⟩) cap rfl (fun h => by cases h) (fun b hb => by cases hb; exact hown.cells rfl) (by omega)
end
def Bj (m : Int) : List UInt8 := [109, 97, 114, 107, UInt8.ofNat (m.toNat / 65536), UInt8.ofNat (m.toNat / 256), UInt8.ofNat m.toNat]
def Me : Nat → Int → List Value
 | 0, m => [.string (str (Bj m))]
 | 1, m => [.string (str (Bj m)), .string (str (Bj m))]
 | 2, m => [.int .i64 m]
 | _, m => [.bool (m == 1)]
def RO : Nat → TypeId
 | 0 => 23
 | 1 => 22
 | 2 => 31
 | _ => 32
def Sl (w : World) (B : Nat) (F : Nat → Prop) (rs : Nat → Value) (j : Nat) (m : Int) (v : Value) : Prop :=
 ∃ g n c, v = .slice g n c ∧ n ≤ 1003 ∧ Rd w g (rep n (Me j m)) ∧ ∀ ad, g = some ad → F ad.block ∧ ad.block ≠ B ∧ ∀ r, r < 8 → (rs r).ownBlock ≠ some ad.block
def cellsB (rs : Nat → Value) : List Value := [rs 0, rs 1, rs 2, rs 3, rs 4, rs 5, rs 6, rs 7]
structure BookI (w : World) (base B : Nat) (F : Nat → Prop) (rs : Nat → Value) (T : Nat → List Value) (M : Nat → List Int) : Prop where
 blk : Blk w B (cellsB rs)
 lo : base ≤ B
 hi : F B
 le : ∀ k, F k → k < w.heap.size
 apart : ∀ i j k, i < 8 → j < 8 → i ≠ j → (rs i).ownBlock = some k → (rs j).ownBlock ≠ some k
 off : ∀ i k, i < 8 → (rs i).ownBlock = some k → F k ∧ k ≠ B
 rowT : ∀ j, j < 4 → w.ownsRow base (RO j) 1 (rs j) (T j).length (T j)
 rowM : ∀ j, j < 4 → w.ownsRow base 3 1 (rs (4 + j)) (M j).length ((M j).map (Value.int .i64))
 len : ∀ j, j < 4 → (T j).length = (M j).length
 rng : ∀ j m, j < 4 → m ∈ M j → -4398046511104 ≤ m ∧ m ≤ 4398046511104 ∧ (j ≠ 2 → 0 ≤ m)
 good : ∀ (j i : Nat) (v : Value) (m : Int), j < 4 → (T j)[i]? = some v → (M j)[i]? = some m → Sl w B F rs j m v
section
variable {w w' : World} {base B : Nat} {F F' : Nat → Prop} {rs : Nat → Value} {T : Nat → List Value} {M : Nat → List Int}
theorem BookI.lt (h : BookI w base B F rs T M) : B < w.heap.size := h.le B h.hi
theorem BookI.bas (h : BookI w base B F rs T M) : base ≤ w.heap.size := by have := h.lo; have := h.lt; omega
theorem BookI.same (h : BookI w base B F rs T M) (hsz : w.heap.size ≤ w'.heap.size) (hb : ∀ k, F k → w'.heap[k]? = w.heap[k]?) : BookI w' base B F rs T M where
 blk := fun k u hk => by
  have h1 := h.blk k u hk
  exact ⟨by rw [World.cell?_of_block (w := w) (hb _ h.hi)]; exact h1.1, by rw [World.frozen?_of_block (w := w) (hb _ h.hi)]; exact h1.2⟩
 lo := h.lo
 hi := h.hi
 le := fun k hk => Nat.lt_of_lt_of_le (h.le k hk) hsz
 apart := h.apart
 off := h.off
 rowT := fun j hj => E5 (h.rowT j hj) fun k hk => hb k (h.off j k (by omega) hk).1
 rowM := fun j hj => E5 (h.rowM j hj) fun k hk => hb k (h.off (4 + j) k (by omega) hk).1
 len := h.len
 rng := h.rng
 good := fun j i v m hj hv hm => by
  obtain ⟨g, n, c, e, hn, hr, hg⟩ := h.good j i v m hj hv hm
  exact ⟨g, n, c, e, hn, hr.same (fun ad ha => hb _ (hg ad ha).1), hg⟩
theorem BookI.later (h : BookI w base B F rs T M) {N : Nat} (hN : ∀ k, F k → k < N) (hb : Below N w w') : BookI w' base B F rs T M := h.same hb.size fun k hk => hb.block k (hN k hk)
theorem BookI.touch (h : BookI w base B F rs T M) {L : List Nat} (ht : Touch L w w') (hL : ∀ k ∈ L, ¬ F k) : BookI w' base B F rs T M := h.same ht.size fun k hk => ht.block k (h.le k hk) fun e => hL k e hk
theorem BookI.mono (h : BookI w base B F rs T M) (hF : ∀ k, F k → F' k) (hle : ∀ k, F' k → k < w.heap.size) : BookI w base B F' rs T M where
 blk := h.blk
 lo := h.lo
 hi := hF _ h.hi
 le := hle
 apart := h.apart
 off := fun i k hi hk => ⟨hF _ (h.off i k hi hk).1, (h.off i k hi hk).2⟩
 rowT := h.rowT
 rowM := h.rowM
 len := h.len
 rng := h.rng
 good := fun j i v m hj hv hm => by
  obtain ⟨g, n, c, e, hn, hr, hg⟩ := h.good j i v m hj hv hm
  exact ⟨g, n, c, e, hn, hr, fun ad ha => ⟨hF _ (hg ad ha).1, (hg ad ha).2⟩⟩
def upd {α : Type} (f : Nat → α) (j : Nat) (x : α) : Nat → α := fun i => if i = j then x else f i
theorem DD {α : Type} (f : Nat → α) (j : Nat) (x : α) : upd f j x j = x := by simp [upd]
theorem CC {α : Type} (f : Nat → α) {i j : Nat} (x : α) (h : i ≠ j) : upd f j x i = f i := by simp [upd, h]
theorem BookI.keep (h : BookI w base B F rs T M) {j : Nat} (hj : j < 4) {tv mv : Value} {m : Int} {new : List Value} {ms : List Int}
  (hF : ∀ k, F k → F' k) (hle : ∀ k, F' k → k < w'.heap.size) (hfr : ∀ k, w.heap.size ≤ k → k < w'.heap.size → F' k)
  (hm : -4398046511104 ≤ m ∧ m ≤ 4398046511104 ∧ (j ≠ 2 → 0 ≤ m)) (hms : ∀ x ∈ ms, x = m) (hlen : new.length = ms.length)
  (hnew : ∀ v ∈ new, ∃ g n c, v = .slice g n c ∧ n ≤ 1003 ∧ Rd w g (rep n (Me j m)) ∧ ∀ ad, g = some ad → ¬ F ad.block ∧ F' ad.block ∧ ad.block < w.heap.size)
  (ht : Touch (B :: (Ea (rs j) ++ Ea (rs (4 + j)))) w w') (hblk : Blk w' B (cellsB (upd (upd rs j tv) (4 + j) mv)))
  (hT : w'.ownsRow base (RO j) 1 tv (T j ++ new).length (T j ++ new)) (hM : w'.ownsRow base 3 1 mv (M j ++ ms).length ((M j ++ ms).map (Value.int .i64)))
  (at1 : ∀ k, tv.ownBlock = some k → (rs j).ownBlock = some k ∨ w.heap.size ≤ k) (at2 : ∀ k, mv.ownBlock = some k → (rs (4 + j)).ownBlock = some k ∨ w.heap.size ≤ k) (at3 : ∀ k, w.heap.size ≤ k → tv.ownBlock = some k → mv.ownBlock ≠ some k) :
  BookI w' base B F' (upd (upd rs j tv) (4 + j) mv) (upd T j (T j ++ new)) (upd M j (M j ++ ms)) := by
 have hsz := ht.size
 have hlt := h.lt
 have offlt : ∀ i k, i < 8 → (rs i).ownBlock = some k → k < w.heap.size := fun i k hi hk => h.le k (h.off i k hi hk).1
 obtain ⟨R, hR⟩ : ∃ R, R = upd (upd rs j tv) (4 + j) mv := ⟨_, rfl⟩
 have hRo : ∀ i, i ≠ j → i ≠ 4 + j → R i = rs i := fun i h1 h2 => by rw [hR, CC _ _ h2, CC _ _ h1]
 have hRj : R j = tv := by rw [hR, CC _ _ (by omega), DD]
 have hRm : R (4 + j) = mv := by rw [hR, DD]
 rw [← hR] at hblk ⊢
 have where' : ∀ i k, i < 8 → (R i).ownBlock = some k → (rs i).ownBlock = some k ∨ w.heap.size ≤ k := fun i k hi hk => by
  by_cases h1 : i = j
  ·subst h1; rw [hRj] at hk; exact at1 k hk
  ·by_cases h2 : i = 4 + j
   ·subst h2; rw [hRm] at hk; exact at2 k hk
   ·rw [hRo i h1 h2] at hk; exact .inl hk
 have fresh : ∀ i k, i < 8 → (R i).ownBlock = some k → w.heap.size ≤ k → i = j ∨ i = 4 + j := fun i k hi hk hn => by
  by_cases h1 : i = j
  ·exact .inl h1
  ·by_cases h2 : i = 4 + j
   ·exact .inr h2
   ·rw [hRo i h1 h2] at hk; have := offlt i k hi hk; omega
 have same : ∀ k, k < w.heap.size → k ≠ B → (rs j).ownBlock ≠ some k → (rs (4 + j)).ownBlock ≠ some k → w'.heap[k]? = w.heap[k]? := fun k hk h1 h2 h3 => ht.block k hk (by
  intro hm
  rcases List.mem_cons.1 hm with h4 | h4
  ·exact h1 h4
  ·rcases List.mem_append.1 h4 with h4 | h4
   ·exact h2 (blkL_mem.1 h4)
   ·exact h3 (blkL_mem.1 h4))
 have kept : ∀ jj m' v, (∃ g n c, v = .slice g n c ∧ n ≤ 1003 ∧ Rd w g (rep n (Me jj m')) ∧ ∀ ad, g = some ad → F' ad.block ∧ ad.block < w.heap.size ∧ ad.block ≠ B ∧ ∀ r, r < 8 → (rs r).ownBlock ≠ some ad.block) → Sl w' B F' R jj m' v := by
  rintro jj m' v ⟨g, n, c, e, hn, hr, hg⟩
  refine ⟨g, n, c, e, hn, hr.same (fun ad ha => same _ (hg ad ha).2.1 (hg ad ha).2.2.1 ((hg ad ha).2.2.2 j (by omega)) ((hg ad ha).2.2.2 (4 + j) (by omega))), fun ad ha => ⟨(hg ad ha).1, (hg ad ha).2.2.1, fun r hr hk => ?_⟩⟩
  rcases where' r _ hr hk with h1 | h1
  ·exact (hg ad ha).2.2.2 r hr h1
  ·have := (hg ad ha).2.1; omega
 have old : ∀ i q v m', i < 4 → (T i)[q]? = some v → (M i)[q]? = some m' → Sl w' B F' R i m' v := fun i q v m' hi hv hm' => by
  obtain ⟨g, n, c, e, hn, hr, hg⟩ := h.good i q v m' hi hv hm'
  exact kept i m' v ⟨g, n, c, e, hn, hr, fun ad ha => ⟨hF _ (hg ad ha).1, h.le _ (hg ad ha).1, (hg ad ha).2⟩⟩
 refine ⟨hblk, h.lo, hF _ h.hi, hle, ?_, ?_, ?_, ?_, ?_, ?_, ?_⟩
 ·intro i i' k hi hi' hne h1 h2
  rcases where' i k hi h1 with h3 | h3
  ·rcases where' i' k hi' h2 with h4 | h4
   ·exact h.apart i i' k hi hi' hne h3 h4
   ·have := offlt i k hi h3; omega
  ·rcases where' i' k hi' h2 with h4 | h4
   ·have := offlt i' k hi' h4; omega
   ·rcases fresh i k hi h1 h3 with rfl | rfl
    ·rcases fresh i' k hi' h2 h3 with rfl | rfl
     ·exact hne rfl
     ·rw [hRj] at h1; rw [hRm] at h2; exact at3 k h3 h1 h2
    ·rcases fresh i' k hi' h2 h3 with rfl | rfl
     ·rw [hRm] at h1; rw [hRj] at h2; exact at3 k h3 h2 h1
     ·exact hne rfl
 ·intro i k hi hk
  rcases where' i k hi hk with h3 | h3
  ·exact ⟨hF _ (h.off i k hi h3).1, (h.off i k hi h3).2⟩
  ·refine ⟨hfr k h3 ?_, by omega⟩
   rcases fresh i k hi hk h3 with rfl | rfl
   ·rw [hRj] at hk; exact (hT.lt k hk).2
   ·rw [hRm] at hk; exact (hM.lt k hk).2
 ·intro i hi
  by_cases h1 : i = j
  ·subst h1; rw [hRj, DD]; exact hT
  ·rw [hRo i h1 (by omega), CC _ _ h1]
   exact E5 (h.rowT i hi) fun k hk => same k (offlt i k (by omega) hk) (h.off i k (by omega) hk).2 (h.apart i j k (by omega) (by omega) h1 hk) (h.apart i (4 + j) k (by omega) (by omega) (by omega) hk)
 ·intro i hi
  by_cases h1 : i = j
  ·subst h1; rw [hRm, DD]; exact hM
  ·rw [hRo (4 + i) (by omega) (by omega), CC _ _ h1]
   exact E5 (h.rowM i hi) fun k hk => same k (offlt (4 + i) k (by omega) hk) (h.off (4 + i) k (by omega) hk).2 (h.apart (4 + i) j k (by omega) (by omega) (by omega) hk) (h.apart (4 + i) (4 + j) k (by omega) (by omega) (by omega) hk)
 ·intro i hi
  by_cases h1 : i = j
  ·subst h1; rw [DD, DD, List.length_append, List.length_append, h.len i hi, hlen]
  ·rw [CC _ _ h1, CC _ _ h1]; exact h.len i hi
 ·intro i x hi hx
  by_cases h1 : i = j
  ·subst h1
   rw [DD] at hx
   rcases List.mem_append.1 hx with h2 | h2
   ·exact h.rng i x hi h2
   ·rw [hms x h2]; exact hm
  ·rw [CC _ _ h1] at hx; exact h.rng i x hi hx
 ·intro i q v m' hi hv hm'
  by_cases h1 : i = j
  ·subst h1
   rw [DD] at hv hm'
   by_cases hq : q < (T i).length
   ·rw [List.getElem?_append_left hq] at hv
    rw [List.getElem?_append_left (by rw [← h.len i hi]; exact hq)] at hm'
    exact old i q v m' hi hv hm'
   ·rw [List.getElem?_append_right (by omega)] at hv
    rw [List.getElem?_append_right (by rw [← h.len i hi]; omega)] at hm'
    have e := hms m' (List.mem_of_getElem? hm')
    subst e
    obtain ⟨g, n, c, e, hn, hr, hg⟩ := hnew v (List.mem_of_getElem? hv)
    refine kept i m' v ⟨g, n, c, e, hn, hr, fun ad ha => ⟨(hg ad ha).2.1, (hg ad ha).2.2, fun e => (hg ad ha).1 (e ▸ h.hi), fun r hr' hk => (hg ad ha).1 (h.off r _ hr' hk).1⟩⟩
  ·rw [CC _ _ h1] at hv hm'
   exact old i q v m' hi hv hm'
end
def GF (w : World) (base B : Nat) (F : Nat → Prop) (M : Nat → List Int) (j : Nat) (v : Value) (e : Ending) (w' : World) : Prop :=
 e = .returned (.tuple #[]) ∧ Below base w w' ∧ (∀ k, k < w.heap.size → ¬ F k → v.ownBlock ≠ some k → w'.heap[k]? = w.heap[k]?) ∧
 ∃ rs' T' M', BookI w' base B (fun k => F k ∨ v.ownBlock = some k ∨ (w.heap.size ≤ k ∧ k < w'.heap.size)) rs' T' M' ∧ ∀ i, (M' i).length = (M i).length + if i = j then 4 else 0
theorem Le (rs : Nat → Value) (v : Value) : ∀ j, j < 8 → (cellsB rs).set j v = cellsB (upd rs j v)
 | 0, _ | 1, _ | 2, _ | 3, _ | 4, _ | 5, _ | 6, _ | 7, _ => by simp [cellsB, upd]
section
variable {w0 w w4 w5 w6 : World} {base B : Nat} {F : Nat → Prop} {rs : Nat → Value} {T : Nat → List Value} {M : Nat → List Int} {j : Nat} {tv mv v : Value} {m : Int} {new : List Value}
theorem BookI.mid (h : BookI w base B F rs T M) (hj : j < 4) (g4 : w.grownBy w4 (rs j).ownBlock) :
  Blk w4 B (cellsB rs) ∧ (w4.setCell ⟨B, j, none⟩ tv).ownsRow base 3 1 (rs (4 + j)) (M j).length ((M j).map (Value.int .i64)) ∧ Blk (w4.setCell ⟨B, j, none⟩ tv) B (cellsB (upd rs j tv)) := by
 have hB : B ∉ Ea (rs j) := fun e => (h.off j B (by omega) (blkL_mem.1 e)).2 rfl
 have hblk := h.blk.touch (Touch.of_row g4) hB
 refine ⟨hblk, ?_, ?_⟩
 ·refine ownsRow_setCell_other (AP (h.rowM j hj) (Touch.of_row g4) fun k hk e => h.apart (4 + j) j k (by omega) (by omega) (by omega) hk (blkL_mem.1 e)) (fun e => (h.off (4 + j) B (by omega) e).2 rfl) tv
 ·rw [← Le rs tv j (by omega)]
  exact hblk.set j tv
theorem Rc (h : BookI w base B F rs T M) (hj : j < 4) (hv : ∀ k, v.ownBlock = some k → ¬ F k ∧ base ≤ k ∧ k < w.heap.size) (t0 : Touch (Ea v) w0 w) (hB0 : base ≤ w0.heap.size)
  (hm : -4398046511104 ≤ m ∧ m ≤ 4398046511104 ∧ (j ≠ 2 → 0 ≤ m)) (hl4 : new.length = 4)
  (hFw : ∀ k, F k → k < w0.heap.size)
  (hnew : ∀ u ∈ new, ∃ g n c, u = .slice g n c ∧ n ≤ 1003 ∧ Rd w g (rep n (Me j m)) ∧ ∀ ad, g = some ad → (v.ownBlock = some ad.block ∨ w0.heap.size ≤ ad.block) ∧ ad.block < w.heap.size)
  (hT4 : w4.ownsRow base (RO j) 1 tv ((T j).length + 4) (T j ++ new)) (g4 : w.grownBy w4 (rs j).ownBlock) (at4 : tv.ownBlock = (rs j).ownBlock ∨ tv.ownBlock = some w.heap.size)
  (b5 : Below (w4.setCell ⟨B, j, none⟩ tv).heap.size (w4.setCell ⟨B, j, none⟩ tv) w5)
  (hM6 : w6.ownsRow base 3 1 mv ((M j).length + 4) ((M j).map (Value.int .i64) ++ [.int .i64 m, .int .i64 m, .int .i64 m, .int .i64 m])) (g6 : w5.grownBy w6 (rs (4 + j)).ownBlock) (at6 : mv.ownBlock = (rs (4 + j)).ownBlock ∨ mv.ownBlock = some w5.heap.size) :
  GF w0 base B F M j v (.returned (.tuple #[])) (w6.setCell ⟨B, 4 + j, none⟩ mv) := by
 have hlt := h.lt
 have z0 := t0.size
 have z4 := g4.size
 have ez : (w4.setCell ⟨B, j, none⟩ tv).heap.size = w4.heap.size := World.size_setCell ..
 have z5 := b5.size
 rw [ez] at z5
 have z6 := g6.size
 have ez6 : (w6.setCell ⟨B, 4 + j, none⟩ mv).heap.size = w6.heap.size := World.size_setCell ..
 obtain ⟨m1, m2, m3⟩ := h.mid (tv := tv) hj g4
 obtain ⟨L, hL⟩ : ∃ L, L = B :: (Ea (rs j) ++ Ea (rs (4 + j))) := ⟨_, rfl⟩
 have t4 : Touch L w (w4.setCell ⟨B, j, none⟩ tv) := ((Touch.of_row g4).mono (fun x hx => by rw [hL]; simp [hx])).setCell (.inl (by rw [hL]; simp)) tv
 have t5 : Touch L w w5 := t4.trans (Touch.of_below b5 _)
 have t6 : Touch L w w6 := t5.trans ((Touch.of_row g6).mono (fun x hx => by rw [hL]; simp [hx]))
 have t7 : Touch L w (w6.setCell ⟨B, 4 + j, none⟩ mv) := t6.setCell (.inl (by rw [hL]; simp)) mv
 have b3 : Blk w5 B (cellsB (upd rs j tv)) := m3.touch (Touch.of_below b5 []) (by simp)
 have tvk : ∀ k, tv.ownBlock = some k → (rs j).ownBlock = some k ∨ k = w.heap.size := fun k hk => by
  rcases at4 with e | e
  ·exact .inl (e ▸ hk)
  ·rw [e] at hk; exact .inr (Option.some.inj hk).symm
 have tvB : tv.ownBlock ≠ some B := fun e => by
  rcases tvk B e with e | e
  ·exact (h.off j B (by omega) e).2 rfl
  ·omega
 have tvM : ∀ k, tv.ownBlock = some k → (rs (4 + j)).ownBlock ≠ some k := fun k hk e => by
  rcases tvk k hk with e' | e'
  ·exact h.apart j (4 + j) k (by omega) (by omega) (by omega) e' e
  ·have := h.le k (h.off (4 + j) k (by omega) e).1; omega
 have mvk : ∀ k, mv.ownBlock = some k → (rs (4 + j)).ownBlock = some k ∨ k = w5.heap.size := fun k hk => by
  rcases at6 with e | e
  ·exact .inl (e ▸ hk)
  ·rw [e] at hk; exact .inr (Option.some.inj hk).symm
 have mvB : mv.ownBlock ≠ some B := fun e => by
  rcases mvk B e with e | e
  ·exact (h.off (4 + j) B (by omega) e).2 rfl
  ·omega
 have hT7 : (w6.setCell ⟨B, 4 + j, none⟩ mv).ownsRow base (RO j) 1 tv ((T j).length + 4) (T j ++ new) := by
  refine ownsRow_setCell_other ?_ tvB mv
  refine AP ?_ (Touch.of_row g6) fun k hk e => tvM k hk (blkL_mem.1 e)
  exact Ab (ownsRow_setCell_other hT4 tvB tv) (Nat.le_refl _) b5
 have hM7 : (w6.setCell ⟨B, 4 + j, none⟩ mv).ownsRow base 3 1 mv ((M j).length + 4) ((M j).map (Value.int .i64) ++ [.int .i64 m, .int .i64 m, .int .i64 m, .int .i64 m]) := ownsRow_setCell_other hM6 mvB mv
 have hb6 : Blk w6 B (cellsB (upd rs j tv)) := b3.touch (Touch.of_row g6) (fun e => (h.off (4 + j) B (by omega) (blkL_mem.1 e)).2 rfl)
 have hb7 := hb6.set (4 + j) mv
 rw [Le _ mv (4 + j) (by omega)] at hb7
 have hbook := h.keep (F' := fun k => F k ∨ v.ownBlock = some k ∨ (w0.heap.size ≤ k ∧ k < (w6.setCell ⟨B, 4 + j, none⟩ mv).heap.size)) hj (tv := tv) (mv := mv) (m := m) (new := new) (ms := [m, m, m, m])
  (fun k hk => .inl hk) (fun k hk => by
   rcases hk with hk | hk | hk
   ·have := h.le k hk; omega
   ·have := (hv k hk).2.2; omega
   ·exact hk.2) (fun k h1 h2 => .inr (.inr ⟨by omega, h2⟩)) hm (by simp) (by simp [hl4])
  (fun u hu => by
   obtain ⟨g, n, c, e, hn, hr, hg⟩ := hnew u hu
   refine ⟨g, n, c, e, hn, hr, fun ad ha => ?_⟩
   obtain ⟨h1, h2⟩ := hg ad ha
   refine ⟨fun hf => ?_, ?_, h2⟩
   ·rcases h1 with h1 | h1
    ·exact (hv _ h1).1 hf
    ·have := hFw _ hf; omega
   ·rcases h1 with h1 | h1
    ·exact .inr (.inl h1)
    ·exact .inr (.inr ⟨h1, by omega⟩))
  (hL ▸ t7) hb7 (by rw [List.length_append, hl4]; exact hT7) (by rw [List.length_append, List.map_append]; exact hM7)
  (fun k hk => (tvk k hk).imp id (fun e => by omega)) (fun k hk => (mvk k hk).imp id (fun e => by omega))
  (fun k hk1 hk2 hk3 => by
   rcases mvk k hk3 with e | e
   ·exact tvM k hk2 e
   ·have := (hT4.lt k hk2).2; omega)
 have hnL : ∀ k, k ∈ L → base ≤ k ∧ F k := fun k hk => by
  rw [hL] at hk
  rcases List.mem_cons.1 hk with rfl | hk
  ·exact ⟨h.lo, h.hi⟩
  ·rcases List.mem_append.1 hk with hk | hk
   ·exact ⟨((h.rowT j hj).lt k (blkL_mem.1 hk)).1, (h.off j k (by omega) (blkL_mem.1 hk)).1⟩
   ·exact ⟨((h.rowM j hj).lt k (blkL_mem.1 hk)).1, (h.off (4 + j) k (by omega) (blkL_mem.1 hk)).1⟩
 refine ⟨rfl, ?_, ?_, _, _, _, hbook, fun i => ?_⟩
 ·exact (t0.below hB0 fun x hx => (hv x (blkL_mem.1 hx)).2.1).trans (t7.below (by omega) fun x hx => (hnL x hx).1)
 ·intro k hk hF hvk
  rw [t7.block k (by omega) (fun e => hF (hnL k e).2), t0.block k hk (fun e => hvk (blkL_mem.1 e))]
 ·by_cases hi : i = j
  ·subst hi
   simp [DD]
  ·rw [CC _ _ hi]
   simp [hi]
end
end Go.Proofs.YtonjphollmdicaaGreatDoor
