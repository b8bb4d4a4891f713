import Derived.Test.YtonjphollmdicaaGreatDoorB32
namespace Go.Proofs.YtonjphollmdicaaGreatDoor
open Go.ChangeShapes Go.WideShapes Go.ChangeAt Go.RowKit Math
def powN (t : Nat) : Nat → Nat
 | 0 => 1
 | j + 1 => Math.mul (powN t j) t
def lineL (t n : Nat) : List Nat := (List.range n).map (powN t)
theorem powN_lt (t : Nat) : ∀ j, powN t j < 65536
 | 0 => by simp [powN]
 | j + 1 => Math.mul_lt (powN_lt t j) t
theorem lineL_length (t n : Nat) : (lineL t n).length = n := by simp [lineL]
theorem lineL_succ (t n : Nat) : lineL t (n + 1) = lineL t n ++ [powN t n] := by simp [lineL, List.range_succ]
theorem lineL_getD (t n j : Nat) (h : j < n) : (lineL t n).getD j 0 = powN t j := by simp [lineL, h]
theorem lineL_lt (t n : Nat) : ∀ x ∈ lineL t n, x < 65536 := by
 intro x hx
 simp only [lineL, List.mem_map] at hx
 obtain ⟨j, _, rfl⟩ := hx
 exact powN_lt t j
theorem powN_ofNat (t : Nat) (ht : t < 65536) : ∀ j, F.ofNat (powN t j) = powF (F.ofNat t) j
 | 0 => rfl
 | j + 1 => by rw [powN, powF, mul_ofNat (powN_lt t j) ht, powN_ofNat t ht j]
def linesL (ts : List Nat) (K i : Nat) : List (List Nat) := (List.range i).map fun q => lineL (ts.getD q 0) K
theorem linesL_succ (ts : List Nat) (K i : Nat) : linesL ts K (i + 1) = linesL ts K i ++ [lineL (ts.getD i 0) K] := by simp [linesL, List.range_succ]
theorem linesL_vand (ts : List Nat) (K : Nat) (h : ∀ x ∈ ts, x < 65536) : Vand (fun i => F.ofNat (ts.getD i 0)) (linesL ts K K) K := by
 intro i hi j hj
 have e : (linesL ts K K).getD i [] = lineL (ts.getD i 0) K := by simp [linesL, hi]
 unfold en
 rw [e, lineL_getD _ _ _ hj, powN_ofNat _ (getD_lt h i)]
def intV (l : List Nat) : List Value := l.map fun (n : Nat) => Value.int .i64 (n : Int)
theorem int_get {w : World} {a : Option Addr} {l : List Nat} (h : Rd w a (intV l)) (k : Nat) (hk : k < l.length) : ∃ b off, a = some ⟨b, off, none⟩ ∧ w.cell? ⟨b, off + k, none⟩ = some (.int .i64 ((l.getD k 0 : Nat) : Int)) := by
 refine h k _ ?_
 simp [intV, hk]
theorem points_inj (ts : List Nat) (hnd : ts.Nodup) (hx : ∀ x ∈ ts, x < 65536) : ∀ a b, a < ts.length → b < ts.length → F.ofNat (ts.getD a 0) = F.ofNat (ts.getD b 0) → a = b := by
 intro a b ha hb e
 have := congrArg Subtype.val e
 rw [val_ofNat (getD_lt hx a), val_ofNat (getD_lt hx b)] at this
 have h1 : ts.getD a 0 = ts[a] := by simp [ha]
 have h2 : ts.getD b 0 = ts[b] := by simp [hb]
 rw [h1, h2] at this
 exact (List.getElem_inj hnd).1 this
def Sys0 (B : Nat) (W : World) (va vy : Value) (i K wd : Nat) (A Y : List (List Nat)) : Prop :=
 ∃ gA cA gY cY, Grid W B va i K A gA cA ∧ Grid W B vy i wd Y gY cY ∧ Apart i gA i gY
theorem Sys0.start (B : Nat) (W : World) (K wd : Nat) : Sys0 B W (.slice none 0 0) (.slice none 0 0) 0 K wd [] [] :=
 ⟨fun _ => 0, fun _ => 0, fun _ => 0, fun _ => 0, Grid.empty _ _ _ _ _, Grid.empty _ _ _ _ _, fun _ _ h => absurd h (Nat.not_lt_zero _)⟩
theorem Sys0.later {B : Nat} {W W' : World} {va vy : Value} {i K wd : Nat} {A Y : List (List Nat)} (h : Sys0 B W va vy i K wd A Y) (hb : Below W.heap.size W W') : Sys0 B W' va vy i K wd A Y := by
 obtain ⟨gA, cA, gY, cY, h1, h2, h3⟩ := h
 exact ⟨gA, cA, gY, cY, h1.later (Nat.le_refl _) hb, h2.later (Nat.le_refl _) hb, h3⟩
theorem grids_push {B : Nat} {W0 W1 W2 W3 W4 : World} {va vy va' vy' : Value} {i K wd : Nat} {A Y : List (List Nat)} {gA cA gY cY : Nat → Nat} {gl cl gm cm : Nat} {r m : List Nat}
  (h1 : Grid W0 B va i K A gA cA) (h2 : Grid W0 B vy i wd Y gY cY) (h3 : Apart i gA i gY) (hB : B ≤ W0.heap.size)
  (h01 : Below W0.heap.size W0 W1) (hr : W1.ownsRow W0.heap.size 80 1 (.slice (some ⟨gl, 0, none⟩) K cl) K (u16V r)) (hrl : r.length = K) (hrx : ∀ x ∈ r, x < 65536)
  (ho : W2.ownsRow B 121 1 va' (i + 1) (headsV K gA cA i ++ [.slice (some ⟨gl, 0, none⟩) K cl])) (hg : W1.grownBy W2 va.ownBlock)
  (h23 : Below W2.heap.size W2 W3) (hm : W3.ownsRow W2.heap.size 80 1 (.slice (some ⟨gm, 0, none⟩) wd cm) wd (u16V m)) (hml : m.length = wd) (hmx : ∀ x ∈ m, x < 65536)
  (ho' : W4.ownsRow B 121 1 vy' (i + 1) (headsV wd gY cY i ++ [.slice (some ⟨gm, 0, none⟩) wd cm])) (hg' : W3.grownBy W4 vy.ownBlock) :
  Sys0 B W4 va' vy' (i + 1) K wd (A ++ [r]) (Y ++ [m]) := by
 subst hrl hml
 have a1 := h1.later (Nat.le_refl _) h01
 have y1 := h2.later (Nat.le_refl _) h01
 have hsz1 := h01.size
 have hgl := hr.lt gl (by simp [Value.ownBlock])
 have hglA : ∀ q, q < i → gA q ≠ gl := fun q hq e => by have := (h1.lt q hq).1; omega
 have hglY : ∀ q, q < i → gY q ≠ gl := fun q hq e => by have := (h2.lt q hq).1; omega
 have a2 := a1.push (ownsRow_base (by omega) hr) rfl hrx hglA ho hg
 have y2 := y1.keptHead a1 h3 hg
 have hsz2 := hg.size
 have a3 := a2.later (Nat.le_refl _) h23
 have y3 := y2.later (Nat.le_refl _) h23
 have hgm := hm.lt gm (by simp [Value.ownBlock])
 have hgmY : ∀ q, q < i → gY q ≠ gm := fun q hq e => by have := (y2.lt q hq).1; omega
 have hgmA : ∀ q, q < i + 1 → (if q < i then gA q else gl) ≠ gm := fun q hq e => by have := (a2.lt q hq).1; omega
 have hap : Apart i gY (i + 1) (fun q => if q < i then gA q else gl) := by
  intro q j hq hj e
  by_cases hji : j < i
  ·simp only [if_pos hji] at e
   exact h3 j q hji hq e.symm
  ·simp only [if_neg hji] at e
   exact hglY q hq e
 have y4 := y3.push (ownsRow_base (by omega) hm) rfl hmx hgmY ho' hg'
 have a4 := a3.keptHead y3 hap hg'
 refine ⟨_, _, _, _, a4, y4, ?_⟩
 intro q j hq hj e
 by_cases hji : j < i
 ·simp only [if_pos hji] at e
  exact hap j q hji hq e.symm
 ·simp only [if_neg hji] at e
  exact hgmA q hq e
theorem grids_after {B : Nat} {W0 W1 W2 : World} {va vy : Value} {i K wd : Nat} {A Y : List (List Nat)} {gA cA gY cY : Nat → Nat}
  (h1 : Grid W0 B va i K A gA cA) (h2 : Grid W0 B vy i wd Y gY cY) (h3 : Apart i gA i gY) (h01 : Below W0.heap.size W0 W1) (hg : W1.grownBy W2 va.ownBlock) : W2.ownsRow B 121 1 vy i (headsV wd gY cY i) := by
 have a1 := h1.later (Nat.le_refl _) h01
 have y1 := h2.later (Nat.le_refl _) h01
 exact (y1.keptHead a1 h3 hg).own
end Go.Proofs.YtonjphollmdicaaGreatDoor
