import Derived.Test.YtonjphollmdicaaGreatDoorB01
import Derived.Test.YtonjphollmdicaaGreatDoorB04
import Derived.Maps.OwnSet
import Derived.Maps.RangeWalk
namespace Go.Proofs.YtonjphollmdicaaGreatDoor
open Go.ChangeShapes Go.WideShapes Go.ChangeAt Go.RowKit

/-- what an M packet says -/
structure MainL where
  size : Nat
  files : List Nat
  set : Nat
def mainOf (f : FoundL) : MainL := ⟨mainSize f.body, mainFiles f.body, f.set⟩
/-- the file that an F packet which counts describes -/
def takesF (m : MainL) (f : FoundL) : Option Nat := if f.set = m.set ∧ fRight f.body m.size = true ∧ fNumber f.body < m.files.length ∧ hashL f.body = m.files.getD (fNumber f.body) 0 then some (fNumber f.body) else none
def takesE (m : MainL) (f : FoundL) : Option Nat := if f.set = m.set ∧ eRight f.body m.size = true then some (eNumber f.body) else none
/-- the first one of a number -/
def firstOf (g : FoundL → Option Nat) (l : List FoundL) (i : Nat) : Option FoundL := l.find? (fun f => g f == some i)
def keysOf (g : FoundL → Option Nat) (l : List FoundL) (N : Nat) : List Nat := (List.range N).filter fun i => (firstOf g l i).isSome

theorem firstOf_snoc (g : FoundL → Option Nat) (l : List FoundL) (f : FoundL) (i : Nat) : firstOf g (l ++ [f]) i = (firstOf g l i).or (if g f = some i then some f else none) := by
  unfold firstOf
  rw [List.find?_append, List.find?_cons, List.find?_nil]
  by_cases h : g f = some i
  · rw [if_pos h, beq_iff_eq.2 h]
  · rw [if_neg h, beq_eq_false_iff_ne.2 h]
theorem firstOf_same {g : FoundL → Option Nat} {l : List FoundL} {f : FoundL} (h : ∀ i, g f = some i → (firstOf g l i).isSome = true) (i : Nat) : firstOf g (l ++ [f]) i = firstOf g l i := by
  rw [firstOf_snoc]
  by_cases c : g f = some i
  · have := h i c
    cases hh : firstOf g l i with
    | none => rw [hh] at this; simp at this
    | some x => rfl
  · rw [if_neg c, Option.or_none]
theorem firstOf_new {g : FoundL → Option Nat} {l : List FoundL} {f : FoundL} {j : Nat} (hf : g f = some j) (h : firstOf g l j = none) (i : Nat) : firstOf g (l ++ [f]) i = if i = j then some f else firstOf g l i := by
  rw [firstOf_snoc, hf]
  by_cases c : i = j
  · subst c
    rw [h, if_pos rfl, if_pos rfl]
    rfl
  · rw [if_neg c, if_neg (fun e => c (Option.some.inj e).symm), Option.or_none]
theorem filter_add (N : Nat) (p q : Nat → Bool) (j : Nat) (hj : j < N) (hp : p j = false) (hq : ∀ i, q i = (decide (i = j) || p i)) : ((List.range N).filter q).length = ((List.range N).filter p).length + 1 := by
  induction N with
  | zero => omega
  | succ N ih =>
    rw [List.range_succ, List.filter_append, List.filter_append, List.length_append, List.length_append]
    by_cases c : j = N
    · subst c
      have e : (List.range j).filter q = (List.range j).filter p := List.filter_congr (fun i hi => by
        rw [List.mem_range] at hi
        rw [hq, decide_eq_false (by omega), Bool.false_or])
      have q1 : q j = true := by rw [hq]; simp
      rw [e, List.filter_cons, q1, List.filter_cons, hp]
      simp
    · have h1 := ih (by omega)
      have e : q N = p N := by rw [hq, decide_eq_false (by omega), Bool.false_or]
      rw [h1, List.filter_cons, List.filter_cons, e]
      cases p N <;> simp
theorem keys_new {g : FoundL → Option Nat} {l : List FoundL} {f : FoundL} {j N : Nat} (hf : g f = some j) (h : firstOf g l j = none) (hj : j < N) : (keysOf g (l ++ [f]) N).length = (keysOf g l N).length + 1 :=
  filter_add N _ _ j hj (by rw [h]; rfl) (fun i => by
    rw [firstOf_new hf h]
    by_cases c : i = j
    · rw [if_pos c, decide_eq_true c]; rfl
    · rw [if_neg c, decide_eq_false c, Bool.false_or])
theorem keys_same {g : FoundL → Option Nat} {l : List FoundL} {f : FoundL} (h : ∀ i, g f = some i → (firstOf g l i).isSome = true) (N : Nat) : keysOf g (l ++ [f]) N = keysOf g l N :=
  List.filter_congr (fun i _ => by rw [firstOf_same h])

/-! M -/
def isMain (f : FoundL) : Bool := mainRight f.body && (hashL f.body == f.set)
theorem find_filter (p q : FoundL → Bool) (l : List FoundL) : (l.filter p).find? q = l.find? (fun f => p f && q f) := by
  induction l with
  | nil => rfl
  | cons f r ih =>
    rw [List.filter_cons, List.find?_cons]
    cases hp : p f with
    | true => simp [List.find?_cons, ih]
    | false => simp
theorem chief_of_pile (l : List FoundL) : (l.filter (·.kind == 77)).find? isMain = chiefL l := by
  rw [find_filter]
  unfold chiefL
  congr 1
  funext f
  rw [isChief_eq]
  unfold isMain
  rw [Bool.and_assoc]

/-! F -/
theorem takesF_iff (m : MainL) (f : FoundL) (i : Nat) (hi : i < m.files.length) (hk : f.kind = 70) : (takesF m f = some i) ↔ (speaksOf m.set i (m.files.getD i 0) f = true ∧ isForm f.body m.size = true) := by
  unfold takesF speaksOf
  rw [fRight_eq, hk]
  constructor
  · intro h
    split at h
    · rename_i hc
      obtain ⟨h1, h2, h3, h4⟩ := hc
      have hn := (fInfo_eq h2).2
      cases h
      refine ⟨?_, h2⟩
      have hl : 1 ≤ f.body.length := by
        unfold isForm at h2
        simp only [Bool.and_eq_true, decide_eq_true_eq] at h2
        omega
      rw [hn] at h4
      simp [h1, hl, hn, h4]
    · cases h
  · rintro ⟨h1, h2⟩
    simp only [Bool.and_eq_true, decide_eq_true_eq, beq_iff_eq] at h1
    obtain ⟨⟨⟨⟨_, h3⟩, _⟩, h5⟩, h6⟩ := h1
    have hn := (fInfo_eq h2).2
    rw [h5] at hn
    rw [hn, if_pos ⟨h3, h2, hi, h6⟩]

theorem described_of_pile (m : MainL) (i : Nat) (hi : i < m.files.length) (l : List FoundL) : (firstOf (takesF m) (l.filter (·.kind == 70)) i).map (fun f => formAt f.body m.size) = describedL l m.set i (m.files.getD i 0) m.size := by
  unfold firstOf
  rw [find_filter]
  unfold describedL
  induction l with
  | nil => rfl
  | cons f r ih =>
    rw [List.find?_cons, List.findSome?_cons]
    by_cases hk : f.kind = 70
    · rw [hk]
      have hiff := takesF_iff m f i hi hk
      by_cases h : takesF m f = some i
      · obtain ⟨h1, h2⟩ := hiff.1 h
        rw [h, h1]
        unfold formL
        simp [h2]
      · rw [beq_eq_false_iff_ne.2 h]
        simp only [Bool.and_false]
        by_cases h1 : speaksOf m.set i (m.files.getD i 0) f = true
        · have h2 : isForm f.body m.size = false := by
            cases c : isForm f.body m.size
            · rfl
            · exact absurd (hiff.2 ⟨h1, c⟩) h
          rw [h1]
          unfold formL
          simp only [h2]
          exact ih
        · rw [if_neg h1]
          exact ih
    · have h1 : speaksOf m.set i (m.files.getD i 0) f = false := by
        unfold speaksOf
        rw [beq_eq_false_iff_ne.2 hk]
        rfl
      rw [h1, beq_eq_false_iff_ne.2 hk]
      exact ih

/-! R -/
def isExtra (set b j : Nat) (f : FoundL) : Bool := f.kind == 82 && (f.set == set) && decide (f.body.length = 2 + b) && (numL (f.body.take 2) == j)
/-- the slice of the first R packet with a number -/
def exL (l : List FoundL) (set b j : Nat) : Option (List UInt8) := (l.find? (isExtra set b j)).map fun f => f.body.drop 2
theorem takesE_iff (m : MainL) (f : FoundL) (j : Nat) (hj : j < 20) : (f.kind == 82 && takesE m f == some j) = isExtra m.set m.size j f := by
  unfold takesE isExtra
  rw [eRight_eq]
  cases f.kind == 82
  · rfl
  · simp only [Bool.true_and]
    by_cases h1 : f.set = m.set
    · by_cases h2 : f.body.length = 2 + m.size
      · have he := (eInfo_eq h2).1
        by_cases h3 : numL (f.body.take 2) < 20
        · rw [if_pos ⟨h1, by simp [h2, h3]⟩, he]
          simp [h1, h2]
        · rw [if_neg (by simp [h3])]
          have : ¬ numL (f.body.take 2) = j := by omega
          simp [this]
      · rw [if_neg (by simp [h2])]
        simp [h2]
    · rw [if_neg (by simp [h1])]
      simp [h1]
theorem extra_of_pile (m : MainL) (j : Nat) (hj : j < 20) (l : List FoundL) : (firstOf (takesE m) (l.filter (·.kind == 82)) j).map (fun f => eSlice f.body m.size) = exL l m.set m.size j := by
  unfold firstOf exL
  rw [find_filter]
  have e : (fun f : FoundL => f.kind == 82 && takesE m f == some j) = isExtra m.set m.size j := funext fun f => takesE_iff m f j hj
  rw [e]
  cases h : l.find? (isExtra m.set m.size j) with
  | none => rfl
  | some f =>
    have hf := List.find?_some h
    unfold isExtra at hf
    simp only [Bool.and_eq_true, decide_eq_true_eq] at hf
    simp only [Option.map_some, Option.some.injEq]
    exact (eInfo_eq hf.1.2).2
theorem takesE_lt {m : MainL} {f : FoundL} {j : Nat} (h : takesE m f = some j) : j < 20 := by
  unfold takesE at h
  split at h
  · rename_i hc
    cases h
    have := hc.2
    unfold eRight at this
    simp only [Bool.and_eq_true, decide_eq_true_eq] at this
    exact this.2
  · cases h
theorem takesF_lt {m : MainL} {f : FoundL} {j : Nat} (h : takesF m f = some j) : j < m.files.length := by
  unfold takesF at h
  split at h
  · rename_i hc
    cases h
    exact hc.2.2.1
  · cases h
end Go.Proofs.YtonjphollmdicaaGreatDoor
namespace Go.Proofs.YtonjphollmdicaaGreatDoor
open Go.ChangeShapes Go.WideShapes Go.ChangeAt Go.RowKit

/-- w' is w but for the blocks of L; it may be longer -/
structure Touch (L : List Nat) (w w' : World) : Prop where
  os : w'.os = w.os
  tape : w'.tape = w.tape
  output : w'.output = w.output
  size : w.heap.size ≤ w'.heap.size
  block : ∀ k, k < w.heap.size → k ∉ L → w'.heap[k]? = w.heap[k]?

theorem Touch.refl (L : List Nat) (w : World) : Touch L w w := ⟨rfl, rfl, rfl, Nat.le_refl _, fun _ _ _ => rfl⟩
theorem Touch.trans {L : List Nat} {a b c : World} (h : Touch L a b) (k : Touch L b c) : Touch L a c :=
  ⟨k.os.trans h.os, k.tape.trans h.tape, k.output.trans h.output, Nat.le_trans h.size k.size, fun i hi hL => (k.block i (Nat.lt_of_lt_of_le hi h.size) hL).trans (h.block i hi hL)⟩
theorem Touch.mono {L M : List Nat} {a b : World} (h : Touch L a b) (hs : ∀ x ∈ L, x ∈ M) : Touch M a b := ⟨h.os, h.tape, h.output, h.size, fun i hi hM => h.block i hi (fun e => hM (hs i e))⟩
/-- what is touched afterwards is touched already, or new -/
theorem Touch.andThen {L M : List Nat} {a b c : World} (h : Touch L a b) (k : Touch M b c) (hs : ∀ x ∈ M, x ∈ L ∨ a.heap.size ≤ x) : Touch L a c :=
  ⟨k.os.trans h.os, k.tape.trans h.tape, k.output.trans h.output, Nat.le_trans h.size k.size, fun i hi hL => (k.block i (Nat.lt_of_lt_of_le hi h.size) (fun e => by rcases hs i e with h1 | h1; exact hL h1; omega)).trans (h.block i hi hL)⟩
theorem Touch.below {L : List Nat} {a b : World} (h : Touch L a b) {B : Nat} (hB : B ≤ a.heap.size) (hs : ∀ x ∈ L, B ≤ x) : Below B a b := ⟨h.os, h.tape, h.output, h.size, fun i hi => h.block i (by omega) (fun e => by have := hs i e; omega)⟩
theorem Touch.of_below {a b : World} (h : Below a.heap.size a b) (L : List Nat) : Touch L a b := ⟨h.os, h.tape, h.output, h.size, fun i hi _ => h.block i hi⟩
theorem Touch.of_grown {a b : World} {r : Nat} (h : a.grownBy b (some r)) : Touch [r] a b := ⟨h.os, h.tape, h.output, h.size, fun i hi hL => h.block i hi (by simpa using hL)⟩
theorem Touch.grown {a b : World} {r : Nat} (h : Touch [r] a b) : a.grownBy b (some r) := ⟨h.os, h.tape, h.output, h.size, fun i hi hL => h.block i hi (by simpa using hL)⟩
theorem Touch.grown_none {a b : World} (h : Touch [] a b) : a.grownBy b none := ⟨h.os, h.tape, h.output, h.size, fun i hi _ => h.block i hi (by simp)⟩
theorem Touch.alloc {L : List Nat} {a b : World} (h : Touch L a b) (o : Obj) : Touch L a (b.alloc o) := h.andThen (Touch.of_below ((Below.refl _ _).alloc (Nat.le_refl _) o) []) (by simp)
theorem Touch.drew {L : List Nat} {a b : World} (h : Touch L a b) : Touch L a b.drew := ⟨h.os, h.tape, h.output, h.size, h.block⟩
theorem Touch.setCell {L : List Nat} {a b : World} (h : Touch L a b) {x : Addr} (hx : x.block ∈ L ∨ a.heap.size ≤ x.block) (v : Value) : Touch L a (b.setCell x v) := by
  have h1 : Below x.block b (b.setCell x v) := (Below.refl _ _).setCell (Nat.le_refl _) v
  refine ⟨h1.os.trans h.os, h1.tape.trans h.tape, h1.output.trans h.output, Nat.le_trans h.size h1.size, fun i hi hL => ?_⟩
  rw [RowKit.Below.heap_setCell _ _ _ _ (fun e => by subst e; rcases hx with h1 | h1; exact hL h1; omega)]
  exact h.block i hi hL
theorem Touch.cell {L : List Nat} {a b : World} (h : Touch L a b) {x : Addr} (hlt : x.block < a.heap.size) (hL : x.block ∉ L) : b.cell? x = a.cell? x := World.cell?_of_block (w := a) (h.block _ hlt hL)
theorem Touch.frozen {L : List Nat} {a b : World} (h : Touch L a b) {x : Addr} (hlt : x.block < a.heap.size) (hL : x.block ∉ L) : b.frozen? x = a.frozen? x := World.frozen?_of_block (w := a) (h.block _ hlt hL)
theorem Touch.row {L : List Nat} {a W W' : World} (h : Touch L a W) {base : Nat} {e : TypeId} {sz : Nat} {v : Value} {n : Nat} {xs : List Value} (ho : W.ownsRow base e sz v n xs) (hb : a.heap.size ≤ base) (hg : W.grownBy W' v.ownBlock) : Touch L a W' :=
  ⟨hg.os.trans h.os, hg.tape.trans h.tape, hg.output.trans h.output, Nat.le_trans h.size hg.size, fun i hi hL => by
    rw [hg.block i (Nat.lt_of_lt_of_le hi h.size) (fun e => by have := (ho.lt i e.symm).1; omega)]
    exact h.block i hi hL⟩
theorem owns_touch {w w' : World} {base : Nat} {e : TypeId} {sz : Nat} {v : Value} {n : Nat} {xs : List Value} (h : w.ownsRow base e sz v n xs) {L : List Nat} (ht : Touch L w w') (hL : ∀ x ∈ L, x < base) : w'.ownsRow base e sz v n xs := by
  refine ⟨h.1, ?_⟩
  rcases h.2 with h1 | ⟨g, cap, cur, h1, hb, hg, h2⟩
  · exact .inl h1
  · exact .inr ⟨g, cap, cur, h1, hb, by rw [ht.block g (Array.getElem?_eq_some_iff.1 hg).1 (fun e => by have := hL g e; omega)]; exact hg, h2⟩
/-- .. whatever is touched, as long as it is no row of its own -/
theorem owns_touch' {w w' : World} {base : Nat} {e : TypeId} {sz : Nat} {v : Value} {n : Nat} {xs : List Value} (h : w.ownsRow base e sz v n xs) {L : List Nat} (ht : Touch L w w') (hL : ∀ k, v.ownBlock = some k → k ∉ L) : w'.ownsRow base e sz v n xs := by
  refine ⟨h.1, ?_⟩
  rcases h.2 with h1 | ⟨g, cap, cur, rfl, hb, hg, h2⟩
  · exact .inl h1
  · exact .inr ⟨g, cap, cur, rfl, hb, by rw [ht.block g (Array.getElem?_eq_some_iff.1 hg).1 (hL g rfl)]; exact hg, h2⟩
/-- the cells of a block of one's own, from its beginning on -/
def Blk (w : World) (B : Nat) (vs : List Value) : Prop := ∀ k u, vs[k]? = some u → w.cell? ⟨B, k, none⟩ = some u ∧ w.frozen? ⟨B, k, none⟩ = false
theorem Blk.lt {w : World} {B : Nat} {vs : List Value} (h : Blk w B vs) (h0 : 0 < vs.length) : B < w.heap.size := World.block_lt_of_cell? w _ (h 0 vs[0] (by simp)).1
theorem Blk.touch {w w' : World} {B : Nat} {vs : List Value} (h : Blk w B vs) {L : List Nat} (ht : Touch L w w') (hL : B ∉ L) : Blk w' B vs := fun k u hk => by
  have h1 := h k u hk
  have hlt : B < w.heap.size := World.block_lt_of_cell? w _ h1.1
  exact ⟨by rw [ht.cell (x := ⟨B, k, none⟩) hlt hL]; exact h1.1, by rw [ht.frozen (x := ⟨B, k, none⟩) hlt hL]; exact h1.2⟩
theorem Blk.alloc {w : World} {B : Nat} {vs : List Value} (h : Blk w B vs) (o : Obj) : Blk (w.alloc o) B vs := h.touch ((Touch.refl [] _).alloc o) (by simp)
theorem Blk.drew {w : World} {B : Nat} {vs : List Value} (h : Blk w B vs) : Blk w.drew B vs := h.touch ((Touch.refl [] _).drew) (by simp)
theorem Blk.new (w : World) (cs : Array Value) (t : TypeId) : Blk (w.alloc (.cells cs t)) w.heap.size cs.toList := fun k u hk => by
  rw [Array.getElem?_toList] at hk
  exact ⟨by simp [hk], by simp⟩
theorem Blk.set {w : World} {B : Nat} {vs : List Value} (h : Blk w B vs) (k : Nat) (v : Value) : Blk (w.setCell ⟨B, k, none⟩ v) B (vs.set k v) := fun j u hj => by
  rw [List.getElem?_set] at hj
  by_cases c : k = j
  · subst c
    rw [if_pos rfl] at hj
    split at hj
    · rename_i hlt
      cases hj
      have h1 := h k vs[k] (by simp [hlt])
      exact ⟨World.cell?_setCell_same _ _ _ h1.1, by rw [World.frozen?_setCell]; exact h1.2⟩
    · cases hj
  · rw [if_neg c] at hj
    have h1 := h j u hj
    exact ⟨by rw [World.cell?_setCell_other _ _ _ _ (by simp)]; exact h1.1, by rw [World.frozen?_setCell]; exact h1.2⟩
theorem Blk.set_other {w : World} {B : Nat} {vs : List Value} (h : Blk w B vs) {a : Addr} (ha : a.block ≠ B) (v : Value) : Blk (w.setCell a v) B vs := fun j u hj => by
  have h1 := h j u hj
  exact ⟨by rw [World.cell?_setCell_other _ _ _ _ (fun e => ha (by rw [e]))]; exact h1.1, by rw [World.frozen?_setCell]; exact h1.2⟩
end Go.Proofs.YtonjphollmdicaaGreatDoor
namespace Go.Proofs.YtonjphollmdicaaGreatDoor
open Go.ChangeShapes Go.WideShapes Go.ChangeAt Go.RowKit
open Go.Maps (Keyed IsMap Tidy)

/-- a map's element as it stands -/
def rawE : Value → Option (DataW Value × List MemPlace) := fun v => some (.held v, [])
/-- what lies at a key -/
def atM (D : DataW Value) (kl : Lit) : Option Value := if Maps.has D kl then (match D.atKey kl .nil with | .held v => some v | _ => none) else none

theorem atKey_has {D : DataW Value} {kl : Lit} (h : Maps.has D kl = true) (z z' : DataW Value) : D.atKey kl z = D.atKey kl z' := by
  cases D with
  | map es =>
    rw [Maps.has_eq] at h
    obtain ⟨p, hp, hk⟩ := List.any_eq_true.1 h
    simp only [DataW.atKey]
    cases hf : es.find? (fun p => p.1.sameKey kl) with
    | none => exact absurd hk (by simpa using List.find?_eq_none.1 hf p hp)
    | some q => simp
  | _ => simp [Maps.has] at h

theorem atM_put_same {D : DataW Value} (hD : IsMap D) {k : Lit} (hk : WideAt.IsKeyLit k) (v : Value) : atM (D.put k (.held v)) k = some v := by
  unfold atM
  rw [Maps.has_put_same hD hk, Maps.atKey_put_same hD hk]
  rfl
theorem atM_put_other (D : DataW Value) {k k' : Lit} (hne : k' ≠ k) (d : DataW Value) : atM (D.put k d) k' = atM D k' := by
  unfold atM
  rw [Maps.has_put_other hne, Maps.atKey_put_other hne]
theorem atM_del_same (D : DataW Value) (k : Lit) : atM (D.del k) k = none := by
  unfold atM
  rw [Maps.has_del_same]
  rfl
theorem atM_del_other (D : DataW Value) {k k' : Lit} (hne : k' ≠ k) : atM (D.del k) k' = atM D k' := by
  unfold atM
  rw [Maps.has_del_other hne, Maps.atKey_del_other hne]
theorem atM_empty (k : Lit) : atM (.map []) k = none := by simp [atM, Maps.has]

section
variable {P : Program} {k : TypeId} {w : World} {b n : Nat} {D : DataW Value}

theorem atM_has (h : w.ownsMap P k rawE b n D) (K : Keyed P k) {t e : TypeId} (ht : P.underlying t = some (.map k e)) {z : Value} (hz : (zeroValue e).run P w = .ok z w) {key : Value} {kl : Lit} (hkey : keyOf P k key = some kl) : Maps.has D kl = (atM D kl).isSome ∧ (∀ z', D.atKey kl (.held z') = .held ((atM D kl).getD z')) := by
  obtain ⟨v, ps, _, hv⟩ := h.look_ok K ht hz (zd := .held z) (zp := []) rfl hkey
  unfold rawE at hv
  simp only [Option.some.injEq, Prod.mk.injEq] at hv
  unfold atM
  cases hh : Maps.has D kl with
  | false =>
    refine ⟨by simp, fun z' => ?_⟩
    rw [Maps.atKey_of_not_has hh]
    simp
  | true =>
    have e : ∀ d, D.atKey kl d = .held v := fun d => by rw [atKey_has hh d (.held z)]; exact hv.1.symm
    simp [e]

/-- 'm[k]' -/
theorem own_look (h : w.ownsMap P k rawE b n D) (K : Keyed P k) {t e : TypeId} (ht : P.underlying t = some (.map k e)) {z : Value} (hz : (zeroValue e).run P w = .ok z w) {key : Value} {kl : Lit} (hkey : keyOf P k key = some kl) :
    (Instr.lookup t (.map (some b)) key false).run P w = .ok ((atM D kl).getD z) w := by
  obtain ⟨v, ps, hr, hv⟩ := h.lookup K ht hz (zd := .held z) (zp := []) rfl hkey
  unfold rawE at hv
  simp only [Option.some.injEq, Prod.mk.injEq] at hv
  have := (atM_has h K ht hz hkey).2 z
  rw [this] at hv
  simp only [DataW.held.injEq] at hv
  rw [← hv.1]
  exact hr
/-- 'v, ok := m[k]' -/
theorem own_look_ok (h : w.ownsMap P k rawE b n D) (K : Keyed P k) {t e : TypeId} (ht : P.underlying t = some (.map k e)) {z : Value} (hz : (zeroValue e).run P w = .ok z w) {key : Value} {kl : Lit} (hkey : keyOf P k key = some kl) :
    (Instr.lookup t (.map (some b)) key true).run P w = .ok (.tuple #[(atM D kl).getD z, .bool (atM D kl).isSome]) w := by
  obtain ⟨v, ps, hr, hv⟩ := h.look_ok K ht hz (zd := .held z) (zp := []) rfl hkey
  unfold rawE at hv
  simp only [Option.some.injEq, Prod.mk.injEq] at hv
  obtain ⟨h1, h2⟩ := atM_has h K ht hz hkey
  rw [h2 z] at hv
  simp only [DataW.held.injEq] at hv
  rw [← hv.1, ← h1]
  exact hr
end

section
variable {P : Program} (w : World) {ops : Array Oper} {rest : List Oper} {o : Oper} {a : Act} {Q : Exit → Act → World → Prop}

theorem wpList_look1 (hg : o.guard = none) (m x : Operand) (t : TypeId) (hop : o.op = Op.lookup t m x false)
    (k e : TypeId) (K : Keyed P k) (ht : P.underlying t = some (.map k e)) {z : Value} (hz : (zeroValue e).run P w = .ok z w) (b n : Nat) (D : DataW Value)
    (hm : a.eval m = .map (some b)) (hown : w.ownsMap P k rawE b n D) (key : Value) (kl : Lit) (hx : a.eval x = key) (hkey : keyOf P k key = some kl)
    (hK : wpList P ops Q rest (a.put o.dst ((atM D kl).getD z)) w) :
    wpList P ops Q (o :: rest) a w := by
  refine wpList_plain hg fun K' hK' => ?_
  have hrun := own_look hown K ht hz hkey
  unfold Oper.wp
  simp [execOp, hop, hm, hx, hrun, Result.andThen]
  exact hK' _ _ hK

theorem wpList_look2 (hg : o.guard = none) (m x : Operand) (t : TypeId) (hop : o.op = Op.lookup t m x true)
    (k e : TypeId) (K : Keyed P k) (ht : P.underlying t = some (.map k e)) {z : Value} (hz : (zeroValue e).run P w = .ok z w) (b n : Nat) (D : DataW Value)
    (hm : a.eval m = .map (some b)) (hown : w.ownsMap P k rawE b n D) (key : Value) (kl : Lit) (hx : a.eval x = key) (hkey : keyOf P k key = some kl)
    (hK : wpList P ops Q rest (a.put o.dst (.tuple #[(atM D kl).getD z, .bool (atM D kl).isSome])) w) :
    wpList P ops Q (o :: rest) a w := by
  refine wpList_plain hg fun K' hK' => ?_
  have hrun := own_look_ok hown K ht hz hkey
  unfold Oper.wp
  simp [execOp, hop, hm, hx, hrun, Result.andThen]
  exact hK' _ _ hK

/-- 'm[k] = v' -/
theorem wpList_store (hg : o.guard = none) (m x v : Operand) (t : TypeId) (hop : o.op = Op.mapUpdate t m x v)
    (k e : TypeId) (K : Keyed P k) (ht : P.underlying t = some (.map k e)) (b n : Nat) (D : DataW Value)
    (hm : a.eval m = .map (some b)) (hown : w.ownsMap P k rawE b n D) (hn : n < maxLen) (key val : Value) (kl : Lit) (hx : a.eval x = key) (hv : a.eval v = val) (hkey : keyOf P k key = some kl)
    (hK : ∀ w', w'.ownsMap P k rawE b (n + 1) (D.put kl (.held val)) → Touch [b] w w' → wpList P ops Q rest (a.put o.dst undef) w') :
    wpList P ops Q (o :: rest) a w :=
  wpList_mapUpdate_own w hg m x v t hop k e K ht rawE b n D hm hown hn key val kl hx hv hkey (.held val) [] rfl (fun w' h1 h2 => hK w' h1 (Touch.of_grown h2))

/-- the step of a range over a map with keys of an integer kind -/
theorem wpList_step (hg : o.guard = none) (it : Operand) (hop : o.op = Op.next it false) (k : TypeId) (q : IntKind) (K : Keyed P k) (hk : P.underlying k = some (.int q)) (b r n : Nat) (D : DataW Value) (left : Lit → Bool) (cnt : Nat)
    (hit : a.eval it = .pointer (some ⟨r, 0, none⟩)) (h : w.ranges P k rawE b r n D left cnt)
    (hDone : cnt = 0 → (∀ kl, left kl = false) → wpList P ops Q rest (a.put o.dst (.tuple #[.bool false])) w)
    (hMore : ∀ (x : Int) (v : Value) (w' : World) (cnt' : Nat), (Lit.int q x).wf = true → left (.int q x) = true → (∀ zd, D.atKey (.int q x) zd = .held v) → w'.ranges P k rawE b r n D (fun z => left z && !z.sameKey (.int q x)) cnt' → cnt' < cnt →
      w.grownBy w' (some r) → w'.heap.size = w.heap.size → (Instr.entry (.pointer (some ⟨r, 0, none⟩))).run P w' = .ok (.tuple #[.int q x, v]) w' → wpList P ops Q rest (a.put o.dst (.tuple #[.bool true, .int q x, v])) w') :
    wpList P ops Q (o :: rest) a w :=
  wpList_next_ranges w hg it hop k K rawE (Value.int q) (fun v => v) (fun key kl hkey => by obtain ⟨x, rfl, _⟩ := Maps.keyOf_int_inv hk hkey; exact ⟨x, rfl⟩) (fun v _ _ => ⟨v, rfl⟩)
    b r n D left cnt hit h hDone (fun x c kl y w' cnt' hkey hlk hv hat hrg hlt hgr hsz hen => by
      obtain ⟨x', ex, rfl, hwx⟩ := Maps.keyOf_int_inv hk hkey
      cases ex
      unfold rawE at hv
      simp only [Option.some.injEq] at hv
      subst hv
      exact hMore x c w' cnt' hwx hlk hat hrg hlt hgr hsz hen)
end
end Go.Proofs.YtonjphollmdicaaGreatDoor
