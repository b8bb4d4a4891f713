import Derived.Test.YtonjphollmdicaaGreatDoorB01
import Derived.Maps.OwnSet
import Derived.Maps.RangeWalk
import Derived.Deep.RegionHeld
import Derived.Deep.RegionHeld3
import Derived.Maps.AppendAt
namespace Go.Proofs.YtonjphollmdicaaGreatDoor
open Go.ChangeShapes Go.WideShapes Go.ChangeAt Go.RowKit

/-- w' is w but for the blocks of L; it may be longer -/
structure Touch (L : List Nat) (w w' : World) : Prop where
  os : w'.os = w.os
  tape : w'.tape = w.tape
  output : w'.output = w.output
  size : w.heap.size ≤ w'.heap.size
  block : ∀ k, k < w.heap.size → k ∉ L → w'.heap[k]? = w.heap[k]?

theorem Touch.refl (L : List Nat) (w : World) : Touch L w w := ⟨rfl, rfl, rfl, Nat.le_refl _, fun _ _ _ => rfl⟩
theorem Touch.trans {L : List Nat} {a b c : World} (h : Touch L a b) (k : Touch L b c) : Touch L a c :=
  ⟨k.os.trans h.os, k.tape.trans h.tape, k.output.trans h.output, Nat.le_trans h.size k.size, fun i hi hL => (k.block i (Nat.lt_of_lt_of_le hi h.size) hL).trans (h.block i hi hL)⟩
theorem Touch.mono {L M : List Nat} {a b : World} (h : Touch L a b) (hs : ∀ x ∈ L, x ∈ M) : Touch M a b := ⟨h.os, h.tape, h.output, h.size, fun i hi hM => h.block i hi (fun e => hM (hs i e))⟩
/-- what is touched afterwards is touched already, or new -/
theorem Touch.andThen {L M : List Nat} {a b c : World} (h : Touch L a b) (k : Touch M b c) (hs : ∀ x ∈ M, x ∈ L ∨ a.heap.size ≤ x) : Touch L a c :=
  ⟨k.os.trans h.os, k.tape.trans h.tape, k.output.trans h.output, Nat.le_trans h.size k.size, fun i hi hL => (k.block i (Nat.lt_of_lt_of_le hi h.size) (fun e => by rcases hs i e with h1 | h1; exact hL h1; omega)).trans (h.block i hi hL)⟩
theorem Touch.below {L : List Nat} {a b : World} (h : Touch L a b) {B : Nat} (hB : B ≤ a.heap.size) (hs : ∀ x ∈ L, B ≤ x) : Below B a b := ⟨h.os, h.tape, h.output, h.size, fun i hi => h.block i (by omega) (fun e => by have := hs i e; omega)⟩
theorem Touch.of_below {a b : World} (h : Below a.heap.size a b) (L : List Nat) : Touch L a b := ⟨h.os, h.tape, h.output, h.size, fun i hi _ => h.block i hi⟩
theorem Touch.of_grown {a b : World} {r : Nat} (h : a.grownBy b (some r)) : Touch [r] a b := ⟨h.os, h.tape, h.output, h.size, fun i hi hL => h.block i hi (by simpa using hL)⟩
theorem Touch.grown {a b : World} {r : Nat} (h : Touch [r] a b) : a.grownBy b (some r) := ⟨h.os, h.tape, h.output, h.size, fun i hi hL => h.block i hi (by simpa using hL)⟩
theorem Touch.grown_none {a b : World} (h : Touch [] a b) : a.grownBy b none := ⟨h.os, h.tape, h.output, h.size, fun i hi _ => h.block i hi (by simp)⟩
theorem Touch.alloc {L : List Nat} {a b : World} (h : Touch L a b) (o : Obj) : Touch L a (b.alloc o) := h.andThen (Touch.of_below ((Below.refl _ _).alloc (Nat.le_refl _) o) []) (by simp)
theorem Touch.drew {L : List Nat} {a b : World} (h : Touch L a b) : Touch L a b.drew := ⟨h.os, h.tape, h.output, h.size, h.block⟩
theorem Touch.setCell {L : List Nat} {a b : World} (h : Touch L a b) {x : Addr} (hx : x.block ∈ L ∨ a.heap.size ≤ x.block) (v : Value) : Touch L a (b.setCell x v) := by
  have h1 : Below x.block b (b.setCell x v) := (Below.refl _ _).setCell (Nat.le_refl _) v
  refine ⟨h1.os.trans h.os, h1.tape.trans h.tape, h1.output.trans h.output, Nat.le_trans h.size h1.size, fun i hi hL => ?_⟩
  rw [RowKit.Below.heap_setCell _ _ _ _ (fun e => by subst e; rcases hx with h1 | h1; exact hL h1; omega)]
  exact h.block i hi hL
theorem Touch.cell {L : List Nat} {a b : World} (h : Touch L a b) {x : Addr} (hlt : x.block < a.heap.size) (hL : x.block ∉ L) : b.cell? x = a.cell? x := World.cell?_of_block (w := a) (h.block _ hlt hL)
theorem Touch.frozen {L : List Nat} {a b : World} (h : Touch L a b) {x : Addr} (hlt : x.block < a.heap.size) (hL : x.block ∉ L) : b.frozen? x = a.frozen? x := World.frozen?_of_block (w := a) (h.block _ hlt hL)
theorem Touch.row {L : List Nat} {a W W' : World} (h : Touch L a W) {base : Nat} {e : TypeId} {sz : Nat} {v : Value} {n : Nat} {xs : List Value} (ho : W.ownsRow base e sz v n xs) (hb : a.heap.size ≤ base) (hg : W.grownBy W' v.ownBlock) : Touch L a W' :=
  ⟨hg.os.trans h.os, hg.tape.trans h.tape, hg.output.trans h.output, Nat.le_trans h.size hg.size, fun i hi hL => by
    rw [hg.block i (Nat.lt_of_lt_of_le hi h.size) (fun e => by have := (ho.lt i e.symm).1; omega)]
    exact h.block i hi hL⟩
theorem owns_touch {w w' : World} {base : Nat} {e : TypeId} {sz : Nat} {v : Value} {n : Nat} {xs : List Value} (h : w.ownsRow base e sz v n xs) {L : List Nat} (ht : Touch L w w') (hL : ∀ x ∈ L, x < base) : w'.ownsRow base e sz v n xs := by
  refine ⟨h.1, ?_⟩
  rcases h.2 with h1 | ⟨g, cap, cur, h1, hb, hg, h2⟩
  · exact .inl h1
  · exact .inr ⟨g, cap, cur, h1, hb, by rw [ht.block g (Array.getElem?_eq_some_iff.1 hg).1 (fun e => by have := hL g e; omega)]; exact hg, h2⟩
/-- .. whatever is touched, as long as it is no row of its own -/
theorem owns_touch' {w w' : World} {base : Nat} {e : TypeId} {sz : Nat} {v : Value} {n : Nat} {xs : List Value} (h : w.ownsRow base e sz v n xs) {L : List Nat} (ht : Touch L w w') (hL : ∀ k, v.ownBlock = some k → k ∉ L) : w'.ownsRow base e sz v n xs := by
  refine ⟨h.1, ?_⟩
  rcases h.2 with h1 | ⟨g, cap, cur, rfl, hb, hg, h2⟩
  · exact .inl h1
  · exact .inr ⟨g, cap, cur, rfl, hb, by rw [ht.block g (Array.getElem?_eq_some_iff.1 hg).1 (hL g rfl)]; exact hg, h2⟩
/-- the cells of a block of one's own, from its beginning on -/
def Blk (w : World) (B : Nat) (vs : List Value) : Prop := ∀ k u, vs[k]? = some u → w.cell? ⟨B, k, none⟩ = some u ∧ w.frozen? ⟨B, k, none⟩ = false
theorem Blk.lt {w : World} {B : Nat} {vs : List Value} (h : Blk w B vs) (h0 : 0 < vs.length) : B < w.heap.size := World.block_lt_of_cell? w _ (h 0 vs[0] (by simp)).1
theorem Blk.touch {w w' : World} {B : Nat} {vs : List Value} (h : Blk w B vs) {L : List Nat} (ht : Touch L w w') (hL : B ∉ L) : Blk w' B vs := fun k u hk => by
  have h1 := h k u hk
  have hlt : B < w.heap.size := World.block_lt_of_cell? w _ h1.1
  exact ⟨by rw [ht.cell (x := ⟨B, k, none⟩) hlt hL]; exact h1.1, by rw [ht.frozen (x := ⟨B, k, none⟩) hlt hL]; exact h1.2⟩
theorem Blk.alloc {w : World} {B : Nat} {vs : List Value} (h : Blk w B vs) (o : Obj) : Blk (w.alloc o) B vs := h.touch ((Touch.refl [] _).alloc o) (by simp)
theorem Blk.drew {w : World} {B : Nat} {vs : List Value} (h : Blk w B vs) : Blk w.drew B vs := h.touch ((Touch.refl [] _).drew) (by simp)
theorem Blk.new (w : World) (cs : Array Value) (t : TypeId) : Blk (w.alloc (.cells cs t)) w.heap.size cs.toList := fun k u hk => by
  rw [Array.getElem?_toList] at hk
  exact ⟨by simp [hk], by simp⟩
theorem Blk.set {w : World} {B : Nat} {vs : List Value} (h : Blk w B vs) (k : Nat) (v : Value) : Blk (w.setCell ⟨B, k, none⟩ v) B (vs.set k v) := fun j u hj => by
  rw [List.getElem?_set] at hj
  by_cases c : k = j
  · subst c
    rw [if_pos rfl] at hj
    split at hj
    · rename_i hlt
      cases hj
      have h1 := h k vs[k] (by simp [hlt])
      exact ⟨World.cell?_setCell_same _ _ _ h1.1, by rw [World.frozen?_setCell]; exact h1.2⟩
    · cases hj
  · rw [if_neg c] at hj
    have h1 := h j u hj
    exact ⟨by rw [World.cell?_setCell_other _ _ _ _ (by simp)]; exact h1.1, by rw [World.frozen?_setCell]; exact h1.2⟩
theorem Blk.set_other {w : World} {B : Nat} {vs : List Value} (h : Blk w B vs) {a : Addr} (ha : a.block ≠ B) (v : Value) : Blk (w.setCell a v) B vs := fun j u hj => by
  have h1 := h j u hj
  exact ⟨by rw [World.cell?_setCell_other _ _ _ _ (fun e => ha (by rw [e]))]; exact h1.1, by rw [World.frozen?_setCell]; exact h1.2⟩
end Go.Proofs.YtonjphollmdicaaGreatDoor
namespace Go.Proofs.YtonjphollmdicaaGreatDoor
open Go.ChangeShapes Go.WideShapes Go.ChangeAt Go.RowKit
open Go.Maps (Keyed IsMap Tidy)

/-- a map's element as it stands -/
def rawE : Value → Option (DataW Value × List MemPlace) := fun v => some (.held v, [])
/-- what lies at a key -/
def atM (D : DataW Value) (kl : Lit) : Option Value := if Maps.has D kl then (match D.atKey kl .nil with | .held v => some v | _ => none) else none

theorem atKey_has {D : DataW Value} {kl : Lit} (h : Maps.has D kl = true) (z z' : DataW Value) : D.atKey kl z = D.atKey kl z' := by
  cases D with
  | map es =>
    rw [Maps.has_eq] at h
    obtain ⟨p, hp, hk⟩ := List.any_eq_true.1 h
    simp only [DataW.atKey]
    cases hf : es.find? (fun p => p.1.sameKey kl) with
    | none => exact absurd hk (by simpa using List.find?_eq_none.1 hf p hp)
    | some q => simp
  | _ => simp [Maps.has] at h

theorem atM_put_same {D : DataW Value} (hD : IsMap D) {k : Lit} (hk : WideAt.IsKeyLit k) (v : Value) : atM (D.put k (.held v)) k = some v := by
  unfold atM
  rw [Maps.has_put_same hD hk, Maps.atKey_put_same hD hk]
  rfl
theorem atM_put_other (D : DataW Value) {k k' : Lit} (hne : k' ≠ k) (d : DataW Value) : atM (D.put k d) k' = atM D k' := by
  unfold atM
  rw [Maps.has_put_other hne, Maps.atKey_put_other hne]
theorem atM_del_same (D : DataW Value) (k : Lit) : atM (D.del k) k = none := by
  unfold atM
  rw [Maps.has_del_same]
  rfl
theorem atM_del_other (D : DataW Value) {k k' : Lit} (hne : k' ≠ k) : atM (D.del k) k' = atM D k' := by
  unfold atM
  rw [Maps.has_del_other hne, Maps.atKey_del_other hne]
theorem atM_empty (k : Lit) : atM (.map []) k = none := by simp [atM, Maps.has]

section
variable {P : Program} {k : TypeId} {w : World} {b n : Nat} {D : DataW Value}

theorem atM_has (h : w.ownsMap P k rawE b n D) (K : Keyed P k) {t e : TypeId} (ht : P.underlying t = some (.map k e)) {z : Value} (hz : (zeroValue e).run P w = .ok z w) {key : Value} {kl : Lit} (hkey : keyOf P k key = some kl) : Maps.has D kl = (atM D kl).isSome ∧ (∀ z', D.atKey kl (.held z') = .held ((atM D kl).getD z')) := by
  obtain ⟨v, ps, _, hv⟩ := h.look_ok K ht hz (zd := .held z) (zp := []) rfl hkey
  unfold rawE at hv
  simp only [Option.some.injEq, Prod.mk.injEq] at hv
  unfold atM
  cases hh : Maps.has D kl with
  | false =>
    refine ⟨by simp, fun z' => ?_⟩
    rw [Maps.atKey_of_not_has hh]
    simp
  | true =>
    have e : ∀ d, D.atKey kl d = .held v := fun d => by rw [atKey_has hh d (.held z)]; exact hv.1.symm
    simp [e]

/-- 'm[k]' -/
theorem own_look (h : w.ownsMap P k rawE b n D) (K : Keyed P k) {t e : TypeId} (ht : P.underlying t = some (.map k e)) {z : Value} (hz : (zeroValue e).run P w = .ok z w) {key : Value} {kl : Lit} (hkey : keyOf P k key = some kl) :
    (Instr.lookup t (.map (some b)) key false).run P w = .ok ((atM D kl).getD z) w := by
  obtain ⟨v, ps, hr, hv⟩ := h.lookup K ht hz (zd := .held z) (zp := []) rfl hkey
  unfold rawE at hv
  simp only [Option.some.injEq, Prod.mk.injEq] at hv
  have := (atM_has h K ht hz hkey).2 z
  rw [this] at hv
  simp only [DataW.held.injEq] at hv
  rw [← hv.1]
  exact hr
/-- 'v, ok := m[k]' -/
theorem own_look_ok (h : w.ownsMap P k rawE b n D) (K : Keyed P k) {t e : TypeId} (ht : P.underlying t = some (.map k e)) {z : Value} (hz : (zeroValue e).run P w = .ok z w) {key : Value} {kl : Lit} (hkey : keyOf P k key = some kl) :
    (Instr.lookup t (.map (some b)) key true).run P w = .ok (.tuple #[(atM D kl).getD z, .bool (atM D kl).isSome]) w := by
  obtain ⟨v, ps, hr, hv⟩ := h.look_ok K ht hz (zd := .held z) (zp := []) rfl hkey
  unfold rawE at hv
  simp only [Option.some.injEq, Prod.mk.injEq] at hv
  obtain ⟨h1, h2⟩ := atM_has h K ht hz hkey
  rw [h2 z] at hv
  simp only [DataW.held.injEq] at hv
  rw [← hv.1, ← h1]
  exact hr
end

section
variable {P : Program} (w : World) {ops : Array Oper} {rest : List Oper} {o : Oper} {a : Act} {Q : Exit → Act → World → Prop}

theorem wpList_look1 (hg : o.guard = none) (m x : Operand) (t : TypeId) (hop : o.op = Op.lookup t m x false)
    (k e : TypeId) (K : Keyed P k) (ht : P.underlying t = some (.map k e)) {z : Value} (hz : (zeroValue e).run P w = .ok z w) (b n : Nat) (D : DataW Value)
    (hm : a.eval m = .map (some b)) (hown : w.ownsMap P k rawE b n D) (key : Value) (kl : Lit) (hx : a.eval x = key) (hkey : keyOf P k key = some kl)
    (hK : wpList P ops Q rest (a.put o.dst ((atM D kl).getD z)) w) :
    wpList P ops Q (o :: rest) a w := by
  refine wpList_plain hg fun K' hK' => ?_
  have hrun := own_look hown K ht hz hkey
  unfold Oper.wp
  simp [execOp, hop, hm, hx, hrun, Result.andThen]
  exact hK' _ _ hK

theorem wpList_look2 (hg : o.guard = none) (m x : Operand) (t : TypeId) (hop : o.op = Op.lookup t m x true)
    (k e : TypeId) (K : Keyed P k) (ht : P.underlying t = some (.map k e)) {z : Value} (hz : (zeroValue e).run P w = .ok z w) (b n : Nat) (D : DataW Value)
    (hm : a.eval m = .map (some b)) (hown : w.ownsMap P k rawE b n D) (key : Value) (kl : Lit) (hx : a.eval x = key) (hkey : keyOf P k key = some kl)
    (hK : wpList P ops Q rest (a.put o.dst (.tuple #[(atM D kl).getD z, .bool (atM D kl).isSome])) w) :
    wpList P ops Q (o :: rest) a w := by
  refine wpList_plain hg fun K' hK' => ?_
  have hrun := own_look_ok hown K ht hz hkey
  unfold Oper.wp
  simp [execOp, hop, hm, hx, hrun, Result.andThen]
  exact hK' _ _ hK

/-- 'm[k] = v' -/
theorem wpList_store (hg : o.guard = none) (m x v : Operand) (t : TypeId) (hop : o.op = Op.mapUpdate t m x v)
    (k e : TypeId) (K : Keyed P k) (ht : P.underlying t = some (.map k e)) (b n : Nat) (D : DataW Value)
    (hm : a.eval m = .map (some b)) (hown : w.ownsMap P k rawE b n D) (hn : n < maxLen) (key val : Value) (kl : Lit) (hx : a.eval x = key) (hv : a.eval v = val) (hkey : keyOf P k key = some kl)
    (hK : ∀ w', w'.ownsMap P k rawE b (n + 1) (D.put kl (.held val)) → Touch [b] w w' → wpList P ops Q rest (a.put o.dst undef) w') :
    wpList P ops Q (o :: rest) a w :=
  wpList_mapUpdate_own w hg m x v t hop k e K ht rawE b n D hm hown hn key val kl hx hv hkey (.held val) [] rfl (fun w' h1 h2 => hK w' h1 (Touch.of_grown h2))

/-- the step of a range over a map with keys of an integer kind -/
theorem wpList_step (hg : o.guard = none) (it : Operand) (hop : o.op = Op.next it false) (k : TypeId) (q : IntKind) (K : Keyed P k) (hk : P.underlying k = some (.int q)) (b r n : Nat) (D : DataW Value) (left : Lit → Bool) (cnt : Nat)
    (hit : a.eval it = .pointer (some ⟨r, 0, none⟩)) (h : w.ranges P k rawE b r n D left cnt)
    (hDone : cnt = 0 → (∀ kl, left kl = false) → wpList P ops Q rest (a.put o.dst (.tuple #[.bool false])) w)
    (hMore : ∀ (x : Int) (v : Value) (w' : World) (cnt' : Nat), (Lit.int q x).wf = true → left (.int q x) = true → (∀ zd, D.atKey (.int q x) zd = .held v) → w'.ranges P k rawE b r n D (fun z => left z && !z.sameKey (.int q x)) cnt' → cnt' < cnt →
      w.grownBy w' (some r) → w'.heap.size = w.heap.size → (Instr.entry (.pointer (some ⟨r, 0, none⟩))).run P w' = .ok (.tuple #[.int q x, v]) w' → wpList P ops Q rest (a.put o.dst (.tuple #[.bool true, .int q x, v])) w') :
    wpList P ops Q (o :: rest) a w :=
  wpList_next_ranges w hg it hop k K rawE (Value.int q) (fun v => v) (fun key kl hkey => by obtain ⟨x, rfl, _⟩ := Maps.keyOf_int_inv hk hkey; exact ⟨x, rfl⟩) (fun v _ _ => ⟨v, rfl⟩)
    b r n D left cnt hit h hDone (fun x c kl y w' cnt' hkey hlk hv hat hrg hlt hgr hsz hen => by
      obtain ⟨x', ex, rfl, hwx⟩ := Maps.keyOf_int_inv hk hkey
      cases ex
      unfold rawE at hv
      simp only [Option.some.injEq] at hv
      subst hv
      exact hMore x c w' cnt' hwx hlk hat hrg hlt hgr hsz hen)
end
end Go.Proofs.YtonjphollmdicaaGreatDoor
namespace Go.Proofs.YtonjphollmdicaaGreatDoor
open Go.ChangeShapes Go.WideShapes Go.ChangeAt Go.RowKit

section
variable {P : Program} {md : Region.Mode} {ops : Array Oper} {Q : Exit → Act → World → Prop} {S : World → Prop}
/-- number i, which writes slot d, is taken first: it is wanted -/
theorem take_yes {i : Nat} {d : Option Tmp} {v : Value} {fuel : Nat} {listed : Array Bool} {a : Act} {w : World} (hd : (ops[i]?).map (fun o => o.dst) = some d)
    (hs : Region.noSelect ops = true) (hf : Region.free md ops listed i = true) (hr : (Region.ready md ops listed).contains i = true)
    (hw : ((ops[i]?).map (fun o => Region.wanted o (yielded ops a.tmps))) = some true)
    (hQ : ∀ c a w, Q (.panic c) (a.put d v) w → Q (.panic c) a w) (hy : ∀ w, S w → ((ops[i]?).map fun o => (execOp a.eval o).run P w) = some (.ok (.value v) w)) (hS : S w)
    (h : wpAnyH P md ops Q S fuel (listed.setIfInBounds i true) (a.put d v) w) : wpAnyH P md ops Q S (fuel + 1) listed a w := by
  cases ho : ops[i]? with
  | none => rw [ho] at hd; cases hd
  | some o =>
    rw [ho] at hd hw hy
    simp only [Option.map_some, Option.some.injEq] at hd hw hy
    subst hd
    exact wpAnyH_take ho hs hf hr hQ (Or.inl ⟨hw, hy⟩) hS h
theorem take_yes' {i : Nat} {d : Option Tmp} {v : Value} {fuel : Nat} {listed listed' : Array Bool} {a a' : Act} {w : World} (hd : (ops[i]?).map (fun o => o.dst) = some d)
    (hs : Region.noSelect ops = true) (hf : Region.free md ops listed i = true) (hr : (Region.ready md ops listed).contains i = true)
    (hw : ((ops[i]?).map (fun o => Region.wanted o (yielded ops a.tmps))) = some true)
    (hQ : ∀ c a w, Q (.panic c) (a.put d v) w → Q (.panic c) a w) (hy : ∀ w, S w → ((ops[i]?).map fun o => (execOp a.eval o).run P w) = some (.ok (.value v) w)) (hS : S w)
    (hl : listed.setIfInBounds i true = listed') (ha : a.put d v = a') (h : wpAnyH P md ops Q S fuel listed' a' w) : wpAnyH P md ops Q S (fuel + 1) listed a w := by
  subst hl ha
  exact take_yes hd hs hf hr hw hQ hy hS h
/-- .. its guard says no -/
theorem take_no {i : Nat} {d : Option Tmp} {fuel : Nat} {listed : Array Bool} {a : Act} {w : World} (hd : (ops[i]?).map (fun o => o.dst) = some d)
    (hs : Region.noSelect ops = true) (hf : Region.free md ops listed i = true) (hr : (Region.ready md ops listed).contains i = true)
    (hw : ((ops[i]?).map (fun o => Region.wanted o (yielded ops a.tmps))) = some false)
    (hQ : ∀ c a w, Q (.panic c) (a.put d undef) w → Q (.panic c) a w) (hS : S w)
    (h : wpAnyH P md ops Q S fuel (listed.setIfInBounds i true) (a.put d undef) w) : wpAnyH P md ops Q S (fuel + 1) listed a w := by
  cases ho : ops[i]? with
  | none => rw [ho] at hd; cases hd
  | some o =>
    rw [ho] at hd hw
    simp only [Option.map_some, Option.some.injEq] at hd hw
    subst hd
    exact wpAnyH_take ho hs hf hr hQ (Or.inr ⟨hw, rfl⟩) hS h
theorem take_no' {i : Nat} {d : Option Tmp} {fuel : Nat} {listed listed' : Array Bool} {a a' : Act} {w : World} (hd : (ops[i]?).map (fun o => o.dst) = some d)
    (hs : Region.noSelect ops = true) (hf : Region.free md ops listed i = true) (hr : (Region.ready md ops listed).contains i = true)
    (hw : ((ops[i]?).map (fun o => Region.wanted o (yielded ops a.tmps))) = some false)
    (hQ : ∀ c a w, Q (.panic c) (a.put d undef) w → Q (.panic c) a w) (hS : S w)
    (hl : listed.setIfInBounds i true = listed') (ha : a.put d undef = a') (h : wpAnyH P md ops Q S fuel listed' a' w) : wpAnyH P md ops Q S (fuel + 1) listed a w := by
  subst hl ha
  exact take_no hd hs hf hr hw hQ hS h
/-- the same, shorter to write -/
theorem tY (i d : Nat) {fuel : Nat} {listed listed' : Array Bool} {a : Act} {w : World} (v : Value) (a' : Act) (hd : (ops[i]?).map (fun o => o.dst) = some (some d))
    (hk : (Region.noSelect ops && Region.free md ops listed i && (Region.ready md ops listed).contains i) = true)
    (hw : ((ops[i]?).map (fun o => Region.wanted o (yielded ops a.tmps))) = some true)
    (hQ : ∀ c a w, Q (.panic c) (a.put (some d) v) w → Q (.panic c) a w) (hy : ∀ w, S w → ((ops[i]?).map fun o => (execOp a.eval o).run P w) = some (.ok (.value v) w)) (hS : S w)
    (hl : listed.setIfInBounds i true = listed') (ha : a.put (some d) v = a') (h : wpAnyH P md ops Q S fuel listed' a' w) : wpAnyH P md ops Q S (fuel + 1) listed a w := by
  simp only [Bool.and_eq_true] at hk
  exact take_yes' hd hk.1.1 hk.1.2 hk.2 hw hQ hy hS hl ha h
theorem tN (i d : Nat) {fuel : Nat} {listed listed' : Array Bool} {a : Act} {w : World} (a' : Act) (hd : (ops[i]?).map (fun o => o.dst) = some (some d))
    (hk : (Region.noSelect ops && Region.free md ops listed i && (Region.ready md ops listed).contains i) = true)
    (hw : ((ops[i]?).map (fun o => Region.wanted o (yielded ops a.tmps))) = some false)
    (hQ : ∀ c a w, Q (.panic c) (a.put (some d) undef) w → Q (.panic c) a w) (hS : S w)
    (hl : listed.setIfInBounds i true = listed') (ha : a.put (some d) undef = a') (h : wpAnyH P md ops Q S fuel listed' a' w) : wpAnyH P md ops Q S (fuel + 1) listed a w := by
  simp only [Bool.and_eq_true] at hk
  exact take_no' hd hk.1.1 hk.1.2 hk.2 hw hQ hS hl ha h
theorem gA {α : Type} {xs : List α} {i : Nat} : xs.toArray[i]? = xs[i]? := List.getElem?_toArray
theorem gB {α : Type} {x : α} {xs : List α} {i : Nat} : (x :: xs)[i + 1]? = xs[i]? := List.getElem?_cons_succ
theorem gC {α : Type} {x : α} {xs : List α} : (x :: xs)[0]? = some x := List.getElem?_cons_zero
theorem gD {α β : Type} {f : α → β} {x : α} : Option.map f (some x) = some (f x) := Option.map_some ..
theorem gE {α : Type} {x y : α} : (some x = some y) = (x = y) := Option.some.injEq ..
theorem sA {α : Type} {xs : List α} {i : Nat} {x : α} : xs.toArray.setIfInBounds i x = (xs.set i x).toArray := List.setIfInBounds_toArray ..
theorem sB {α : Type} {x y : α} {xs : List α} : (x :: xs).set 0 y = y :: xs := List.set_cons_zero ..
theorem sC {α : Type} {x y : α} {xs : List α} {n : Nat} : (x :: xs).set (n + 1) y = x :: xs.set n y := List.set_cons_succ ..
/-- number i alone may come up -/
theorem step_one {i : Nat} {fuel : Nat} {listed : Array Bool} {a : Act} {w : World} (hr : Region.ready md ops listed = [i])
    (h : ∀ (K' : Act → World → Prop) (o : Oper), ops[i]? = some o → Shut (∀ a w, S w → (S w → wpAnyH P md ops Q S fuel (listed.setIfInBounds i true) a w) → K' a w) → if Region.wanted o (yielded ops a.tmps) = true then Oper.wp P o a w K' Q else K' (a.put o.dst undef) w) : wpAnyH P md ops Q S (fuel + 1) listed a w := by
  refine wpAnyH_ready hr (by simp) ?_
  cases ho : ops[i]? with
  | none =>
    have : i ∈ Region.ready md ops listed := by rw [hr]; simp
    obtain ⟨_, o, h2, _⟩ := mem_ready.1 this
    rw [ho] at h2
    cases h2
  | some o => exact AllReadyH.cons ho (fun K hK => h K o ho hK) AllReadyH.nil
/-- one of two may come up -/
theorem step_two {i j : Nat} {fuel : Nat} {listed : Array Bool} {a : Act} {w : World} (hr : Region.ready md ops listed = [i, j])
    (h : ∀ (K' : Act → World → Prop) (o : Oper), ops[i]? = some o → Shut (∀ a w, S w → (S w → wpAnyH P md ops Q S fuel (listed.setIfInBounds i true) a w) → K' a w) → if Region.wanted o (yielded ops a.tmps) = true then Oper.wp P o a w K' Q else K' (a.put o.dst undef) w)
    (h2 : ∀ (K' : Act → World → Prop) (o : Oper), ops[j]? = some o → Shut (∀ a w, S w → (S w → wpAnyH P md ops Q S fuel (listed.setIfInBounds j true) a w) → K' a w) → if Region.wanted o (yielded ops a.tmps) = true then Oper.wp P o a w K' Q else K' (a.put o.dst undef) w) : wpAnyH P md ops Q S (fuel + 1) listed a w := by
  refine wpAnyH_ready hr (by simp) ?_
  have key : ∀ i, i ∈ Region.ready md ops listed → ∃ o, ops[i]? = some o := fun i hi => by
    obtain ⟨_, o, h2, _⟩ := mem_ready.1 hi
    exact ⟨o, h2⟩
  obtain ⟨oi, hoi⟩ := key i (by rw [hr]; simp)
  obtain ⟨oj, hoj⟩ := key j (by rw [hr]; simp)
  exact AllReadyH.cons hoi (fun K hK => h K oi hoi hK) (AllReadyH.cons hoj (fun K hK => h2 K oj hoj hK) AllReadyH.nil)
end
end Go.Proofs.YtonjphollmdicaaGreatDoor
namespace Go.Proofs.YtonjphollmdicaaGreatDoor
open Go.ChangeShapes Go.WideShapes Go.ChangeAt Go.RowKit
open Go.Maps (Keyed IsMap Tidy)

section
variable {P : Program} (w : World) {o : Oper} {a : Act} {K : Act → World → Prop} {Q : Exit → Act → World → Prop}
theorem wp_append_at (s x : Operand) (t : TypeId) (ho : o.op = .call { callee := .builtin .append, args := #[s, x], argTypes := #[t, t] })
    (base : Nat) (e : TypeId) (i : TypeInfo) (z : Value) (size bytes : Nat) (ht : P.underlying t = some (.slice e)) (hi : P.info? e = some i) (hz : i.zero = some z)
    (hsize : i.size = size) (hby : i.bytes = bytes) (hzs : z.cells.size = size) (hsz : 0 < size)
    (v : Value) (n : Nat) (xs : List Value) (hs : a.eval s = v) (hown : w.ownsRow base e size v n xs)
    (ad : Addr) (m c : Nat) (news : List Value) (hx : a.eval x = .slice (some ad) m c) (hl : news.length = m * size) (hnews : ∀ j u, news[j]? = some u → w.cell? (ad.add j) = some u) (h1 : ∀ u ∈ news, u.oneCell' = true)
    (h63 : n + m ≤ maxLen) (hbytes : (n + m) * bytes ≤ 140737488355328) (hbase : base ≤ w.heap.size)
    (h : ∀ v' w', w'.ownsRow base e size v' (n + m) (xs ++ news) → w.grownBy w' v.ownBlock → (v'.ownBlock = v.ownBlock ∨ v'.ownBlock = some w.heap.size) → K (a.put o.dst v') w') : o.wp P a w K Q := by
  obtain ⟨v', w', hr, h2, h3, _, h5⟩ := run_append_own_at (P := P) w base t o.type e i z size bytes ht hi hz hsize hby hzs hsz v n xs hown ad m c news hl hnews h1 h63 hbytes hbase
  unfold Oper.wp execOp
  simp only [ho, resolve, invoke, builtin, Sem.run_bind, Sem.run_pure, Result.andThen_ok, List.map_toArray, List.map_cons, List.map_nil, hs, hx, hr]
  exact h v' w' h2 h3 h5

theorem wp_mapUpdate (m x v : Operand) (t : TypeId) (hop : o.op = Op.mapUpdate t m x v)
    (k e : TypeId) (L : Keyed P k) (ht : P.underlying t = some (.map k e)) (b n : Nat) (D : DataW Value)
    (hm : a.eval m = .map (some b)) (hown : w.ownsMap P k rawE b n D) (hn : n < maxLen) (key val : Value) (kl : Lit) (hx : a.eval x = key) (hv : a.eval v = val) (hkey : keyOf P k key = some kl)
    (hK : ∀ w', w'.ownsMap P k rawE b (n + 1) (D.put kl (.held val)) → Touch [b] w w' → K (a.put o.dst undef) w') : o.wp P a w K Q := by
  obtain ⟨w', hrun, r1, r2⟩ := hown.update L ht hn hkey (rfl : rawE val = some (.held val, []))
  unfold Oper.wp
  simp [execOp, hop, hm, hx, hv, hrun, Result.andThen]
  exact hK w' r1 (Touch.of_grown r2)
end

/-- the block of a slice, as a list -/
def blkL (v : Value) : List Nat := match v.ownBlock with | some k => [k] | none => []
theorem blkL_mem {v : Value} {k : Nat} : k ∈ blkL v ↔ v.ownBlock = some k := by
  unfold blkL
  cases v.ownBlock with
  | none => simp
  | some j => simp [eq_comm]
theorem Touch.of_row {a b : World} {v : Value} (h : a.grownBy b v.ownBlock) : Touch (blkL v) a b := ⟨h.os, h.tape, h.output, h.size, fun i hi hL => h.block i hi (fun e => hL (blkL_mem.2 e.symm))⟩
end Go.Proofs.YtonjphollmdicaaGreatDoor
