import Derived.Test.YtonjphollmdicaaGreatDoorB00
import Derived.Maps.OwnSet
import Derived.Maps.RangeWalk
import Derived.Deep.RegionHeld
import Derived.Deep.RegionHeld3
import Derived.Maps.AppendAt
set_option maxRecDepth 100000
set_option maxHeartbeats 4000000
set_option linter.unusedSimpArgs false
namespace Go.Proofs.YtonjphollmdicaaGreatDoor
open Go.ChangeShapes Go.WideShapes Go.ChangeAt Go.RowKit
structure Touch (L : List Nat) (w w' : World) : Prop where
 os : w'.os = w.os
 tape : w'.tape = w.tape
 output : w'.output = w.output
 size : w.heap.size ≤ w'.heap.size
 block : ∀ k, k < w.heap.size → k ∉ L → w'.heap[k]? = w.heap[k]?
theorem Touch.refl (L : List Nat) (w : World) : Touch L w w := ⟨rfl, rfl, rfl, Nat.le_refl _, fun _ _ _ => rfl⟩
theorem Touch.trans {L : List Nat} {a b c : World} (h : Touch L a b) (k : Touch L b c) : Touch L a c :=
 ⟨k.os.trans h.os, k.tape.trans h.tape, k.output.trans h.output, Nat.le_trans h.size k.size, fun i hi hL => (k.block i (Nat.lt_of_lt_of_le hi h.size) hL).trans (h.block i hi hL)⟩
theorem Touch.mono {L M : List Nat} {a b : World} (h : Touch L a b) (hs : ∀ x ∈ L, x ∈ M) : Touch M a b := ⟨h.os, h.tape, h.output, h.size, fun i hi hM => h.block i hi (fun e => hM (hs i e))⟩
theorem Touch.andThen {L M : List Nat} {a b c : World} (h : Touch L a b) (k : Touch M b c) (hs : ∀ x ∈ M, x ∈ L ∨ a.heap.size ≤ x) : Touch L a c :=
 ⟨k.os.trans h.os, k.tape.trans h.tape, k.output.trans h.output, Nat.le_trans h.size k.size, fun i hi hL => (k.block i (Nat.lt_of_lt_of_le hi h.size) (fun e => by rcases hs i e with h1 | h1; exact hL h1; omega)).trans (h.block i hi hL)⟩
theorem Touch.below {L : List Nat} {a b : World} (h : Touch L a b) {B : Nat} (hB : B ≤ a.heap.size) (hs : ∀ x ∈ L, B ≤ x) : Below B a b := ⟨h.os, h.tape, h.output, h.size, fun i hi => h.block i (by omega) (fun e => by have := hs i e; omega)⟩
theorem Touch.of_below {a b : World} (h : Below a.heap.size a b) (L : List Nat) : Touch L a b := ⟨h.os, h.tape, h.output, h.size, fun i hi _ => h.block i hi⟩
theorem Touch.of_grown {a b : World} {r : Nat} (h : a.grownBy b (some r)) : Touch [r] a b := ⟨h.os, h.tape, h.output, h.size, fun i hi hL => h.block i hi (by simpa using hL)⟩
theorem Touch.grown {a b : World} {r : Nat} (h : Touch [r] a b) : a.grownBy b (some r) := ⟨h.os, h.tape, h.output, h.size, fun i hi hL => h.block i hi (by simpa using hL)⟩
theorem Touch.grown_none {a b : World} (h : Touch [] a b) : a.grownBy b none := ⟨h.os, h.tape, h.output, h.size, fun i hi _ => h.block i hi (by simp)⟩
theorem Touch.alloc {L : List Nat} {a b : World} (h : Touch L a b) (o : Obj) : Touch L a (b.alloc o) := h.andThen (Touch.of_below ((Below.refl _ _).alloc (Nat.le_refl _) o) []) (by simp)
theorem Touch.drew {L : List Nat} {a b : World} (h : Touch L a b) : Touch L a b.drew := ⟨h.os, h.tape, h.output, h.size, h.block⟩
theorem Touch.setCell {L : List Nat} {a b : World} (h : Touch L a b) {x : Addr} (hx : x.block ∈ L ∨ a.heap.size ≤ x.block) (v : Value) : Touch L a (b.setCell x v) := by
 have h1 : Below x.block b (b.setCell x v) := (Below.refl _ _).setCell (Nat.le_refl _) v
 refine ⟨h1.os.trans h.os, h1.tape.trans h.tape, h1.output.trans h.output, Nat.le_trans h.size h1.size, fun i hi hL => ?_⟩
 rw [RowKit.Below.heap_setCell _ _ _ _ (fun e => by subst e; rcases hx with h1 | h1; exact hL h1; omega)]
 exact h.block i hi hL
theorem Touch.cell {L : List Nat} {a b : World} (h : Touch L a b) {x : Addr} (hlt : x.block < a.heap.size) (hL : x.block ∉ L) : b.cell? x = a.cell? x := World.cell?_of_block (w := a) (h.block _ hlt hL)
theorem Touch.frozen {L : List Nat} {a b : World} (h : Touch L a b) {x : Addr} (hlt : x.block < a.heap.size) (hL : x.block ∉ L) : b.frozen? x = a.frozen? x := World.frozen?_of_block (w := a) (h.block _ hlt hL)
theorem Touch.row {L : List Nat} {a W W' : World} (h : Touch L a W) {base : Nat} {e : TypeId} {sz : Nat} {v : Value} {n : Nat} {xs : List Value} (ho : W.ownsRow base e sz v n xs) (hb : a.heap.size ≤ base) (hg : W.grownBy W' v.ownBlock) : Touch L a W' :=
 ⟨hg.os.trans h.os, hg.tape.trans h.tape, hg.output.trans h.output, Nat.le_trans h.size hg.size, fun i hi hL => by
  rw [hg.block i (Nat.lt_of_lt_of_le hi h.size) (fun e => by have := (ho.lt i e.symm).1; omega)]
  exact h.block i hi hL⟩
theorem Ac {w w' : World} {base : Nat} {e : TypeId} {sz : Nat} {v : Value} {n : Nat} {xs : List Value} (h : w.ownsRow base e sz v n xs) {L : List Nat} (ht : Touch L w w') (hL : ∀ x ∈ L, x < base) : w'.ownsRow base e sz v n xs := by
 refine ⟨h.1, ?_⟩
 rcases h.2 with h1 | ⟨g, cap, cur, h1, hb, hg, h2⟩
 ·exact .inl h1
 ·exact .inr ⟨g, cap, cur, h1, hb, by rw [ht.block g (Array.getElem?_eq_some_iff.1 hg).1 (fun e => by have := hL g e; omega)]; exact hg, h2⟩
theorem AQ {w w' : World} {base : Nat} {e : TypeId} {sz : Nat} {v : Value} {n : Nat} {xs : List Value} (h : w.ownsRow base e sz v n xs) {L : List Nat} (ht : Touch L w w') (hL : ∀ k, v.ownBlock = some k → k ∉ L) : w'.ownsRow base e sz v n xs := by
 refine ⟨h.1, ?_⟩
 rcases h.2 with h1 | ⟨g, cap, cur, rfl, hb, hg, h2⟩
 ·exact .inl h1
 ·exact .inr ⟨g, cap, cur, rfl, hb, by rw [ht.block g (Array.getElem?_eq_some_iff.1 hg).1 (hL g rfl)]; exact hg, h2⟩
def Blk (w : World) (B : Nat) (vs : List Value) : Prop := ∀ k u, vs[k]? = some u → w.cell? ⟨B, k, none⟩ = some u ∧ w.frozen? ⟨B, k, none⟩ = false
theorem Blk.lt {w : World} {B : Nat} {vs : List Value} (h : Blk w B vs) (h0 : 0 < vs.length) : B < w.heap.size := World.block_lt_of_cell? w _ (h 0 vs[0] (by simp)).1
theorem Blk.touch {w w' : World} {B : Nat} {vs : List Value} (h : Blk w B vs) {L : List Nat} (ht : Touch L w w') (hL : B ∉ L) : Blk w' B vs := fun k u hk => by
 have h1 := h k u hk
 have hlt : B < w.heap.size := World.block_lt_of_cell? w _ h1.1
 exact ⟨by rw [ht.cell (x := ⟨B, k, none⟩) hlt hL]; exact h1.1, by rw [ht.frozen (x := ⟨B, k, none⟩) hlt hL]; exact h1.2⟩
theorem Blk.alloc {w : World} {B : Nat} {vs : List Value} (h : Blk w B vs) (o : Obj) : Blk (w.alloc o) B vs := h.touch ((Touch.refl [] _).alloc o) (by simp)
theorem Blk.drew {w : World} {B : Nat} {vs : List Value} (h : Blk w B vs) : Blk w.drew B vs := h.touch ((Touch.refl [] _).drew) (by simp)
theorem Blk.new (w : World) (cs : Array Value) (t : TypeId) : Blk (w.alloc (.cells cs t)) w.heap.size cs.toList := fun k u hk => by
 rw [Array.getElem?_toList] at hk
 exact ⟨by simp [hk], by simp⟩
theorem Blk.set {w : World} {B : Nat} {vs : List Value} (h : Blk w B vs) (k : Nat) (v : Value) : Blk (w.setCell ⟨B, k, none⟩ v) B (vs.set k v) := fun j u hj => by
 rw [List.getElem?_set] at hj
 by_cases c : k = j
 ·subst c
  rw [if_pos rfl] at hj
  split at hj
  ·rename_i hlt
   cases hj
   have h1 := h k vs[k] (by simp [hlt])
   exact ⟨World.cell?_setCell_same _ _ _ h1.1, by rw [World.frozen?_setCell]; exact h1.2⟩
  ·cases hj
 ·rw [if_neg c] at hj
  have h1 := h j u hj
  exact ⟨by rw [World.cell?_setCell_other _ _ _ _ (by simp)]; exact h1.1, by rw [World.frozen?_setCell]; exact h1.2⟩
theorem Blk.set_other {w : World} {B : Nat} {vs : List Value} (h : Blk w B vs) {a : Addr} (ha : a.block ≠ B) (v : Value) : Blk (w.setCell a v) B vs := fun j u hj => by
 have h1 := h j u hj
 exact ⟨by rw [World.cell?_setCell_other _ _ _ _ (fun e => ha (by rw [e]))]; exact h1.1, by rw [World.frozen?_setCell]; exact h1.2⟩
open Go.Maps (Keyed IsMap Tidy)
def CK : Value → Option (DataW Value × List MemPlace) := fun v => some (.held v, [])
def atM (D : DataW Value) (kl : Lit) : Option Value := if Maps.has D kl then (match D.atKey kl .nil with | .held v => some v | _ => none) else none
theorem Qw {D : DataW Value} {kl : Lit} (h : Maps.has D kl = true) (z z' : DataW Value) : D.atKey kl z = D.atKey kl z' := by
 cases D with
 | map es =>
  rw [Maps.has_eq] at h
  obtain ⟨p, hp, hk⟩ := List.any_eq_true.1 h
  simp only [DataW.atKey]
  cases hf : es.find? (fun p => p.1.sameKey kl) with
  | none => exact absurd hk (by simpa using List.find?_eq_none.1 hf p hp)
  | some q => simp
 | _ => simp [Maps.has] at h
theorem Ej {D : DataW Value} (hD : IsMap D) {k : Lit} (hk : WideAt.IsKeyLit k) (v : Value) : atM (D.put k (.held v)) k = some v := by
 unfold atM
 rw [Maps.has_put_same hD hk, Maps.atKey_put_same hD hk]
 rfl
theorem Dg (D : DataW Value) {k k' : Lit} (hne : k' ≠ k) (d : DataW Value) : atM (D.put k d) k' = atM D k' := by
 unfold atM
 rw [Maps.has_put_other hne, Maps.atKey_put_other hne]
theorem K0 (D : DataW Value) (k : Lit) : atM (D.del k) k = none := by
 unfold atM
 rw [Maps.has_del_same]
 rfl
theorem Ky (D : DataW Value) {k k' : Lit} (hne : k' ≠ k) : atM (D.del k) k' = atM D k' := by
 unfold atM
 rw [Maps.has_del_other hne, Maps.atKey_del_other hne]
theorem EE (k : Lit) : atM (.map []) k = none := by simp [atM, Maps.has]
section
variable {P : Program} {k : TypeId} {w : World} {b n : Nat} {D : DataW Value}
theorem GO (h : w.ownsMap P k CK b n D) (K : Keyed P k) {t e : TypeId} (ht : P.underlying t = some (.map k e)) {z : Value} (hz : (zeroValue e).run P w = .ok z w) {key : Value} {kl : Lit} (hkey : keyOf P k key = some kl) : Maps.has D kl = (atM D kl).isSome ∧ (∀ z', D.atKey kl (.held z') = .held ((atM D kl).getD z')) := by
 obtain ⟨v, ps, _, hv⟩ := h.look_ok K ht hz (zd := .held z) (zp := []) rfl hkey
 unfold CK at hv
 simp only [Option.some.injEq, Prod.mk.injEq] at hv
 unfold atM
 cases hh : Maps.has D kl with
 | false =>
  refine ⟨by simp, fun z' => ?_⟩
  rw [Maps.atKey_of_not_has hh]
  simp
 | true =>
  have e : ∀ d, D.atKey kl d = .held v := fun d => by rw [Qw hh d (.held z)]; exact hv.1.symm
  simp [e]
theorem FJ (h : w.ownsMap P k CK b n D) (K : Keyed P k) {t e : TypeId} (ht : P.underlying t = some (.map k e)) {z : Value} (hz : (zeroValue e).run P w = .ok z w) {key : Value} {kl : Lit} (hkey : keyOf P k key = some kl) :
  (Instr.lookup t (.map (some b)) key false).run P w = .ok ((atM D kl).getD z) w := by
 obtain ⟨v, ps, hr, hv⟩ := h.lookup K ht hz (zd := .held z) (zp := []) rfl hkey
 unfold CK at hv
 simp only [Option.some.injEq, Prod.mk.injEq] at hv
 have := (GO h K ht hz hkey).2 z
 rw [this] at hv
 simp only [DataW.held.injEq] at hv
 rw [← hv.1]
 exact hr
theorem EN (h : w.ownsMap P k CK b n D) (K : Keyed P k) {t e : TypeId} (ht : P.underlying t = some (.map k e)) {z : Value} (hz : (zeroValue e).run P w = .ok z w) {key : Value} {kl : Lit} (hkey : keyOf P k key = some kl) :
  (Instr.lookup t (.map (some b)) key true).run P w = .ok (.tuple #[(atM D kl).getD z, .bool (atM D kl).isSome]) w := by
 obtain ⟨v, ps, hr, hv⟩ := h.look_ok K ht hz (zd := .held z) (zp := []) rfl hkey
 unfold CK at hv
 simp only [Option.some.injEq, Prod.mk.injEq] at hv
 obtain ⟨h1, h2⟩ := GO h K ht hz hkey
 rw [h2 z] at hv
 simp only [DataW.held.injEq] at hv
 rw [← hv.1, ← h1]
 exact hr
end
section
variable {P : Program} (w : World) {ops : Array Oper} {rest : List Oper} {o : Oper} {a : Act} {Q : Exit → Act → World → Prop}
theorem Dy (hg : o.guard = none) (m x v : Operand) (t : TypeId) (hop : o.op = Op.mapUpdate t m x v)
  (k e : TypeId) (K : Keyed P k) (ht : P.underlying t = some (.map k e)) (b n : Nat) (D : DataW Value)
  (hm : a.eval m = .map (some b)) (hown : w.ownsMap P k CK b n D) (hn : n < maxLen) (key val : Value) (kl : Lit) (hx : a.eval x = key) (hv : a.eval v = val) (hkey : keyOf P k key = some kl)
  (hK : ∀ w', w'.ownsMap P k CK b (n + 1) (D.put kl (.held val)) → Touch [b] w w' → wpList P ops Q rest (a.put o.dst undef) w') :
  wpList P ops Q (o :: rest) a w :=
 wpList_mapUpdate_own w hg m x v t hop k e K ht CK b n D hm hown hn key val kl hx hv hkey (.held val) [] rfl (fun w' h1 h2 => hK w' h1 (Touch.of_grown h2))
theorem Gd (hg : o.guard = none) (it : Operand) (hop : o.op = Op.next it false) (k : TypeId) (q : IntKind) (K : Keyed P k) (hk : P.underlying k = some (.int q)) (b r n : Nat) (D : DataW Value) (left : Lit → Bool) (cnt : Nat)
  (hit : a.eval it = .pointer (some ⟨r, 0, none⟩)) (h : w.ranges P k CK b r n D left cnt)
  (hDone : cnt = 0 → (∀ kl, left kl = false) → wpList P ops Q rest (a.put o.dst (.tuple #[.bool false])) w)
  (hMore : ∀ (x : Int) (v : Value) (w' : World) (cnt' : Nat), (Lit.int q x).wf = true → left (.int q x) = true → (∀ zd, D.atKey (.int q x) zd = .held v) → w'.ranges P k CK b r n D (fun z => left z && !z.sameKey (.int q x)) cnt' → cnt' < cnt →
   w.grownBy w' (some r) → w'.heap.size = w.heap.size → (Instr.entry (.pointer (some ⟨r, 0, none⟩))).run P w' = .ok (.tuple #[.int q x, v]) w' → wpList P ops Q rest (a.put o.dst (.tuple #[.bool true, .int q x, v])) w') :
  wpList P ops Q (o :: rest) a w :=
 wpList_next_ranges w hg it hop k K CK (Value.int q) (fun v => v) (fun key kl hkey => by obtain ⟨x, rfl, _⟩ := Maps.keyOf_int_inv hk hkey; exact ⟨x, rfl⟩) (fun v _ _ => ⟨v, rfl⟩)
  b r n D left cnt hit h hDone (fun x c kl y w' cnt' hkey hlk hv hat hrg hlt hgr hsz hen => by
   obtain ⟨x', ex, rfl, hwx⟩ := Maps.keyOf_int_inv hk hkey
   cases ex
   unfold CK at hv
   simp only [Option.some.injEq] at hv
   subst hv
   exact hMore x c w' cnt' hwx hlk hat hrg hlt hgr hsz hen)
end
end Go.Proofs.YtonjphollmdicaaGreatDoor
namespace Go.Proofs.YtonjphollmdicaaGreatDoor
open Go.ChangeShapes Go.WideShapes Go.ChangeAt Go.RowKit
section
variable {P : Program} {md : Region.Mode} {ops : Array Oper} {Q : Exit → Act → World → Prop} {S : World → Prop}
theorem Nt {i : Nat} {d : Option Tmp} {v : Value} {fuel : Nat} {listed : Array Bool} {a : Act} {w : World} (hd : (ops[i]?).map (fun o => o.dst) = some d)
  (hs : Region.noSelect ops = true) (hf : Region.free md ops listed i = true) (hr : (Region.ready md ops listed).contains i = true)
  (hw : ((ops[i]?).map (fun o => Region.wanted o (yielded ops a.tmps))) = some true)
  (hQ : ∀ c a w, Q (.panic c) (a.put d v) w → Q (.panic c) a w) (hy : ∀ w, S w → ((ops[i]?).map fun o => (execOp a.eval o).run P w) = some (.ok (.value v) w)) (hS : S w)
  (h : wpAnyH P md ops Q S fuel (listed.setIfInBounds i true) (a.put d v) w) : wpAnyH P md ops Q S (fuel + 1) listed a w := by
 cases ho : ops[i]? with
 | none => rw [ho] at hd; cases hd
 | some o =>
  rw [ho] at hd hw hy
  simp only [Option.map_some, Option.some.injEq] at hd hw hy
  subst hd
  exact wpAnyH_take ho hs hf hr hQ (Or.inl ⟨hw, hy⟩) hS h
theorem Pj {i : Nat} {d : Option Tmp} {v : Value} {fuel : Nat} {listed listed' : Array Bool} {a a' : Act} {w : World} (hd : (ops[i]?).map (fun o => o.dst) = some d)
  (hs : Region.noSelect ops = true) (hf : Region.free md ops listed i = true) (hr : (Region.ready md ops listed).contains i = true)
  (hw : ((ops[i]?).map (fun o => Region.wanted o (yielded ops a.tmps))) = some true)
  (hQ : ∀ c a w, Q (.panic c) (a.put d v) w → Q (.panic c) a w) (hy : ∀ w, S w → ((ops[i]?).map fun o => (execOp a.eval o).run P w) = some (.ok (.value v) w)) (hS : S w)
  (hl : listed.setIfInBounds i true = listed') (ha : a.put d v = a') (h : wpAnyH P md ops Q S fuel listed' a' w) : wpAnyH P md ops Q S (fuel + 1) listed a w := by
 subst hl ha
 exact Nt hd hs hf hr hw hQ hy hS h
theorem RP {i : Nat} {d : Option Tmp} {fuel : Nat} {listed : Array Bool} {a : Act} {w : World} (hd : (ops[i]?).map (fun o => o.dst) = some d)
  (hs : Region.noSelect ops = true) (hf : Region.free md ops listed i = true) (hr : (Region.ready md ops listed).contains i = true)
  (hw : ((ops[i]?).map (fun o => Region.wanted o (yielded ops a.tmps))) = some false)
  (hQ : ∀ c a w, Q (.panic c) (a.put d undef) w → Q (.panic c) a w) (hS : S w)
  (h : wpAnyH P md ops Q S fuel (listed.setIfInBounds i true) (a.put d undef) w) : wpAnyH P md ops Q S (fuel + 1) listed a w := by
 cases ho : ops[i]? with
 | none => rw [ho] at hd; cases hd
 | some o =>
  rw [ho] at hd hw
  simp only [Option.map_some, Option.some.injEq] at hd hw
  subst hd
  exact wpAnyH_take ho hs hf hr hQ (Or.inr ⟨hw, rfl⟩) hS h
theorem QP {i : Nat} {d : Option Tmp} {fuel : Nat} {listed listed' : Array Bool} {a a' : Act} {w : World} (hd : (ops[i]?).map (fun o => o.dst) = some d)
  (hs : Region.noSelect ops = true) (hf : Region.free md ops listed i = true) (hr : (Region.ready md ops listed).contains i = true)
  (hw : ((ops[i]?).map (fun o => Region.wanted o (yielded ops a.tmps))) = some false)
  (hQ : ∀ c a w, Q (.panic c) (a.put d undef) w → Q (.panic c) a w) (hS : S w)
  (hl : listed.setIfInBounds i true = listed') (ha : a.put d undef = a') (h : wpAnyH P md ops Q S fuel listed' a' w) : wpAnyH P md ops Q S (fuel + 1) listed a w := by
 subst hl ha
 exact RP hd hs hf hr hw hQ hS h
theorem gA {α : Type} {xs : List α} {i : Nat} : xs.toArray[i]? = xs[i]? := List.getElem?_toArray
theorem gB {α : Type} {x : α} {xs : List α} {i : Nat} : (x :: xs)[i + 1]? = xs[i]? := List.getElem?_cons_succ
theorem gC {α : Type} {x : α} {xs : List α} : (x :: xs)[0]? = some x := List.getElem?_cons_zero
theorem gD {α β : Type} {f : α → β} {x : α} : Option.map f (some x) = some (f x) := Option.map_some ..
theorem gE {α : Type} {x y : α} : (some x = some y) = (x = y) := Option.some.injEq ..
theorem sA {α : Type} {xs : List α} {i : Nat} {x : α} : xs.toArray.setIfInBounds i x = (xs.set i x).toArray := List.setIfInBounds_toArray ..
theorem sB {α : Type} {x y : α} {xs : List α} : (x :: xs).set 0 y = y :: xs := List.set_cons_zero ..
theorem sC {α : Type} {x y : α} {xs : List α} {n : Nat} : (x :: xs).set (n + 1) y = x :: xs.set n y := List.set_cons_succ ..
theorem tY (i d : Nat) {fuel : Nat} {listed listed' : Array Bool} {a : Act} {w : World} {v : Value} {a' : Act} (h : wpAnyH P md ops Q S fuel listed' a' w) (hd : (ops[i]?).map (fun o => o.dst) = some (some d) := by rfl)
  (hk : (Region.noSelect ops && Region.free md ops listed i && (Region.ready md ops listed).contains i) = true := by kernel_rfl)
  (hw : ((ops[i]?).map (fun o => Region.wanted o (yielded ops a.tmps))) = some true := by rfl)
  (hQ : ∀ c a w, Q (.panic c) (a.put (some d) v) w → Q (.panic c) a w := by exact fun _ _ _ h => h)
  (hy : ∀ w, S w → ((ops[i]?).map fun o => (execOp a.eval o).run P w) = some (.ok (.value v) w) := by (intro w hSw; (try dsimp only at hSw); simp only [gA, gB, gC, gD, gE]; go_simp; (try with_reducible rfl))) (hS : S w := by assumption)
  (hl : listed.setIfInBounds i true = listed' := by rfl) (ha : a.put (some d) v = a' := by (simp only [Act.put, sA, sB, sC]; try rfl)) : wpAnyH P md ops Q S (fuel + 1) listed a w := by
 simp only [Bool.and_eq_true] at hk
 exact Pj hd hk.1.1 hk.1.2 hk.2 hw hQ hy hS hl ha h
theorem tN (i d : Nat) {fuel : Nat} {listed listed' : Array Bool} {a : Act} {w : World} {a' : Act} (h : wpAnyH P md ops Q S fuel listed' a' w) (hd : (ops[i]?).map (fun o => o.dst) = some (some d) := by rfl)
  (hk : (Region.noSelect ops && Region.free md ops listed i && (Region.ready md ops listed).contains i) = true := by kernel_rfl)
  (hw : ((ops[i]?).map (fun o => Region.wanted o (yielded ops a.tmps))) = some false := by rfl)
  (hQ : ∀ c a w, Q (.panic c) (a.put (some d) undef) w → Q (.panic c) a w := by exact fun _ _ _ h => h) (hS : S w := by assumption)
  (hl : listed.setIfInBounds i true = listed' := by rfl) (ha : a.put (some d) undef = a' := by (simp only [Act.put, sA, sB, sC]; try rfl)) : wpAnyH P md ops Q S (fuel + 1) listed a w := by
 simp only [Bool.and_eq_true] at hk
 exact QP hd hk.1.1 hk.1.2 hk.2 hw hQ hS hl ha h
theorem Ah {i : Nat} {fuel : Nat} {listed : Array Bool} {a : Act} {w : World} (hr : Region.ready md ops listed = [i])
  (h : ∀ (K' : Act → World → Prop) (o : Oper), ops[i]? = some o → Shut (∀ a w, S w → (S w → wpAnyH P md ops Q S fuel (listed.setIfInBounds i true) a w) → K' a w) → if Region.wanted o (yielded ops a.tmps) = true then Oper.wp P o a w K' Q else K' (a.put o.dst undef) w) : wpAnyH P md ops Q S (fuel + 1) listed a w := by
 refine wpAnyH_ready hr (by simp) ?_
 cases ho : ops[i]? with
 | none =>
  have : i ∈ Region.ready md ops listed := by rw [hr]; simp
  obtain ⟨_, o, h2, _⟩ := mem_ready.1 this
  rw [ho] at h2
  cases h2
 | some o => exact AllReadyH.cons ho (fun K hK => h K o ho hK) AllReadyH.nil
theorem EK {i j : Nat} {fuel : Nat} {listed : Array Bool} {a : Act} {w : World} (hr : Region.ready md ops listed = [i, j])
  (h : ∀ (K' : Act → World → Prop) (o : Oper), ops[i]? = some o → Shut (∀ a w, S w → (S w → wpAnyH P md ops Q S fuel (listed.setIfInBounds i true) a w) → K' a w) → if Region.wanted o (yielded ops a.tmps) = true then Oper.wp P o a w K' Q else K' (a.put o.dst undef) w)
  (h2 : ∀ (K' : Act → World → Prop) (o : Oper), ops[j]? = some o → Shut (∀ a w, S w → (S w → wpAnyH P md ops Q S fuel (listed.setIfInBounds j true) a w) → K' a w) → if Region.wanted o (yielded ops a.tmps) = true then Oper.wp P o a w K' Q else K' (a.put o.dst undef) w) : wpAnyH P md ops Q S (fuel + 1) listed a w := by
 refine wpAnyH_ready hr (by simp) ?_
 have key : ∀ i, i ∈ Region.ready md ops listed → ∃ o, ops[i]? = some o := fun i hi => by
  obtain ⟨_, o, h2, _⟩ := mem_ready.1 hi
  exact ⟨o, h2⟩
 obtain ⟨oi, hoi⟩ := key i (by rw [hr]; simp)
 obtain ⟨oj, hoj⟩ := key j (by rw [hr]; simp)
 exact AllReadyH.cons hoi (fun K hK => h K oi hoi hK) (AllReadyH.cons hoj (fun K hK => h2 K oj hoj hK) AllReadyH.nil)
end
open Go.Maps (Keyed IsMap Tidy)
section
variable {P : Program} (w : World) {o : Oper} {a : Act} {K : Act → World → Prop} {Q : Exit → Act → World → Prop}
theorem BG (s x : Operand) (t : TypeId) (ho : o.op = .call { callee := .builtin .append, args := #[s, x], argTypes := #[t, t] })
  (base : Nat) (e : TypeId) (i : TypeInfo) (z : Value) (size bytes : Nat) (ht : P.underlying t = some (.slice e)) (hi : P.info? e = some i) (hz : i.zero = some z)
  (hsize : i.size = size) (hby : i.bytes = bytes) (hzs : z.cells.size = size) (hsz : 0 < size)
  (v : Value) (n : Nat) (xs : List Value) (hs : a.eval s = v) (hown : w.ownsRow base e size v n xs)
  (ad : Addr) (m c : Nat) (news : List Value) (hx : a.eval x = .slice (some ad) m c) (hl : news.length = m * size) (hnews : ∀ j u, news[j]? = some u → w.cell? (ad.add j) = some u) (h1 : ∀ u ∈ news, u.oneCell' = true)
  (h63 : n + m ≤ maxLen) (hbytes : (n + m) * bytes ≤ 140737488355328) (hbase : base ≤ w.heap.size)
  (h : ∀ v' w', w'.ownsRow base e size v' (n + m) (xs ++ news) → w.grownBy w' v.ownBlock → (v'.ownBlock = v.ownBlock ∨ v'.ownBlock = some w.heap.size) → K (a.put o.dst v') w') : o.wp P a w K Q := by
 obtain ⟨v', w', hr, h2, h3, _, h5⟩ := run_append_own_at (P := P) w base t o.type e i z size bytes ht hi hz hsize hby hzs hsz v n xs hown ad m c news hl hnews h1 h63 hbytes hbase
 unfold Oper.wp execOp
 simp only [ho, resolve, invoke, builtin, Sem.run_bind, Sem.run_pure, Result.andThen_ok, List.map_toArray, List.map_cons, List.map_nil, hs, hx, hr]
 exact h v' w' h2 h3 h5
theorem GW (m x v : Operand) (t : TypeId) (hop : o.op = Op.mapUpdate t m x v)
  (k e : TypeId) (L : Keyed P k) (ht : P.underlying t = some (.map k e)) (b n : Nat) (D : DataW Value)
  (hm : a.eval m = .map (some b)) (hown : w.ownsMap P k CK b n D) (hn : n < maxLen) (key val : Value) (kl : Lit) (hx : a.eval x = key) (hv : a.eval v = val) (hkey : keyOf P k key = some kl)
  (hK : ∀ w', w'.ownsMap P k CK b (n + 1) (D.put kl (.held val)) → Touch [b] w w' → K (a.put o.dst undef) w') : o.wp P a w K Q := by
 obtain ⟨w', hrun, r1, r2⟩ := hown.update L ht hn hkey (rfl : CK val = some (.held val, []))
 unfold Oper.wp
 simp [execOp, hop, hm, hx, hv, hrun, Result.andThen]
 exact hK w' r1 (Touch.of_grown r2)
end
def Ed (v : Value) : List Nat := match v.ownBlock with | some k => [k] | none => []
theorem blkL_mem {v : Value} {k : Nat} : k ∈ Ed v ↔ v.ownBlock = some k := by
 unfold Ed
 cases v.ownBlock with
 | none => simp
 | some j => simp [eq_comm]
theorem Touch.of_row {a b : World} {v : Value} (h : a.grownBy b v.ownBlock) : Touch (Ed v) a b := ⟨h.os, h.tape, h.output, h.size, fun i hi hL => h.block i hi (fun e => hL (blkL_mem.2 e.symm))⟩
end Go.Proofs.YtonjphollmdicaaGreatDoor
namespace Go.Proofs.YtonjphollmdicaaGreatDoor
open Go.ChangeShapes Go.WideShapes Go.ChangeAt Go.RowKit
def CZ (n : Nat) (b : UInt8) : Nat := (n * 256 + b.toNat) % P64
def C0 (l : List UInt8) : Nat := l.foldl CZ 0
theorem GE (n : Nat) (b : UInt8) : CZ n b < P64 := Nat.mod_lt _ (by decide)
theorem Mo (l : List UInt8) : ∀ n, n < P64 → l.foldl CZ n < P64 := by
 induction l with
 | nil => intro n h; exact h
 | cons b r ih => intro n _; exact ih _ (GE n b)
theorem Si (l : List UInt8) : C0 l < P64 := Mo l 0 (by decide)
theorem I3 (l : List UInt8) : ∀ (n m : Nat), n < m → m * 256 ^ l.length ≤ P64 → l.foldl CZ n < m * 256 ^ l.length := by
 induction l with
 | nil => intro n m h _; simpa using h
 | cons b r ih =>
  intro n m h h2
  have hb := b.toNat_lt
  have e : m * 256 ^ (b :: r).length = (m * 256) * 256 ^ r.length := by rw [List.length_cons, Nat.pow_succ, Nat.mul_assoc, Nat.mul_comm 256]
  rw [e] at h2 ⊢
  have hp : 0 < 256 ^ r.length := Nat.pow_pos (by decide)
  have hm : m * 256 ≤ P64 := Nat.le_trans (Nat.le_mul_of_pos_right _ hp) h2
  have hs : CZ n b = n * 256 + b.toNat := by unfold CZ; exact Nat.mod_eq_of_lt (by omega)
  exact ih _ _ (by rw [hs]; omega) h2
theorem CH (l : List UInt8) (h : l.length ≤ 2) : C0 l < 65536 := by
 have h1 := I3 l 0 1 (by decide) (by
  rw [Nat.one_mul]
  exact Nat.le_trans (Nat.pow_le_pow_right (by decide) h) (by decide))
 rw [Nat.one_mul] at h1
 exact Nat.lt_of_lt_of_le h1 (Nat.le_trans (Nat.pow_le_pow_right (by decide) h) (by decide))
theorem FH (b : UInt8) : C0 [b] = b.toNat := by
 have := b.toNat_lt
 simp only [C0, List.foldl_cons, List.foldl_nil, CZ, P64]
 omega
structure FoundL where
 kind : UInt8
 set : Nat
 body : List UInt8
def Bq (s : List UInt8) : Nat := C0 ((s.drop 12).take 2)
def Gu (k : UInt8) : Bool := k == 77 || k == 70 || k == 82
def Cv (s : List UInt8) : Bool := decide (22 ≤ s.length) && (s.take 3 == [83, 65, 76]) && Gu (s.getD 3 0) && decide (22 + Bq s ≤ s.length) && (AC (s.take (14 + Bq s)) == C0 ((s.drop (14 + Bq s)).take 8))
def Er (s : List UInt8) : FoundL := ⟨s.getD 3 0, C0 ((s.drop 4).take 8), (s.drop 14).take (Bq s)⟩
def Dv (s : List UInt8) : Option (FoundL × Nat) := if Cv s then some (Er s, 22 + Bq s) else none
theorem Na (s : List UInt8) : Bq s < 65536 := CH _ (by rw [List.length_take]; omega)
def FY : Nat → List UInt8 → List FoundL
 | 0, _ => []
 | _ + 1, [] => []
 | k + 1, b :: r => match Dv (b :: r) with
  | some (f, n) => f :: FY k ((b :: r).drop n)
  | none => FY k r
def DQ (s : List UInt8) : List FoundL := FY s.length s
def At (vs : List (List UInt8)) : List FoundL := vs.flatMap DQ
theorem IJ {s : List UInt8} {f : FoundL} {n : Nat} (h : Dv s = some (f, n)) : 22 ≤ n ∧ n ≤ s.length := by
 unfold Dv at h
 split at h
 ·rename_i hr
  simp only [Option.some.injEq, Prod.mk.injEq] at h
  unfold Cv at hr
  simp only [Bool.and_eq_true, decide_eq_true_eq] at hr
  omega
 ·cases h
theorem OD : ∀ (k : Nat) (s : List UInt8), s.length ≤ k → FY k s = FY s.length s := by
 intro k
 induction k using Nat.strongRecOn with
 | ind k ih =>
  intro s hs
  cases s with
  | nil => cases k <;> rfl
  | cons b r =>
   cases k with
   | zero => simp at hs
   | succ k =>
    simp only [List.length_cons] at hs ⊢
    simp only [FY]
    cases h : Dv (b :: r) with
    | none =>
     exact ih k (by omega) r (by omega)
    | some x =>
     obtain ⟨f, n⟩ := x
     have hn := IJ h
     simp only [List.length_cons] at hn
     have hd : ((b :: r).drop n).length ≤ r.length := by rw [List.length_drop, List.length_cons]; omega
     simp only
     rw [ih k (by omega) _ (by omega)]
     by_cases e : r.length = k
     ·rw [e, ih k (by omega) _ (by omega)]
     ·rw [ih r.length (by omega) _ hd]
theorem Lg : DQ [] = [] := rfl
theorem JP (s : List UInt8) (h : 0 < s.length) : DQ s = match Dv s with | some (f, n) => f :: DQ (s.drop n) | none => DQ (s.drop 1) := by
 cases s with
 | nil => simp at h
 | cons b r =>
  unfold DQ
  simp only [List.length_cons, FY]
  cases hr : Dv (b :: r) with
  | none => simp
  | some x =>
   obtain ⟨f, n⟩ := x
   have hn := IJ hr
   simp only [List.length_cons] at hn
   simp only
   rw [OD _ _ (by rw [List.length_drop, List.length_cons]; omega)]
end Go.Proofs.YtonjphollmdicaaGreatDoor
