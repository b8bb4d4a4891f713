import Derived.Test.YtonjphollmdicaaGreatDoorB00
import Derived.Maps.OwnSet
import Derived.Maps.RangeWalk
import Derived.Deep.RegionHeld
import Derived.Deep.RegionHeld3
import Derived.Maps.AppendAt
set_option maxRecDepth 100000
set_option maxHeartbeats 4000000
set_option linter.unusedSimpArgs false
namespace Go.Proofs.YtonjphollmdicaaGreatDoor
open Go.ChangeShapes Go.WideShapes Go.ChangeAt Go.RowKit
structure Touch (L : List Nat) (w w' : World) : Prop where
 os : w'.os = w.os
 tape : w'.tape = w.tape
 output : w'.output = w.output
 size : w.heap.size ≤ w'.heap.size
 block : ∀ k, k < w.heap.size → k ∉ L → w'.heap[k]? = w.heap[k]?
theorem Touch.refl (L : List Nat) (w : World) : Touch L w w := ⟨rfl, rfl, rfl, Nat.le_refl _, fun _ _ _ => rfl⟩
theorem Touch.trans {L : List Nat} {a b c : World} (h : Touch L a b) (k : Touch L b c) : Touch L a c :=
 ⟨k.os.trans h.os, k.tape.trans h.tape, k.output.trans h.output, Nat.le_trans h.size k.size, fun i hi hL => (k.block i (Nat.lt_of_lt_of_le hi h.size) hL).trans (h.block i hi hL)⟩
theorem Touch.mono {L M : List Nat} {a b : World} (h : Touch L a b) (hs : ∀ x ∈ L, x ∈ M) : Touch M a b := ⟨h.os, h.tape, h.output, h.size, fun i hi hM => h.block i hi (fun e => hM (hs i e))⟩
theorem Touch.andThen {L M : List Nat} {a b c : World} (h : Touch L a b) (k : Touch M b c) (hs : ∀ x ∈ M, x ∈ L ∨ a.heap.size ≤ x) : Touch L a c :=
 ⟨k.os.trans h.os, k.tape.trans h.tape, k.output.trans h.output, Nat.le_trans h.size k.size, fun i hi hL => (k.block i (Nat.lt_of_lt_of_le hi h.size) (fun e => by rcases hs i e with h1 | h1; exact hL h1; omega)).trans (h.block i hi hL)⟩
theorem Touch.below {L : List Nat} {a b : World} (h : Touch L a b) {B : Nat} (hB : B ≤ a.heap.size) (hs : ∀ x ∈ L, B ≤ x) : Below B a b := ⟨h.os, h.tape, h.output, h.size, fun i hi => h.block i (by omega) (fun e => by have := hs i e; omega)⟩
theorem Touch.of_below {a b : World} (h : Below a.heap.size a b) (L : List Nat) : Touch L a b := ⟨h.os, h.tape, h.output, h.size, fun i hi _ => h.block i hi⟩
theorem Touch.of_grown {a b : World} {r : Nat} (h : a.grownBy b (some r)) : Touch [r] a b := ⟨h.os, h.tape, h.output, h.size, fun i hi hL => h.block i hi (by simpa using hL)⟩
theorem Touch.grown {a b : World} {r : Nat} (h : Touch [r] a b) : a.grownBy b (some r) := ⟨h.os, h.tape, h.output, h.size, fun i hi hL => h.block i hi (by simpa using hL)⟩
theorem Touch.grown_none {a b : World} (h : Touch [] a b) : a.grownBy b none := ⟨h.os, h.tape, h.output, h.size, fun i hi _ => h.block i hi (by simp)⟩
theorem Touch.alloc {L : List Nat} {a b : World} (h : Touch L a b) (o : Obj) : Touch L a (b.alloc o) := h.andThen (Touch.of_below ((Below.refl _ _).alloc (Nat.le_refl _) o) []) (by simp)
theorem Touch.drew {L : List Nat} {a b : World} (h : Touch L a b) : Touch L a b.drew := ⟨h.os, h.tape, h.output, h.size, h.block⟩
theorem Touch.setCell {L : List Nat} {a b : World} (h : Touch L a b) {x : Addr} (hx : x.block ∈ L ∨ a.heap.size ≤ x.block) (v : Value) : Touch L a (b.setCell x v) := by
 have h1 : Below x.block b (b.setCell x v) := (Below.refl _ _).setCell (Nat.le_refl _) v
 refine ⟨h1.os.trans h.os, h1.tape.trans h.tape, h1.output.trans h.output, Nat.le_trans h.size h1.size, fun i hi hL => ?_⟩
 rw [RowKit.Below.heap_setCell _ _ _ _ (fun e => by subst e; rcases hx with h1 | h1; exact hL h1; omega)]
 exact h.block i hi hL
theorem Touch.cell {L : List Nat} {a b : World} (h : Touch L a b) {x : Addr} (hlt : x.block < a.heap.size) (hL : x.block ∉ L) : b.cell? x = a.cell? x := World.cell?_of_block (w := a) (h.block _ hlt hL)
theorem Touch.frozen {L : List Nat} {a b : World} (h : Touch L a b) {x : Addr} (hlt : x.block < a.heap.size) (hL : x.block ∉ L) : b.frozen? x = a.frozen? x := World.frozen?_of_block (w := a) (h.block _ hlt hL)
theorem Touch.row {L : List Nat} {a W W' : World} (h : Touch L a W) {base : Nat} {e : TypeId} {sz : Nat} {v : Value} {n : Nat} {xs : List Value} (ho : W.ownsRow base e sz v n xs) (hb : a.heap.size ≤ base) (hg : W.grownBy W' v.ownBlock) : Touch L a W' :=
 ⟨hg.os.trans h.os, hg.tape.trans h.tape, hg.output.trans h.output, Nat.le_trans h.size hg.size, fun i hi hL => by
  rw [hg.block i (Nat.lt_of_lt_of_le hi h.size) (fun e => by have := (ho.lt i e.symm).1; omega)]
  exact h.block i hi hL⟩
theorem Ac {w w' : World} {base : Nat} {e : TypeId} {sz : Nat} {v : Value} {n : Nat} {xs : List Value} (h : w.ownsRow base e sz v n xs) {L : List Nat} (ht : Touch L w w') (hL : ∀ x ∈ L, x < base) : w'.ownsRow base e sz v n xs := by
 refine ⟨h.1, ?_⟩
 rcases h.2 with h1 | ⟨g, cap, cur, h1, hb, hg, h2⟩
 ·exact .inl h1
 ·exact .inr ⟨g, cap, cur, h1, hb, by rw [ht.block g (Array.getElem?_eq_some_iff.1 hg).1 (fun e => by have := hL g e; omega)]; exact hg, h2⟩
theorem AP {w w' : World} {base : Nat} {e : TypeId} {sz : Nat} {v : Value} {n : Nat} {xs : List Value} (h : w.ownsRow base e sz v n xs) {L : List Nat} (ht : Touch L w w') (hL : ∀ k, v.ownBlock = some k → k ∉ L) : w'.ownsRow base e sz v n xs := by
 refine ⟨h.1, ?_⟩
 rcases h.2 with h1 | ⟨g, cap, cur, rfl, hb, hg, h2⟩
 ·exact .inl h1
 ·exact .inr ⟨g, cap, cur, rfl, hb, by rw [ht.block g (Array.getElem?_eq_some_iff.1 hg).1 (hL g rfl)]; exact hg, h2⟩
def Blk (w : World) (B : Nat) (vs : List Value) : Prop := ∀ k u, vs[k]? = some u → w.cell? ⟨B, k, none⟩ = some u ∧ w.frozen? ⟨B, k, none⟩ = false
theorem Blk.lt {w : World} {B : Nat} {vs : List Value} (h : Blk w B vs) (h0 : 0 < vs.length) : B < w.heap.size := World.block_lt_of_cell? w _ (h 0 vs[0] (by simp)).1
theorem Blk.touch {w w' : World} {B : Nat} {vs : List Value} (h : Blk w B vs) {L : List Nat} (ht : Touch L w w') (hL : B ∉ L) : Blk w' B vs := fun k u hk => by
 have h1 := h k u hk
 have hlt : B < w.heap.size := World.block_lt_of_cell? w _ h1.1
 exact ⟨by rw [ht.cell (x := ⟨B, k, none⟩) hlt hL]; exact h1.1, by rw [ht.frozen (x := ⟨B, k, none⟩) hlt hL]; exact h1.2⟩
theorem Blk.alloc {w : World} {B : Nat} {vs : List Value} (h : Blk w B vs) (o : Obj) : Blk (w.alloc o) B vs := h.touch ((Touch.refl [] _).alloc o) (by simp)
theorem Blk.drew {w : World} {B : Nat} {vs : List Value} (h : Blk w B vs) : Blk w.drew B vs := h.touch ((Touch.refl [] _).drew) (by simp)
theorem Blk.new (w : World) (cs : Array Value) (t : TypeId) : Blk (w.alloc (.cells cs t)) w.heap.size cs.toList := fun k u hk => by
 rw [Array.getElem?_toList] at hk
 exact ⟨by simp [hk], by simp⟩
theorem Blk.set {w : World} {B : Nat} {vs : List Value} (h : Blk w B vs) (k : Nat) (v : Value) : Blk (w.setCell ⟨B, k, none⟩ v) B (vs.set k v) := fun j u hj => by
 rw [List.getElem?_set] at hj
 by_cases c : k = j
 ·subst c
  rw [if_pos rfl] at hj
  split at hj
  ·rename_i hlt
   cases hj
   have h1 := h k vs[k] (by simp [hlt])
   exact ⟨World.cell?_setCell_same _ _ _ h1.1, by rw [World.frozen?_setCell]; exact h1.2⟩
  ·cases hj
 ·rw [if_neg c] at hj
  have h1 := h j u hj
  exact ⟨by rw [World.cell?_setCell_other _ _ _ _ (by simp)]; exact h1.1, by rw [World.frozen?_setCell]; exact h1.2⟩
theorem Blk.set_other {w : World} {B : Nat} {vs : List Value} (h : Blk w B vs) {a : Addr} (ha : a.block ≠ B) (v : Value) : Blk (w.setCell a v) B vs := fun j u hj => by
 have h1 := h j u hj
 exact ⟨by rw [World.cell?_setCell_other _ _ _ _ (fun e => ha (by rw [e]))]; exact h1.1, by rw [World.frozen?_setCell]; exact h1.2⟩
open Go.Maps (Keyed IsMap Tidy)
def CF : Value → Option (DataW Value × List MemPlace) := fun v => some (.held v, [])
def atM (D : DataW Value) (kl : Lit) : Option Value := if Maps.has D kl then (match D.atKey kl .nil with | .held v => some v | _ => none) else none
theorem Pr {D : DataW Value} {kl : Lit} (h : Maps.has D kl = true) (z z' : DataW Value) : D.atKey kl z = D.atKey kl z' := by
 cases D with
 | map es =>
  rw [Maps.has_eq] at h
  obtain ⟨p, hp, hk⟩ := List.any_eq_true.1 h
  simp only [DataW.atKey]
  cases hf : es.find? (fun p => p.1.sameKey kl) with
  | none => exact absurd hk (by simpa using List.find?_eq_none.1 hf p hp)
  | some q => simp
 | _ => simp [Maps.has] at h
theorem Eb {D : DataW Value} (hD : IsMap D) {k : Lit} (hk : WideAt.IsKeyLit k) (v : Value) : atM (D.put k (.held v)) k = some v := by
 unfold atM
 rw [Maps.has_put_same hD hk, Maps.atKey_put_same hD hk]
 rfl
theorem Da (D : DataW Value) {k k' : Lit} (hne : k' ≠ k) (d : DataW Value) : atM (D.put k d) k' = atM D k' := by
 unfold atM
 rw [Maps.has_put_other hne, Maps.atKey_put_other hne]
theorem KZ (D : DataW Value) (k : Lit) : atM (D.del k) k = none := by
 unfold atM
 rw [Maps.has_del_same]
 rfl
theorem JT (D : DataW Value) {k k' : Lit} (hne : k' ≠ k) : atM (D.del k) k' = atM D k' := by
 unfold atM
 rw [Maps.has_del_other hne, Maps.atKey_del_other hne]
theorem EC (k : Lit) : atM (.map []) k = none := by simp [atM, Maps.has]
section
variable {P : Program} {k : TypeId} {w : World} {b n : Nat} {D : DataW Value}
theorem GH (h : w.ownsMap P k CF b n D) (K : Keyed P k) {t e : TypeId} (ht : P.underlying t = some (.map k e)) {z : Value} (hz : (zeroValue e).run P w = .ok z w) {key : Value} {kl : Lit} (hkey : keyOf P k key = some kl) : Maps.has D kl = (atM D kl).isSome ∧ (∀ z', D.atKey kl (.held z') = .held ((atM D kl).getD z')) := by
 obtain ⟨v, ps, _, hv⟩ := h.look_ok K ht hz (zd := .held z) (zp := []) rfl hkey
 unfold CF at hv
 simp only [Option.some.injEq, Prod.mk.injEq] at hv
 unfold atM
 cases hh : Maps.has D kl with
 | false =>
  refine ⟨by simp, fun z' => ?_⟩
  rw [Maps.atKey_of_not_has hh]
  simp
 | true =>
  have e : ∀ d, D.atKey kl d = .held v := fun d => by rw [Pr hh d (.held z)]; exact hv.1.symm
  simp [e]
theorem FE (h : w.ownsMap P k CF b n D) (K : Keyed P k) {t e : TypeId} (ht : P.underlying t = some (.map k e)) {z : Value} (hz : (zeroValue e).run P w = .ok z w) {key : Value} {kl : Lit} (hkey : keyOf P k key = some kl) :
  (Instr.lookup t (.map (some b)) key false).run P w = .ok ((atM D kl).getD z) w := by
 obtain ⟨v, ps, hr, hv⟩ := h.lookup K ht hz (zd := .held z) (zp := []) rfl hkey
 unfold CF at hv
 simp only [Option.some.injEq, Prod.mk.injEq] at hv
 have := (GH h K ht hz hkey).2 z
 rw [this] at hv
 simp only [DataW.held.injEq] at hv
 rw [← hv.1]
 exact hr
theorem EO (h : w.ownsMap P k CF b n D) (K : Keyed P k) {t e : TypeId} (ht : P.underlying t = some (.map k e)) {z : Value} (hz : (zeroValue e).run P w = .ok z w) {key : Value} {kl : Lit} (hkey : keyOf P k key = some kl) :
  (Instr.lookup t (.map (some b)) key true).run P w = .ok (.tuple #[(atM D kl).getD z, .bool (atM D kl).isSome]) w := by
 obtain ⟨v, ps, hr, hv⟩ := h.look_ok K ht hz (zd := .held z) (zp := []) rfl hkey
 unfold CF at hv
 simp only [Option.some.injEq, Prod.mk.injEq] at hv
 obtain ⟨h1, h2⟩ := GH h K ht hz hkey
 rw [h2 z] at hv
 simp only [DataW.held.injEq] at hv
 rw [← hv.1, ← h1]
 exact hr
end
section
variable {P : Program} (w : World) {ops : Array Oper} {rest : List Oper} {o : Oper} {a : Act} {Q : Exit → Act → World → Prop}
theorem Dx (hg : o.guard = none) (m x v : Operand) (t : TypeId) (hop : o.op = Op.mapUpdate t m x v)
  (k e : TypeId) (K : Keyed P k) (ht : P.underlying t = some (.map k e)) (b n : Nat) (D : DataW Value)
  (hm : a.eval m = .map (some b)) (hown : w.ownsMap P k CF b n D) (hn : n < maxLen) (key val : Value) (kl : Lit) (hx : a.eval x = key) (hv : a.eval v = val) (hkey : keyOf P k key = some kl)
  (hK : ∀ w', w'.ownsMap P k CF b (n + 1) (D.put kl (.held val)) → Touch [b] w w' → wpList P ops Q rest (a.put o.dst undef) w') :
  wpList P ops Q (o :: rest) a w :=
 wpList_mapUpdate_own w hg m x v t hop k e K ht CF b n D hm hown hn key val kl hx hv hkey (.held val) [] rfl (fun w' h1 h2 => hK w' h1 (Touch.of_grown h2))
theorem FZ (hg : o.guard = none) (it : Operand) (hop : o.op = Op.next it false) (k : TypeId) (q : IntKind) (K : Keyed P k) (hk : P.underlying k = some (.int q)) (b r n : Nat) (D : DataW Value) (left : Lit → Bool) (cnt : Nat)
  (hit : a.eval it = .pointer (some ⟨r, 0, none⟩)) (h : w.ranges P k CF b r n D left cnt)
  (hDone : cnt = 0 → (∀ kl, left kl = false) → wpList P ops Q rest (a.put o.dst (.tuple #[.bool false])) w)
  (hMore : ∀ (x : Int) (v : Value) (w' : World) (cnt' : Nat), (Lit.int q x).wf = true → left (.int q x) = true → (∀ zd, D.atKey (.int q x) zd = .held v) → w'.ranges P k CF b r n D (fun z => left z && !z.sameKey (.int q x)) cnt' → cnt' < cnt →
   w.grownBy w' (some r) → w'.heap.size = w.heap.size → (Instr.entry (.pointer (some ⟨r, 0, none⟩))).run P w' = .ok (.tuple #[.int q x, v]) w' → wpList P ops Q rest (a.put o.dst (.tuple #[.bool true, .int q x, v])) w') :
  wpList P ops Q (o :: rest) a w :=
 wpList_next_ranges w hg it hop k K CF (Value.int q) (fun v => v) (fun key kl hkey => by obtain ⟨x, rfl, _⟩ := Maps.keyOf_int_inv hk hkey; exact ⟨x, rfl⟩) (fun v _ _ => ⟨v, rfl⟩)
  b r n D left cnt hit h hDone (fun x c kl y w' cnt' hkey hlk hv hat hrg hlt hgr hsz hen => by
   obtain ⟨x', ex, rfl, hwx⟩ := Maps.keyOf_int_inv hk hkey
   cases ex
   unfold CF at hv
   simp only [Option.some.injEq] at hv
   subst hv
   exact hMore x c w' cnt' hwx hlk hat hrg hlt hgr hsz hen)
end
end Go.Proofs.YtonjphollmdicaaGreatDoor
namespace Go.Proofs.YtonjphollmdicaaGreatDoor
open Go.ChangeShapes Go.WideShapes Go.ChangeAt Go.RowKit
section
variable {P : Program} {md : Region.Mode} {ops : Array Oper} {Q : Exit → Act → World → Prop} {S : World → Prop}
theorem QU {i : Nat} {d : Option Tmp} {v : Value} {fuel : Nat} {listed : Array Bool} {a : Act} {w : World} (hd : (ops[i]?).map (fun o => o.dst) = some d)
  (hs : Region.noSelect ops = true) (hf : Region.free md ops listed i = true) (hr : (Region.ready md ops listed).contains i = true)
  (hw : ((ops[i]?).map (fun o => Region.wanted o (yielded ops a.tmps))) = some true)
  (hQ : ∀ c a w, Q (.panic c) (a.put d v) w → Q (.panic c) a w) (hy : ∀ w, S w → ((ops[i]?).map fun o => (execOp a.eval o).run P w) = some (.ok (.value v) w)) (hS : S w)
  (h : wpAnyH P md ops Q S fuel (listed.setIfInBounds i true) (a.put d v) w) : wpAnyH P md ops Q S (fuel + 1) listed a w := by
 cases ho : ops[i]? with
 | none => rw [ho] at hd; cases hd
 | some o =>
  rw [ho] at hd hw hy
  simp only [Option.map_some, Option.some.injEq] at hd hw hy
  subst hd
  exact wpAnyH_take ho hs hf hr hQ (Or.inl ⟨hw, hy⟩) hS h
theorem gA {α : Type} {xs : List α} {i : Nat} : xs.toArray[i]? = xs[i]? := List.getElem?_toArray
end
open Go.Maps (Keyed IsMap Tidy)
section
variable {P : Program} (w : World) {o : Oper} {a : Act} {K : Act → World → Prop} {Q : Exit → Act → World → Prop}
theorem BE (s x : Operand) (t : TypeId) (ho : o.op = .call { callee := .builtin .append, args := #[s, x], argTypes := #[t, t] })
  (base : Nat) (e : TypeId) (i : TypeInfo) (z : Value) (size bytes : Nat) (ht : P.underlying t = some (.slice e)) (hi : P.info? e = some i) (hz : i.zero = some z)
  (hsize : i.size = size) (hby : i.bytes = bytes) (hzs : z.cells.size = size) (hsz : 0 < size)
  (v : Value) (n : Nat) (xs : List Value) (hs : a.eval s = v) (hown : w.ownsRow base e size v n xs)
  (ad : Addr) (m c : Nat) (news : List Value) (hx : a.eval x = .slice (some ad) m c) (hl : news.length = m * size) (hnews : ∀ j u, news[j]? = some u → w.cell? (ad.add j) = some u) (h1 : ∀ u ∈ news, u.oneCell' = true)
  (h63 : n + m ≤ maxLen) (hbytes : (n + m) * bytes ≤ 140737488355328) (hbase : base ≤ w.heap.size)
  (h : ∀ v' w', w'.ownsRow base e size v' (n + m) (xs ++ news) → w.grownBy w' v.ownBlock → (v'.ownBlock = v.ownBlock ∨ v'.ownBlock = some w.heap.size) → K (a.put o.dst v') w') : o.wp P a w K Q := by
 obtain ⟨v', w', hr, h2, h3, _, h5⟩ := run_append_own_at (P := P) w base t o.type e i z size bytes ht hi hz hsize hby hzs hsz v n xs hown ad m c news hl hnews h1 h63 hbytes hbase
 unfold Oper.wp execOp
 simp only [ho, resolve, invoke, builtin, Sem.run_bind, Sem.run_pure, Result.andThen_ok, List.map_toArray, List.map_cons, List.map_nil, hs, hx, hr]
 exact h v' w' h2 h3 h5
theorem Hc (m x v : Operand) (t : TypeId) (hop : o.op = Op.mapUpdate t m x v)
  (k e : TypeId) (L : Keyed P k) (ht : P.underlying t = some (.map k e)) (b n : Nat) (D : DataW Value)
  (hm : a.eval m = .map (some b)) (hown : w.ownsMap P k CF b n D) (hn : n < maxLen) (key val : Value) (kl : Lit) (hx : a.eval x = key) (hv : a.eval v = val) (hkey : keyOf P k key = some kl)
  (hK : ∀ w', w'.ownsMap P k CF b (n + 1) (D.put kl (.held val)) → Touch [b] w w' → K (a.put o.dst undef) w') : o.wp P a w K Q := by
 obtain ⟨w', hrun, r1, r2⟩ := hown.update L ht hn hkey (rfl : CF val = some (.held val, []))
 unfold Oper.wp
 simp [execOp, hop, hm, hx, hv, hrun, Result.andThen]
 exact hK w' r1 (Touch.of_grown r2)
end
def Ea (v : Value) : List Nat := match v.ownBlock with | some k => [k] | none => []
theorem blkL_mem {v : Value} {k : Nat} : k ∈ Ea v ↔ v.ownBlock = some k := by
 unfold Ea
 cases v.ownBlock with
 | none => simp
 | some j => simp [eq_comm]
theorem Touch.of_row {a b : World} {v : Value} (h : a.grownBy b v.ownBlock) : Touch (Ea v) a b := ⟨h.os, h.tape, h.output, h.size, fun i hi hL => h.block i hi (fun e => hL (blkL_mem.2 e.symm))⟩
end Go.Proofs.YtonjphollmdicaaGreatDoor
namespace Go.Proofs.YtonjphollmdicaaGreatDoor
open Go.ChangeShapes Go.WideShapes Go.ChangeAt Go.RowKit
def CV (n : Nat) (b : UInt8) : Nat := (n * 256 + b.toNat) % P64
def CZ (l : List UInt8) : Nat := l.foldl CV 0
theorem GB (n : Nat) (b : UInt8) : CV n b < P64 := Nat.mod_lt _ (by decide)
theorem MO (l : List UInt8) : ∀ n, n < P64 → l.foldl CV n < P64 := by
 induction l with
 | nil => intro n h; exact h
 | cons b r ih => intro n _; exact ih _ (GB n b)
theorem RM (l : List UInt8) : CZ l < P64 := MO l 0 (by decide)
theorem I0 (l : List UInt8) : ∀ (n m : Nat), n < m → m * 256 ^ l.length ≤ P64 → l.foldl CV n < m * 256 ^ l.length := by
 induction l with
 | nil => intro n m h _; simpa using h
 | cons b r ih =>
  intro n m h h2
  have hb := b.toNat_lt
  have e : m * 256 ^ (b :: r).length = (m * 256) * 256 ^ r.length := by rw [List.length_cons, Nat.pow_succ, Nat.mul_assoc, Nat.mul_comm 256]
  rw [e] at h2 ⊢
  have hp : 0 < 256 ^ r.length := Nat.pow_pos (by decide)
  have hm : m * 256 ≤ P64 := Nat.le_trans (Nat.le_mul_of_pos_right _ hp) h2
  have hs : CV n b = n * 256 + b.toNat := by unfold CV; exact Nat.mod_eq_of_lt (by omega)
  exact ih _ _ (by rw [hs]; omega) h2
theorem CJ (l : List UInt8) (h : l.length ≤ 2) : CZ l < 65536 := by
 have h1 := I0 l 0 1 (by decide) (by
  rw [Nat.one_mul]
  exact Nat.le_trans (Nat.pow_le_pow_right (by decide) h) (by decide))
 rw [Nat.one_mul] at h1
 exact Nat.lt_of_lt_of_le h1 (Nat.le_trans (Nat.pow_le_pow_right (by decide) h) (by decide))
theorem FF (b : UInt8) : CZ [b] = b.toNat := by
 have := b.toNat_lt
 simp only [CZ, List.foldl_cons, List.foldl_nil, CV, P64]
 omega
structure FoundL where
 kind : UInt8
 set : Nat
 body : List UInt8
def Bp (s : List UInt8) : Nat := CZ ((s.drop 12).take 2)
def Gd (k : UInt8) : Bool := k == 77 || k == 70 || k == 82
def Cw (s : List UInt8) : Bool := decide (22 ≤ s.length) && (s.take 3 == [83, 65, 76]) && Gd (s.getD 3 0) && decide (22 + Bp s ≤ s.length) && (AA (s.take (14 + Bp s)) == CZ ((s.drop (14 + Bp s)).take 8))
def Ep (s : List UInt8) : FoundL := ⟨s.getD 3 0, CZ ((s.drop 4).take 8), (s.drop 14).take (Bp s)⟩
def Dy (s : List UInt8) : Option (FoundL × Nat) := if Cw s then some (Ep s, 22 + Bp s) else none
theorem Np (s : List UInt8) : Bp s < 65536 := CJ _ (by rw [List.length_take]; omega)
def F8 : Nat → List UInt8 → List FoundL
 | 0, _ => []
 | _ + 1, [] => []
 | k + 1, b :: r => match Dy (b :: r) with
  | some (f, n) => f :: F8 k ((b :: r).drop n)
  | none => F8 k r
def DX (s : List UInt8) : List FoundL := F8 s.length s
def As (vs : List (List UInt8)) : List FoundL := vs.flatMap DX
theorem It {s : List UInt8} {f : FoundL} {n : Nat} (h : Dy s = some (f, n)) : 22 ≤ n ∧ n ≤ s.length := by
 unfold Dy at h
 split at h
 ·rename_i hr
  simp only [Option.some.injEq, Prod.mk.injEq] at h
  unfold Cw at hr
  simp only [Bool.and_eq_true, decide_eq_true_eq] at hr
  omega
 ·cases h
theorem Ov : ∀ (k : Nat) (s : List UInt8), s.length ≤ k → F8 k s = F8 s.length s := by
 intro k
 induction k using Nat.strongRecOn with
 | ind k ih =>
  intro s hs
  cases s with
  | nil => cases k <;> rfl
  | cons b r =>
   cases k with
   | zero => simp at hs
   | succ k =>
    simp only [List.length_cons] at hs ⊢
    simp only [F8]
    cases h : Dy (b :: r) with
    | none =>
     exact ih k (by omega) r (by omega)
    | some x =>
     obtain ⟨f, n⟩ := x
     have hn := It h
     simp only [List.length_cons] at hn
     have hd : ((b :: r).drop n).length ≤ r.length := by rw [List.length_drop, List.length_cons]; omega
     simp only
     rw [ih k (by omega) _ (by omega)]
     by_cases e : r.length = k
     ·rw [e, ih k (by omega) _ (by omega)]
     ·rw [ih r.length (by omega) _ hd]
theorem KR : DX [] = [] := rfl
theorem JC (s : List UInt8) (h : 0 < s.length) : DX s = match Dy s with | some (f, n) => f :: DX (s.drop n) | none => DX (s.drop 1) := by
 cases s with
 | nil => simp at h
 | cons b r =>
  unfold DX
  simp only [List.length_cons, F8]
  cases hr : Dy (b :: r) with
  | none => simp
  | some x =>
   obtain ⟨f, n⟩ := x
   have hn := It hr
   simp only [List.length_cons] at hn
   simp only
   rw [Ov _ _ (by rw [List.length_drop, List.length_cons]; omega)]
def Cv (l : List Nat) : List Value := l.map fun (n : Nat) => Value.int .u64 (n : Int)
def AL (l : List (List UInt8)) : List Value := l.map fun x => Value.string (str x)
def Bg (hs : List Nat) : List UInt8 := hs.flatMap fun h => Af h 8
def Fh (size : Nat) (hs : List Nat) : List UInt8 := Af size 2 ++ Af hs.length 1 ++ Bg hs
theorem Fu (l : List Nat) (h : Nat) : Bg (l ++ [h]) = Bg l ++ Af h 8 := by simp [Bg]
theorem Ao {α : Type} (l : List α) (k : Nat) (h : k < l.length) : l.take (k + 1) = l.take k ++ [l[k]] := by
 rw [List.take_add_one, List.getElem?_eq_getElem h]; rfl
theorem Kp (size : Nat) (hs : List Nat) (a : Option Addr) (cap : Nat) (hsize : size ≤ 100) (hn : hs.length ≤ 100) (w : World) (hrd : Rd w a (Cv hs)) :
  Calls Tryz.prog 98 #[.int .i64 (size : Int), .slice a hs.length cap] w fun e w' => e = .returned (.string (str (Fh size hs))) ∧ Below w.heap.size w w' := by
 go_enter Tryz.func98, Tryz.ntmps98
 go_wp2_with fail
 refine (AN _ 0 [] size 2 w.heap.size w (by omega) (by omega) (Nat.le_refl _) (World.ownsRow_nil _ _ _ _)).mono ?_
 rintro e w1 ⟨v1, rfl, hown1, hb1⟩
 have hsz1 := hb1.size
 go_wp2_with fail
 refine (AN v1 2 _ hs.length 1 w.heap.size w1 (by omega) (by omega) (by omega) hown1).mono ?_
 rintro e w2 ⟨v2, rfl, hown2, hb2'⟩
 have hb2 := hb1.trans hb2'
 clear hown1 hb1 hb2' hsz1
 go_wp2_with fail
 go_loopw [5, 7, 18] (fun t x i wr => ∃ k : Nat, k ≤ hs.length ∧ i = .int .i64 (k : Int) ∧ wr.ownsRow w.heap.size 5 1 t (3 + 8 * k) (Bv (Af size 2 ++ Af hs.length 1 ++ Bg (hs.take k))) ∧ Below w.heap.size w wr)
  (fun _ _ i _ => hs.length - (intOf i).toNat)
 case atStart => exact ⟨0, by omega, rfl, by simpa [Bg] using hown2, hb2⟩
 case round =>
  obtain ⟨k, hk, rfl, hownr, hbl⟩ := hrel
  have hsz := hbl.size
  by_cases hlt : k < hs.length
  ·obtain ⟨b, off, rfl, hc0⟩ := hrd k (.int .u64 (hs[k] : Int)) (by simp [Cv, hlt])
   have hc : wr.cell? ⟨b, off + k, none⟩ = some (.int .u64 (hs[k] : Int)) := by
    rw [hbl.cell (World.block_lt_of_cell? w _ hc0)]; exact hc0
   clear hc0 hown2
   go_wp2_with fail
   refine (AN u5 (3 + 8 * k) _ hs[k] 8 w.heap.size wr (by omega) (by omega) (by omega) hownr).mono ?_
   rintro e w3 ⟨v3, rfl, hown3, hb3'⟩
   have hb3 := hbl.trans hb3'
   have hown3' : w3.ownsRow w.heap.size 5 1 v3 (3 + 8 * (k + 1)) (Bv (Af size 2 ++ Af hs.length 1 ++ Bg (hs.take (k + 1)))) := by
    rw [Ao hs k hlt, Fu, ← List.append_assoc]
    exact hown3
   clear hown3 hb3' hc hownr hb2
   go_wp2_with fail
   go_roundw
   case rel => exact ⟨k + 1, by omega, by go_num, hown3', hb3⟩
   case measure => simp [intOf]; omega
  ·obtain rfl : k = hs.length := by omega
   have hc := Cd hownr
   rw [List.take_length] at hc
   clear hownr
   go_wp2_with fail
   go_ret
   exact ⟨rfl, hbl⟩
theorem Tryz.info64 : (Tryz.prog.info? 63).map (fun i => (i.zero, i.size, i.bytes)) = some (some (.int .u64 0), 1, 8) := by kernel_rfl
theorem LI (ts : List (List UInt8)) (a : Option Addr) (cap : Nat) (hn : ts.length ≤ 100) (hts : ∀ t ∈ ts, t.length ≤ 100000) (w : World) (hrd : Rd w a (AL ts)) :
  Calls Tryz.prog 99 #[.slice a ts.length cap] w fun e w' => ∃ v', e = .returned v' ∧ w'.ownsRow w.heap.size 63 1 v' ts.length (Cv (ts.map AA)) ∧ Below w.heap.size w w' := by
 obtain ⟨i0, hi, hz0, hz1, hz2⟩ := info_parts Tryz.info64
 go_enter Tryz.func99, Tryz.ntmps99
 go_wp2_with (at_make; refine wpList_make_full _ rfl _ _ 99 rfl w.heap.size 63 i0 (.int .u64 0) 1 Tryz.underlying99 hi hz0 hz1 .i64 .i64 _ _ ts.length rfl rfl rfl rfl ?c1 ?c2 (Nat.le_refl _) ?_)
 case c1 => rw [hz2]; omega
 case c2 => unfold maxLen; omega
 intro w1 hown1 hg1
 have hb1 : Below w.heap.size w w1 := (Below.refl _ w).grown hg1 (Nat.le_refl _) (by simp)
 clear hg1
 go_wp2_with fail
 go_loopw [4, 5, 11] (fun _ _ i wr => ∃ (k : Nat) (zs : List Nat), k ≤ ts.length ∧ i = .int .i64 (k : Int) ∧ wr.ownsRow w.heap.size 63 1 (.slice (some ⟨w.heap.size, 0, none⟩) ts.length ts.length) ts.length (Cv zs) ∧ Below w.heap.size w wr ∧ Hid (zs.take k = (ts.map AA).take k))
  (fun _ _ i _ => ts.length - (intOf i).toNat)
 case atStart => exact ⟨0, List.replicate ts.length 0, by omega, rfl, by simpa [Cv, toList_madeCells_one] using hown1, hb1, Aa (by simp)⟩
 case round =>
  obtain ⟨k, zs, hk, rfl, hownr, hbl, hzs⟩ := hrel
  have hsz := hbl.size
  have hzl : zs.length = ts.length := by have := hownr.1; simpa [Cv] using this
  by_cases hlt : k < ts.length
  ·obtain ⟨b, off, rfl, hc0⟩ := hrd k (.string (str ts[k])) (by simp [AL, hlt])
   have hc : wr.cell? ⟨b, off + k, none⟩ = some (.string (str ts[k])) := by
    rw [hbl.cell (World.block_lt_of_cell? w _ hc0)]; exact hc0
   have hcell : wr.cell? ⟨w.heap.size, k, none⟩ = some (.int .u64 (zs[k] : Int)) := by
    rw [hownr.cellAt k (by omega)]; simp [Cv, hzl, hlt]
   have hfz := hownr.frozenAt k
   have hst := hownr.stored k (.int .u64 ((AA ts[k] : Nat) : Int))
   have hown' : (wr.setCell ⟨w.heap.size, k, none⟩ (.int .u64 ((AA ts[k] : Nat) : Int))).ownsRow w.heap.size 63 1 (.slice (some ⟨w.heap.size, 0, none⟩) ts.length ts.length) ts.length (Cv (zs.set k (AA ts[k]))) := by
    have e : Cv (zs.set k (AA ts[k])) = (Cv zs).set k (.int .u64 ((AA ts[k] : Nat) : Int)) := by simp [Cv, List.map_set]
    rw [e]; exact hst.1
   have hB := hbl.setCell (p := ⟨w.heap.size, k, none⟩) (Nat.le_refl _) (.int .u64 ((AA ts[k] : Nat) : Int))
   have hkl : k < zs.length := by omega
   have hset : (zs.set k (AA ts[k])).take (k + 1) = (ts.map AA).take (k + 1) := by
    rw [Ao _ k (by simpa using hkl), Ao _ k (by simpa using hlt)]
    simp only [List.getElem_set_self, List.getElem_map]
    rw [List.take_set_of_le (Nat.le_refl _), hzs.out]
   have HS := Aa hset
   have HO := Aa hown'
   have HB := Aa hB
   clear hset hown' hB hst hownr hc0 hzs
   have htl := hts ts[k] (List.getElem_mem hlt)
   go_wp2_with fail
   refine (FO ts[k] (by omega) wr).mono ?_
   rintro e w3 ⟨rfl, rfl⟩
   go_wp2_with fail
   go_roundw
   case rel => exact ⟨k + 1, zs.set k (AA ts[k]), by omega, by go_num, HO.out, HB.out, HS⟩
   case measure => simp [intOf]; omega
  ·obtain rfl : k = ts.length := by omega
   have := hzs.out
   rw [← hzl, List.take_length, hzl, List.take_of_length_le (by simp)] at this
   subst this
   go_wp2_with fail
   go_ret
   exact ⟨_, rfl, hownr, hbl⟩
def D6 (number : Nat) (name data : List UInt8) : List UInt8 := Af number 1 ++ Af name.length 1 ++ name ++ Af data.length 2 ++ Af (AA data) 8
def Ck (number : Nat) (name data : List UInt8) (ss : List (List UInt8)) : List UInt8 := D6 number name data ++ Bg (ss.map AA)
theorem Ki (number : Nat) (name data : List UInt8) (ss : List (List UInt8)) (a : Option Addr) (cap : Nat) (hnum : number ≤ 100) (hname : name.length ≤ 100) (hdata : data.length ≤ 1000) (hn : ss.length ≤ 1000) (hss : ∀ t ∈ ss, t.length ≤ 1000) (w : World) (hrd : Rd w a (AL ss)) :
  Calls Tryz.prog 123 #[.int .i64 (number : Int), .agg #[.string (str name), .string (str data)], .slice a ss.length cap] w fun e w' => e = .returned (.string (str (Ck number name data ss))) ∧ Below w.heap.size w w' := by
 obtain ⟨i0, hi, hz0, hz1, hz2⟩ := info_parts Tryz.info8
 have hns : (str name).size = name.length := Ae name
 have hds : (str data).size = data.length := Ae data
 obtain ⟨W0, hW0⟩ : ∃ W0, W0 = w.alloc (.cells #[.string (str name), .string (str data)] 62) := ⟨_, rfl⟩
 have hs0 : W0.heap.size = w.heap.size + 1 := by rw [hW0]; simp
 have hcn : ∀ W, Below (w.heap.size + 1) W0 W → W.cell? ⟨w.heap.size, 0, none⟩ = some (.string (str name)) ∧ W.cell? ⟨w.heap.size, 1, none⟩ = some (.string (str data)) := by
  intro W hW
  rw [hW.cell (by simp), hW.cell (by simp), hW0]
  constructor <;> simp
 have hw0 : Below w.heap.size w W0 := by rw [hW0]; exact (Below.refl _ _).alloc (Nat.le_refl _) _
 have hlow : ∀ W, Below (w.heap.size + 1) W0 W → Below w.heap.size w W := fun W h => hw0.trans (h.mono (by omega))
 have HC := Aa hcn
 have HL := Aa hlow
 have HW := Aa hW0
 have HS := Aa hs0
 clear hcn hlow hs0
 go_enter Tryz.func123, Tryz.ntmps123
 go_wp2_with fail
 rw [← HW.out]
 clear hW0
 refine (AN _ 0 [] number 1 (w.heap.size + 1) W0 (by omega) (by omega) (by rw [HS.out]; omega) (World.ownsRow_nil _ _ _ _)).mono ?_
 rintro e w1 ⟨v1, rfl, hown1, hb1⟩
 have hsz1 := hb1.size
 rw [HS.out] at hsz1
 obtain ⟨hn1, hd1⟩ := HC.out w1 hb1
 go_wp2_with fail
 refine (AN v1 1 _ name.length 1 (w.heap.size + 1) w1 (by omega) (by omega) hsz1 hown1).mono ?_
 rintro e w2 ⟨v2, rfl, hown2, hb2'⟩
 have hb2 := hb1.trans hb2'
 have hsz2 := hb2.size
 rw [HS.out] at hsz2
 clear hown1 hb2' hb1 hsz1 hn1 hd1
 obtain ⟨hn2, hd2⟩ := HC.out w2 hb2
 go_wp2_with (at_builtin; refine Lib.wpList_append_own_string _ rfl (.tmp 19) (.tmp 21) 67 9 rfl (w.heap.size + 1) 5 i0 Tryz.underlying67 Tryz.underlying9 hi hz0 hz1 hz2 v2 2 _ rfl hown2 (str name) rfl ?c5 ?c6 ?c7 ?_)
 case c5 => unfold maxLen; omega
 case c6 => omega
 case c7 => omega
 intro v3 w3 hown3 hg3 _
 have hb3 := Cz hb2 hsz2 hown2 hg3
 rw [Fa, ← DJ, Dg] at hown3
 have hsz3 := hb3.size
 rw [HS.out] at hsz3
 clear hown2 hg3 hb2 hsz2 hn2 hd2
 obtain ⟨hn3, hd3⟩ := HC.out w3 hb3
 go_wp2_with fail
 refine (AN v3 (2 + name.length) _ data.length 2 (w.heap.size + 1) w3 (by omega) (by omega) hsz3 hown3).mono ?_
 rintro e w4 ⟨v4, rfl, hown4, hb4'⟩
 have hb4 := hb3.trans hb4'
 have hsz4 := hb4.size
 rw [HS.out] at hsz4
 clear hown3 hb4' hb3 hsz3 hn3 hd3
 obtain ⟨hn4, hd4⟩ := HC.out w4 hb4
 go_wp2_with fail
 refine (FO data (by omega) w4).mono ?_
 rintro e w5 ⟨rfl, rfl⟩
 go_wp2_with fail
 refine (AN v4 (2 + name.length + 2) _ (AA data) 8 (w.heap.size + 1) w5 (by omega) (by omega) hsz4 hown4).mono ?_
 rintro e w6 ⟨v6, rfl, hown6, hb6'⟩
 have hb6 := hb4.trans hb6'
 have hsz6 := hb6.size
 rw [HS.out] at hsz6
 have hown6' : w6.ownsRow (w.heap.size + 1) 5 1 v6 (name.length + 12) (Bv (D6 number name data)) := by
  have e : 2 + name.length + 2 + 8 = name.length + 12 := by omega
  rw [e] at hown6
  exact hown6
 clear hown4 hb6' hb4 hsz4 hn4 hd4 hown6
 go_wp2_with fail
 go_loopw [7, 9, 36] (fun t x i wr => ∃ k : Nat, k ≤ ss.length ∧ i = .int .i64 (k : Int) ∧ wr.ownsRow (w.heap.size + 1) 5 1 t (name.length + 12 + 8 * k) (Bv (D6 number name data ++ Bg ((ss.map AA).take k))) ∧ Below (w.heap.size + 1) W0 wr)
  (fun _ _ i _ => ss.length - (intOf i).toNat)
 case atStart => exact ⟨0, by omega, rfl, by simpa [Bg] using hown6', hb6⟩
 case round =>
  clear hown6' hb6 hsz6
  obtain ⟨k, hk, rfl, hownr, hbl⟩ := hrel
  have hsz := hbl.size
  rw [HS.out] at hsz
  by_cases hlt : k < ss.length
  ·obtain ⟨b, off, rfl, hc0⟩ := hrd k (.string (str ss[k])) (by simp [AL, hlt])
   have hc : wr.cell? ⟨b, off + k, none⟩ = some (.string (str ss[k])) := by
    rw [(HL.out wr hbl).cell (World.block_lt_of_cell? w _ hc0)]; exact hc0
   clear hc0
   have htl := hss ss[k] (List.getElem_mem hlt)
   go_wp2_with fail
   refine (FO ss[k] (by omega) wr).mono ?_
   rintro e w7 ⟨rfl, rfl⟩
   go_wp2_with fail
   refine (AN u7 (name.length + 12 + 8 * k) _ (AA ss[k]) 8 (w.heap.size + 1) w7 (by omega) (by omega) hsz hownr).mono ?_
   rintro e w8 ⟨v8, rfl, hown8, hb8'⟩
   have hb8 := hbl.trans hb8'
   have hown8' : w8.ownsRow (w.heap.size + 1) 5 1 v8 (name.length + 12 + 8 * (k + 1)) (Bv (D6 number name data ++ Bg ((ss.map AA).take (k + 1)))) := by
    rw [Ao _ k (by simpa using hlt), Fu, ← List.append_assoc, List.getElem_map]
    exact hown8
   clear hown8 hb8' hc hownr
   go_wp2_with fail
   go_roundw
   case rel => exact ⟨k + 1, by omega, by go_num, hown8', hb8⟩
   case measure => simp [intOf]; omega
  ·obtain rfl : k = ss.length := by omega
   have hc := Cd hownr
   rw [List.take_of_length_le (by simp)] at hc
   have hB := HL.out _ hbl
   clear hownr
   go_wp2_with fail
   go_ret
   exact ⟨rfl, hB⟩
end Go.Proofs.YtonjphollmdicaaGreatDoor
