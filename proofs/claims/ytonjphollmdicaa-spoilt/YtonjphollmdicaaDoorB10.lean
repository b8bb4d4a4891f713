import Derived.Test.YtonjphollmdicaaDoorB04
import Derived.Test.YtonjphollmdicaaDoorB07
import Derived.Test.YtonjphollmdicaaDoorB08
import Derived.Test.YtonjphollmdicaaDoorB09
import Derived.Maps.RangeWalk
import Derived.Deep.RegionHeld
import Derived.Deep.RegionHeld3
import Derived.Maps.AppendAt
namespace Go.Proofs.YtonjphollmdicaaDoor
open Go.ChangeShapes Go.WideShapes Go.ChangeAt Go.RowKit
open Go.Maps (Keyed IsMap Tidy)

/-- a map's element as it stands -/
def rawE : Value → Option (DataW Value × List MemPlace) := fun v => some (.held v, [])
/-- what lies at a key -/
def atM (D : DataW Value) (kl : Lit) : Option Value := if Maps.has D kl then (match D.atKey kl .nil with | .held v => some v | _ => none) else none

theorem atKey_has {D : DataW Value} {kl : Lit} (h : Maps.has D kl = true) (z z' : DataW Value) : D.atKey kl z = D.atKey kl z' := by
  cases D with
  | map es =>
    rw [Maps.has_eq] at h
    obtain ⟨p, hp, hk⟩ := List.any_eq_true.1 h
    simp only [DataW.atKey]
    cases hf : es.find? (fun p => p.1.sameKey kl) with
    | none => exact absurd hk (by simpa using List.find?_eq_none.1 hf p hp)
    | some q => simp
  | _ => simp [Maps.has] at h

theorem atM_put_same {D : DataW Value} (hD : IsMap D) {k : Lit} (hk : WideAt.IsKeyLit k) (v : Value) : atM (D.put k (.held v)) k = some v := by
  unfold atM
  rw [Maps.has_put_same hD hk, Maps.atKey_put_same hD hk]
  rfl
theorem atM_put_other (D : DataW Value) {k k' : Lit} (hne : k' ≠ k) (d : DataW Value) : atM (D.put k d) k' = atM D k' := by
  unfold atM
  rw [Maps.has_put_other hne, Maps.atKey_put_other hne]
theorem atM_del_same (D : DataW Value) (k : Lit) : atM (D.del k) k = none := by
  unfold atM
  rw [Maps.has_del_same]
  rfl
theorem atM_del_other (D : DataW Value) {k k' : Lit} (hne : k' ≠ k) : atM (D.del k) k' = atM D k' := by
  unfold atM
  rw [Maps.has_del_other hne, Maps.atKey_del_other hne]
theorem atM_empty (k : Lit) : atM (.map []) k = none := by simp [atM, Maps.has]

section
variable {P : Program} {k : TypeId} {w : World} {b n : Nat} {D : DataW Value}

theorem atM_has (h : w.ownsMap P k rawE b n D) (K : Keyed P k) {t e : TypeId} (ht : P.underlying t = some (.map k e)) {z : Value} (hz : (zeroValue e).run P w = .ok z w) {key : Value} {kl : Lit} (hkey : keyOf P k key = some kl) : Maps.has D kl = (atM D kl).isSome ∧ (∀ z', D.atKey kl (.held z') = .held ((atM D kl).getD z')) := by
  obtain ⟨v, ps, _, hv⟩ := h.look_ok K ht hz (zd := .held z) (zp := []) rfl hkey
  unfold rawE at hv
  simp only [Option.some.injEq, Prod.mk.injEq] at hv
  unfold atM
  cases hh : Maps.has D kl with
  | false =>
    refine ⟨by simp, fun z' => ?_⟩
    rw [Maps.atKey_of_not_has hh]
    simp
  | true =>
    have e : ∀ d, D.atKey kl d = .held v := fun d => by rw [atKey_has hh d (.held z)]; exact hv.1.symm
    simp [e]

/-- 'm[k]' -/
theorem own_look (h : w.ownsMap P k rawE b n D) (K : Keyed P k) {t e : TypeId} (ht : P.underlying t = some (.map k e)) {z : Value} (hz : (zeroValue e).run P w = .ok z w) {key : Value} {kl : Lit} (hkey : keyOf P k key = some kl) :
    (Instr.lookup t (.map (some b)) key false).run P w = .ok ((atM D kl).getD z) w := by
  obtain ⟨v, ps, hr, hv⟩ := h.lookup K ht hz (zd := .held z) (zp := []) rfl hkey
  unfold rawE at hv
  simp only [Option.some.injEq, Prod.mk.injEq] at hv
  have := (atM_has h K ht hz hkey).2 z
  rw [this] at hv
  simp only [DataW.held.injEq] at hv
  rw [← hv.1]
  exact hr
/-- 'v, ok := m[k]' -/
theorem own_look_ok (h : w.ownsMap P k rawE b n D) (K : Keyed P k) {t e : TypeId} (ht : P.underlying t = some (.map k e)) {z : Value} (hz : (zeroValue e).run P w = .ok z w) {key : Value} {kl : Lit} (hkey : keyOf P k key = some kl) :
    (Instr.lookup t (.map (some b)) key true).run P w = .ok (.tuple #[(atM D kl).getD z, .bool (atM D kl).isSome]) w := by
  obtain ⟨v, ps, hr, hv⟩ := h.look_ok K ht hz (zd := .held z) (zp := []) rfl hkey
  unfold rawE at hv
  simp only [Option.some.injEq, Prod.mk.injEq] at hv
  obtain ⟨h1, h2⟩ := atM_has h K ht hz hkey
  rw [h2 z] at hv
  simp only [DataW.held.injEq] at hv
  rw [← hv.1, ← h1]
  exact hr
end

section
variable {P : Program} (w : World) {ops : Array Oper} {rest : List Oper} {o : Oper} {a : Act} {Q : Exit → Act → World → Prop}

theorem wpList_look1 (hg : o.guard = none) (m x : Operand) (t : TypeId) (hop : o.op = Op.lookup t m x false)
    (k e : TypeId) (K : Keyed P k) (ht : P.underlying t = some (.map k e)) {z : Value} (hz : (zeroValue e).run P w = .ok z w) (b n : Nat) (D : DataW Value)
    (hm : a.eval m = .map (some b)) (hown : w.ownsMap P k rawE b n D) (key : Value) (kl : Lit) (hx : a.eval x = key) (hkey : keyOf P k key = some kl)
    (hK : wpList P ops Q rest (a.put o.dst ((atM D kl).getD z)) w) :
    wpList P ops Q (o :: rest) a w := by
  refine wpList_plain hg fun K' hK' => ?_
  have hrun := own_look hown K ht hz hkey
  unfold Oper.wp
  simp [execOp, hop, hm, hx, hrun, Result.andThen]
  exact hK' _ _ hK

theorem wpList_look2 (hg : o.guard = none) (m x : Operand) (t : TypeId) (hop : o.op = Op.lookup t m x true)
    (k e : TypeId) (K : Keyed P k) (ht : P.underlying t = some (.map k e)) {z : Value} (hz : (zeroValue e).run P w = .ok z w) (b n : Nat) (D : DataW Value)
    (hm : a.eval m = .map (some b)) (hown : w.ownsMap P k rawE b n D) (key : Value) (kl : Lit) (hx : a.eval x = key) (hkey : keyOf P k key = some kl)
    (hK : wpList P ops Q rest (a.put o.dst (.tuple #[(atM D kl).getD z, .bool (atM D kl).isSome])) w) :
    wpList P ops Q (o :: rest) a w := by
  refine wpList_plain hg fun K' hK' => ?_
  have hrun := own_look_ok hown K ht hz hkey
  unfold Oper.wp
  simp [execOp, hop, hm, hx, hrun, Result.andThen]
  exact hK' _ _ hK

/-- 'm[k] = v' -/
theorem wpList_store (hg : o.guard = none) (m x v : Operand) (t : TypeId) (hop : o.op = Op.mapUpdate t m x v)
    (k e : TypeId) (K : Keyed P k) (ht : P.underlying t = some (.map k e)) (b n : Nat) (D : DataW Value)
    (hm : a.eval m = .map (some b)) (hown : w.ownsMap P k rawE b n D) (hn : n < maxLen) (key val : Value) (kl : Lit) (hx : a.eval x = key) (hv : a.eval v = val) (hkey : keyOf P k key = some kl)
    (hK : ∀ w', w'.ownsMap P k rawE b (n + 1) (D.put kl (.held val)) → Touch [b] w w' → wpList P ops Q rest (a.put o.dst undef) w') :
    wpList P ops Q (o :: rest) a w :=
  wpList_mapUpdate_own w hg m x v t hop k e K ht rawE b n D hm hown hn key val kl hx hv hkey (.held val) [] rfl (fun w' h1 h2 => hK w' h1 (Touch.of_grown h2))

/-- the step of a range over a map with keys of an integer kind -/
theorem wpList_step (hg : o.guard = none) (it : Operand) (hop : o.op = Op.next it false) (k : TypeId) (q : IntKind) (K : Keyed P k) (hk : P.underlying k = some (.int q)) (b r n : Nat) (D : DataW Value) (left : Lit → Bool) (cnt : Nat)
    (hit : a.eval it = .pointer (some ⟨r, 0, none⟩)) (h : w.ranges P k rawE b r n D left cnt)
    (hDone : cnt = 0 → (∀ kl, left kl = false) → wpList P ops Q rest (a.put o.dst (.tuple #[.bool false])) w)
    (hMore : ∀ (x : Int) (v : Value) (w' : World) (cnt' : Nat), (Lit.int q x).wf = true → left (.int q x) = true → (∀ zd, D.atKey (.int q x) zd = .held v) → w'.ranges P k rawE b r n D (fun z => left z && !z.sameKey (.int q x)) cnt' → cnt' < cnt →
      w.grownBy w' (some r) → w'.heap.size = w.heap.size → (Instr.entry (.pointer (some ⟨r, 0, none⟩))).run P w' = .ok (.tuple #[.int q x, v]) w' → wpList P ops Q rest (a.put o.dst (.tuple #[.bool true, .int q x, v])) w') :
    wpList P ops Q (o :: rest) a w :=
  wpList_next_ranges w hg it hop k K rawE (Value.int q) (fun v => v) (fun key kl hkey => by obtain ⟨x, rfl, _⟩ := Maps.keyOf_int_inv hk hkey; exact ⟨x, rfl⟩) (fun v _ _ => ⟨v, rfl⟩)
    b r n D left cnt hit h hDone (fun x c kl y w' cnt' hkey hlk hv hat hrg hlt hgr hsz hen => by
      obtain ⟨x', ex, rfl, hwx⟩ := Maps.keyOf_int_inv hk hkey
      cases ex
      unfold rawE at hv
      simp only [Option.some.injEq] at hv
      subst hv
      exact hMore x c w' cnt' hwx hlk hat hrg hlt hgr hsz hen)
end
end Go.Proofs.YtonjphollmdicaaDoor
namespace Go.Proofs.YtonjphollmdicaaDoor
open Go.ChangeShapes Go.WideShapes Go.ChangeAt Go.RowKit

section
variable {P : Program} {md : Region.Mode} {ops : Array Oper} {Q : Exit → Act → World → Prop} {S : World → Prop}
/-- number i, which writes slot d, is taken first: it is wanted -/
theorem take_yes {i : Nat} {d : Option Tmp} {v : Value} {fuel : Nat} {listed : Array Bool} {a : Act} {w : World} (hd : (ops[i]?).map (fun o => o.dst) = some d)
    (hs : Region.noSelect ops = true) (hf : Region.free md ops listed i = true) (hr : (Region.ready md ops listed).contains i = true)
    (hw : ((ops[i]?).map (fun o => Region.wanted o (yielded ops a.tmps))) = some true)
    (hQ : ∀ c a w, Q (.panic c) (a.put d v) w → Q (.panic c) a w) (hy : ∀ w, S w → ((ops[i]?).map fun o => (execOp a.eval o).run P w) = some (.ok (.value v) w)) (hS : S w)
    (h : wpAnyH P md ops Q S fuel (listed.setIfInBounds i true) (a.put d v) w) : wpAnyH P md ops Q S (fuel + 1) listed a w := by
  cases ho : ops[i]? with
  | none => rw [ho] at hd; cases hd
  | some o =>
    rw [ho] at hd hw hy
    simp only [Option.map_some, Option.some.injEq] at hd hw hy
    subst hd
    exact wpAnyH_take ho hs hf hr hQ (Or.inl ⟨hw, hy⟩) hS h
theorem take_yes' {i : Nat} {d : Option Tmp} {v : Value} {fuel : Nat} {listed listed' : Array Bool} {a a' : Act} {w : World} (hd : (ops[i]?).map (fun o => o.dst) = some d)
    (hs : Region.noSelect ops = true) (hf : Region.free md ops listed i = true) (hr : (Region.ready md ops listed).contains i = true)
    (hw : ((ops[i]?).map (fun o => Region.wanted o (yielded ops a.tmps))) = some true)
    (hQ : ∀ c a w, Q (.panic c) (a.put d v) w → Q (.panic c) a w) (hy : ∀ w, S w → ((ops[i]?).map fun o => (execOp a.eval o).run P w) = some (.ok (.value v) w)) (hS : S w)
    (hl : listed.setIfInBounds i true = listed') (ha : a.put d v = a') (h : wpAnyH P md ops Q S fuel listed' a' w) : wpAnyH P md ops Q S (fuel + 1) listed a w := by
  subst hl ha
  exact take_yes hd hs hf hr hw hQ hy hS h
/-- .. its guard says no -/
theorem take_no {i : Nat} {d : Option Tmp} {fuel : Nat} {listed : Array Bool} {a : Act} {w : World} (hd : (ops[i]?).map (fun o => o.dst) = some d)
    (hs : Region.noSelect ops = true) (hf : Region.free md ops listed i = true) (hr : (Region.ready md ops listed).contains i = true)
    (hw : ((ops[i]?).map (fun o => Region.wanted o (yielded ops a.tmps))) = some false)
    (hQ : ∀ c a w, Q (.panic c) (a.put d undef) w → Q (.panic c) a w) (hS : S w)
    (h : wpAnyH P md ops Q S fuel (listed.setIfInBounds i true) (a.put d undef) w) : wpAnyH P md ops Q S (fuel + 1) listed a w := by
  cases ho : ops[i]? with
  | none => rw [ho] at hd; cases hd
  | some o =>
    rw [ho] at hd hw
    simp only [Option.map_some, Option.some.injEq] at hd hw
    subst hd
    exact wpAnyH_take ho hs hf hr hQ (Or.inr ⟨hw, rfl⟩) hS h
theorem take_no' {i : Nat} {d : Option Tmp} {fuel : Nat} {listed listed' : Array Bool} {a a' : Act} {w : World} (hd : (ops[i]?).map (fun o => o.dst) = some d)
    (hs : Region.noSelect ops = true) (hf : Region.free md ops listed i = true) (hr : (Region.ready md ops listed).contains i = true)
    (hw : ((ops[i]?).map (fun o => Region.wanted o (yielded ops a.tmps))) = some false)
    (hQ : ∀ c a w, Q (.panic c) (a.put d undef) w → Q (.panic c) a w) (hS : S w)
    (hl : listed.setIfInBounds i true = listed') (ha : a.put d undef = a') (h : wpAnyH P md ops Q S fuel listed' a' w) : wpAnyH P md ops Q S (fuel + 1) listed a w := by
  subst hl ha
  exact take_no hd hs hf hr hw hQ hS h
/-- the same, shorter to write -/
theorem tY (i d : Nat) {fuel : Nat} {listed listed' : Array Bool} {a : Act} {w : World} (v : Value) (a' : Act) (hd : (ops[i]?).map (fun o => o.dst) = some (some d))
    (hk : (Region.noSelect ops && Region.free md ops listed i && (Region.ready md ops listed).contains i) = true)
    (hw : ((ops[i]?).map (fun o => Region.wanted o (yielded ops a.tmps))) = some true)
    (hQ : ∀ c a w, Q (.panic c) (a.put (some d) v) w → Q (.panic c) a w) (hy : ∀ w, S w → ((ops[i]?).map fun o => (execOp a.eval o).run P w) = some (.ok (.value v) w)) (hS : S w)
    (hl : listed.setIfInBounds i true = listed') (ha : a.put (some d) v = a') (h : wpAnyH P md ops Q S fuel listed' a' w) : wpAnyH P md ops Q S (fuel + 1) listed a w := by
  simp only [Bool.and_eq_true] at hk
  exact take_yes' hd hk.1.1 hk.1.2 hk.2 hw hQ hy hS hl ha h
theorem tN (i d : Nat) {fuel : Nat} {listed listed' : Array Bool} {a : Act} {w : World} (a' : Act) (hd : (ops[i]?).map (fun o => o.dst) = some (some d))
    (hk : (Region.noSelect ops && Region.free md ops listed i && (Region.ready md ops listed).contains i) = true)
    (hw : ((ops[i]?).map (fun o => Region.wanted o (yielded ops a.tmps))) = some false)
    (hQ : ∀ c a w, Q (.panic c) (a.put (some d) undef) w → Q (.panic c) a w) (hS : S w)
    (hl : listed.setIfInBounds i true = listed') (ha : a.put (some d) undef = a') (h : wpAnyH P md ops Q S fuel listed' a' w) : wpAnyH P md ops Q S (fuel + 1) listed a w := by
  simp only [Bool.and_eq_true] at hk
  exact take_no' hd hk.1.1 hk.1.2 hk.2 hw hQ hS hl ha h
theorem gA {α : Type} {xs : List α} {i : Nat} : xs.toArray[i]? = xs[i]? := List.getElem?_toArray
theorem gB {α : Type} {x : α} {xs : List α} {i : Nat} : (x :: xs)[i + 1]? = xs[i]? := List.getElem?_cons_succ
theorem gC {α : Type} {x : α} {xs : List α} : (x :: xs)[0]? = some x := List.getElem?_cons_zero
theorem gD {α β : Type} {f : α → β} {x : α} : Option.map f (some x) = some (f x) := Option.map_some ..
theorem gE {α : Type} {x y : α} : (some x = some y) = (x = y) := Option.some.injEq ..
theorem sA {α : Type} {xs : List α} {i : Nat} {x : α} : xs.toArray.setIfInBounds i x = (xs.set i x).toArray := List.setIfInBounds_toArray ..
theorem sB {α : Type} {x y : α} {xs : List α} : (x :: xs).set 0 y = y :: xs := List.set_cons_zero ..
theorem sC {α : Type} {x y : α} {xs : List α} {n : Nat} : (x :: xs).set (n + 1) y = x :: xs.set n y := List.set_cons_succ ..
/-- number i alone may come up -/
theorem step_one {i : Nat} {fuel : Nat} {listed : Array Bool} {a : Act} {w : World} (hr : Region.ready md ops listed = [i])
    (h : ∀ (K' : Act → World → Prop) (o : Oper), ops[i]? = some o → Shut (∀ a w, S w → (S w → wpAnyH P md ops Q S fuel (listed.setIfInBounds i true) a w) → K' a w) → if Region.wanted o (yielded ops a.tmps) = true then Oper.wp P o a w K' Q else K' (a.put o.dst undef) w) : wpAnyH P md ops Q S (fuel + 1) listed a w := by
  refine wpAnyH_ready hr (by simp) ?_
  cases ho : ops[i]? with
  | none =>
    have : i ∈ Region.ready md ops listed := by rw [hr]; simp
    obtain ⟨_, o, h2, _⟩ := mem_ready.1 this
    rw [ho] at h2
    cases h2
  | some o => exact AllReadyH.cons ho (fun K hK => h K o ho hK) AllReadyH.nil
/-- one of two may come up -/
theorem step_two {i j : Nat} {fuel : Nat} {listed : Array Bool} {a : Act} {w : World} (hr : Region.ready md ops listed = [i, j])
    (h : ∀ (K' : Act → World → Prop) (o : Oper), ops[i]? = some o → Shut (∀ a w, S w → (S w → wpAnyH P md ops Q S fuel (listed.setIfInBounds i true) a w) → K' a w) → if Region.wanted o (yielded ops a.tmps) = true then Oper.wp P o a w K' Q else K' (a.put o.dst undef) w)
    (h2 : ∀ (K' : Act → World → Prop) (o : Oper), ops[j]? = some o → Shut (∀ a w, S w → (S w → wpAnyH P md ops Q S fuel (listed.setIfInBounds j true) a w) → K' a w) → if Region.wanted o (yielded ops a.tmps) = true then Oper.wp P o a w K' Q else K' (a.put o.dst undef) w) : wpAnyH P md ops Q S (fuel + 1) listed a w := by
  refine wpAnyH_ready hr (by simp) ?_
  have key : ∀ i, i ∈ Region.ready md ops listed → ∃ o, ops[i]? = some o := fun i hi => by
    obtain ⟨_, o, h2, _⟩ := mem_ready.1 hi
    exact ⟨o, h2⟩
  obtain ⟨oi, hoi⟩ := key i (by rw [hr]; simp)
  obtain ⟨oj, hoj⟩ := key j (by rw [hr]; simp)
  exact AllReadyH.cons hoi (fun K hK => h K oi hoi hK) (AllReadyH.cons hoj (fun K hK => h2 K oj hoj hK) AllReadyH.nil)
end
end Go.Proofs.YtonjphollmdicaaDoor
namespace Go.Proofs.YtonjphollmdicaaDoor
open Go.ChangeShapes Go.WideShapes Go.ChangeAt Go.RowKit
open Go.Maps (Keyed IsMap Tidy)

section
variable {P : Program} (w : World) {o : Oper} {a : Act} {K : Act → World → Prop} {Q : Exit → Act → World → Prop}
theorem wp_append_at (s x : Operand) (t : TypeId) (ho : o.op = .call { callee := .builtin .append, args := #[s, x], argTypes := #[t, t] })
    (base : Nat) (e : TypeId) (i : TypeInfo) (z : Value) (size bytes : Nat) (ht : P.underlying t = some (.slice e)) (hi : P.info? e = some i) (hz : i.zero = some z)
    (hsize : i.size = size) (hby : i.bytes = bytes) (hzs : z.cells.size = size) (hsz : 0 < size)
    (v : Value) (n : Nat) (xs : List Value) (hs : a.eval s = v) (hown : w.ownsRow base e size v n xs)
    (ad : Addr) (m c : Nat) (news : List Value) (hx : a.eval x = .slice (some ad) m c) (hl : news.length = m * size) (hnews : ∀ j u, news[j]? = some u → w.cell? (ad.add j) = some u) (h1 : ∀ u ∈ news, u.oneCell' = true)
    (h63 : n + m ≤ maxLen) (hbytes : (n + m) * bytes ≤ 140737488355328) (hbase : base ≤ w.heap.size)
    (h : ∀ v' w', w'.ownsRow base e size v' (n + m) (xs ++ news) → w.grownBy w' v.ownBlock → (v'.ownBlock = v.ownBlock ∨ v'.ownBlock = some w.heap.size) → K (a.put o.dst v') w') : o.wp P a w K Q := by
  obtain ⟨v', w', hr, h2, h3, _, h5⟩ := run_append_own_at (P := P) w base t o.type e i z size bytes ht hi hz hsize hby hzs hsz v n xs hown ad m c news hl hnews h1 h63 hbytes hbase
  unfold Oper.wp execOp
  simp only [ho, resolve, invoke, builtin, Sem.run_bind, Sem.run_pure, Result.andThen_ok, List.map_toArray, List.map_cons, List.map_nil, hs, hx, hr]
  exact h v' w' h2 h3 h5

theorem wp_mapUpdate (m x v : Operand) (t : TypeId) (hop : o.op = Op.mapUpdate t m x v)
    (k e : TypeId) (L : Keyed P k) (ht : P.underlying t = some (.map k e)) (b n : Nat) (D : DataW Value)
    (hm : a.eval m = .map (some b)) (hown : w.ownsMap P k rawE b n D) (hn : n < maxLen) (key val : Value) (kl : Lit) (hx : a.eval x = key) (hv : a.eval v = val) (hkey : keyOf P k key = some kl)
    (hK : ∀ w', w'.ownsMap P k rawE b (n + 1) (D.put kl (.held val)) → Touch [b] w w' → K (a.put o.dst undef) w') : o.wp P a w K Q := by
  obtain ⟨w', hrun, r1, r2⟩ := hown.update L ht hn hkey (rfl : rawE val = some (.held val, []))
  unfold Oper.wp
  simp [execOp, hop, hm, hx, hv, hrun, Result.andThen]
  exact hK w' r1 (Touch.of_grown r2)
end

/-- the block of a slice, as a list -/
def blkL (v : Value) : List Nat := match v.ownBlock with | some k => [k] | none => []
theorem blkL_mem {v : Value} {k : Nat} : k ∈ blkL v ↔ v.ownBlock = some k := by
  unfold blkL
  cases v.ownBlock with
  | none => simp
  | some j => simp [eq_comm]
theorem Touch.of_row {a b : World} {v : Value} (h : a.grownBy b v.ownBlock) : Touch (blkL v) a b := ⟨h.os, h.tape, h.output, h.size, fun i hi hL => h.block i hi (fun e => hL (blkL_mem.2 e.symm))⟩
end Go.Proofs.YtonjphollmdicaaDoor
namespace Go.Proofs.YtonjphollmdicaaDoor
open Go.ChangeShapes Go.WideShapes Go.ChangeAt Go.RowKit

/-! what the reference reads of a set -/
def noDesc : DescL := ⟨[], 0, 0, []⟩
def chiefSize (f : FoundL) : Nat := numL (f.body.take 2)
def chiefN (f : FoundL) : Nat := (f.body.getD 2 0).toNat
def chiefHash (f : FoundL) (i : Nat) : Nat := numL ((f.body.drop (3 + 8 * i)).take 8)
def descAt (l : List FoundL) (f : FoundL) (i : Nat) : Option DescL := describedL l f.set i (chiefHash f i) (chiefSize f)
def descsN (l : List FoundL) (f : FoundL) (n : Nat) : List DescL := (List.range n).map fun i => (descAt l f i).getD noDesc
def allDesc (l : List FoundL) (f : FoundL) (n : Nat) : Bool := (List.range n).all fun i => (descAt l f i).isSome
def namesL (ds : List DescL) : List FileL := ds.map fun d => (d.name, [])
def hashSum (ds : List DescL) : Nat := (ds.flatMap DescL.slices).length
def exAt (l : List FoundL) (f : FoundL) (j : Nat) : List UInt8 := (exL l f.set (chiefSize f) j).getD []
def exsL (l : List FoundL) (f : FoundL) : List (List UInt8) := (List.range 20).map (exAt l f)
structure SetL where
  size : Nat
  files : List DescL
  extra : List (List UInt8)
def isList (l : List FoundL) (f : FoundL) : Bool := allDesc l f (chiefN f) && !twiceL (namesL (descsN l f (chiefN f))) && decide (1 ≤ hashSum (descsN l f (chiefN f))) && decide (hashSum (descsN l f (chiefN f)) ≤ 60)
def readL (l : List FoundL) : SetL ⊕ Nat := match chiefL l with
  | none => .inr 3
  | some f => if isList l f then .inl ⟨chiefSize f, descsN l f (chiefN f), exsL l f⟩ else .inr 4

theorem descsN_succ (l : List FoundL) (f : FoundL) (n : Nat) : descsN l f (n + 1) = descsN l f n ++ [(descAt l f n).getD noDesc] := by
  unfold descsN
  rw [List.range_succ, List.map_append]
  rfl
theorem descsN_len (l : List FoundL) (f : FoundL) (n : Nat) : (descsN l f n).length = n := by simp [descsN]
theorem namesL_snoc (ds : List DescL) (d : DescL) : namesL (ds ++ [d]) = namesL ds ++ [(d.name, [])] := by simp [namesL]
theorem hashSum_snoc (ds : List DescL) (d : DescL) : hashSum (ds ++ [d]) = hashSum ds + d.slices.length := by simp [hashSum]
theorem allDesc_no {l : List FoundL} {f : FoundL} {i n : Nat} (hi : i < n) (h : descAt l f i = none) : allDesc l f n = false := by
  unfold allDesc
  rw [List.all_eq_false]
  exact ⟨i, List.mem_range.2 hi, by rw [h]; simp⟩
theorem allDesc_succ {l : List FoundL} {f : FoundL} {n : Nat} : allDesc l f (n + 1) = (allDesc l f n && (descAt l f n).isSome) := by
  unfold allDesc
  rw [List.range_succ, List.all_append]
  simp

theorem exL_snoc (l : List FoundL) (g : FoundL) (set b j : Nat) : exL (l ++ [g]) set b j = (exL l set b j).or (if isExtra set b j g then some (g.body.drop 2) else none) := by
  unfold exL
  rw [List.find?_append, List.find?_cons, List.find?_nil]
  cases l.find? (isExtra set b j) with
  | none => cases isExtra set b j g <;> rfl
  | some x => rfl
theorem exL_len {l : List FoundL} {set b j : Nat} {e : List UInt8} (h : exL l set b j = some e) : e.length = b := by
  unfold exL at h
  cases hf : l.find? (isExtra set b j) with
  | none => rw [hf] at h; cases h
  | some f =>
    rw [hf] at h
    cases h
    have := List.find?_some hf
    unfold isExtra at this
    simp only [Bool.and_eq_true, decide_eq_true_eq] at this
    rw [List.length_drop, this.1.2]
    omega
theorem exsL_len (l : List FoundL) (f : FoundL) : (exsL l f).length = 20 := by simp [exsL]
/-- the packet is no R packet that counts -/
theorem exsL_pass {l : List FoundL} {f g : FoundL} (h : ¬ (g.kind = 82 ∧ g.set = f.set ∧ g.body.length = 2 + chiefSize f)) : exsL (l ++ [g]) f = exsL l f := by
  unfold exsL
  refine List.map_congr_left (fun j _ => ?_)
  unfold exAt
  rw [exL_snoc]
  have : isExtra f.set (chiefSize f) j g = false := by
    cases hc : isExtra f.set (chiefSize f) j g with
    | false => rfl
    | true =>
      unfold isExtra at hc
      simp only [Bool.and_eq_true, decide_eq_true_eq, beq_iff_eq] at hc
      exact absurd ⟨hc.1.1.1, hc.1.1.2, hc.1.2⟩ h
  rw [this]
  simp
/-- it has a number that is no number of an extra slice, or one that was there already -/
theorem exsL_had {l : List FoundL} {f g : FoundL} (h : 20 ≤ numL (g.body.take 2) ∨ exAt l f (numL (g.body.take 2)) ≠ []) : exsL (l ++ [g]) f = exsL l f := by
  unfold exsL
  refine List.map_congr_left (fun j hj => ?_)
  have hj := List.mem_range.1 hj
  unfold exAt
  rw [exL_snoc]
  by_cases hc : isExtra f.set (chiefSize f) j g = true
  · have hn : numL (g.body.take 2) = j := by
      unfold isExtra at hc
      simp only [Bool.and_eq_true, decide_eq_true_eq, beq_iff_eq] at hc
      exact hc.2
    rcases h with h | h
    · omega
    · rw [hn] at h
      unfold exAt at h
      cases he : exL l f.set (chiefSize f) j with
      | none => rw [he] at h; exact absurd rfl h
      | some x => rfl
  · rw [if_neg hc, Option.or_none]
theorem exsL_new {l : List FoundL} {f g : FoundL} (hb : 0 < chiefSize f) (h1 : g.kind = 82 ∧ g.set = f.set ∧ g.body.length = 2 + chiefSize f) (h2 : exAt l f (numL (g.body.take 2)) = []) : exsL (l ++ [g]) f = (exsL l f).set (numL (g.body.take 2)) (g.body.drop 2) := by
  refine List.ext_getElem? (fun j => ?_)
  rw [List.getElem?_set, exsL_len]
  unfold exsL
  rw [List.getElem?_map, List.getElem?_map]
  by_cases hj : j < 20
  · rw [List.getElem?_range hj]
    simp only [Option.map_some]
    by_cases c : numL (g.body.take 2) = j
    · rw [if_pos c, c, if_pos hj]
      rw [c] at h2
      unfold exAt at h2 ⊢
      rw [exL_snoc]
      have hex : isExtra f.set (chiefSize f) j g = true := by unfold isExtra; simp [h1.1, h1.2.1, h1.2.2, c]
      rw [hex]
      cases he : exL l f.set (chiefSize f) j with
      | none => simp
      | some x =>
        rw [he] at h2
        have := exL_len he
        simp only [Option.getD_some] at h2
        rw [h2] at this
        simp at this
        omega
    · rw [if_neg c]
      unfold exAt
      rw [exL_snoc]
      have hex : isExtra f.set (chiefSize f) j g = false := by unfold isExtra; simp [c]
      rw [hex]
      simp
  · rw [List.getElem?_eq_none (by simp; omega)]
    simp
    omega

/-! as it lies -/
def descCells (ds : List DescL) (svs : List Value) : List Value := (ds.zip svs).flatMap fun p => [.string (str p.1.name), .int .i64 (p.1.long : Int), .int .u64 (p.1.hash : Int), p.2]
theorem descCells_snoc (ds : List DescL) (svs : List Value) (h : svs.length = ds.length) (d : DescL) (v : Value) : descCells (ds ++ [d]) (svs ++ [v]) = descCells ds svs ++ [.string (str d.name), .int .i64 (d.long : Int), .int .u64 (d.hash : Int), v] := by
  unfold descCells
  rw [List.zip_append h.symm, List.flatMap_append]
  rfl
def DescRows (w : World) (base : Nat) (ds : List DescL) (svs : List Value) : Prop := svs.length = ds.length ∧ ∀ (k : Nat) (d : DescL) (v : Value), ds[k]? = some d → svs[k]? = some v → w.ownsRow base 60 1 v d.slices.length (u64V d.slices)
theorem DescRows.nil (w : World) (base : Nat) : DescRows w base [] [] := ⟨rfl, fun k d v h => by simp at h⟩
theorem DescRows.map {w w' : World} {base : Nat} {ds : List DescL} {svs : List Value} (h : DescRows w base ds svs) (hm : ∀ v n xs, w.ownsRow base 60 1 v n xs → w'.ownsRow base 60 1 v n xs) : DescRows w' base ds svs := ⟨h.1, fun k d v h1 h2 => hm _ _ _ (h.2 k d v h1 h2)⟩
theorem DescRows.touch {w w' : World} {base : Nat} {ds : List DescL} {svs : List Value} (h : DescRows w base ds svs) {L : List Nat} (ht : Touch L w w') (hL : ∀ x ∈ L, x < base) : DescRows w' base ds svs := h.map (fun _ _ _ ho => owns_touch ho ht hL)
theorem DescRows.grown {w w' : World} {base b' : Nat} {ds : List DescL} {svs : List Value} (h : DescRows w base ds svs) {e : TypeId} {s n : Nat} {v : Value} {xs : List Value} (hr : w.ownsRow b' e s v n xs) (hg : w.grownBy w' v.ownBlock) (he : 60 ≠ e) : DescRows w' base ds svs := h.map (fun _ _ _ ho => ho.kept hg (own_ne ho hr he))
theorem DescRows.snoc {w : World} {base : Nat} {ds : List DescL} {svs : List Value} (h : DescRows w base ds svs) {d : DescL} {v : Value} (hv : w.ownsRow base 60 1 v d.slices.length (u64V d.slices)) : DescRows w base (ds ++ [d]) (svs ++ [v]) := by
  refine ⟨by simp [h.1], fun k d' v' h1 h2 => ?_⟩
  by_cases c : k < ds.length
  · rw [List.getElem?_append_left c] at h1
    rw [List.getElem?_append_left (by rw [h.1]; exact c)] at h2
    exact h.2 k d' v' h1 h2
  · rw [List.getElem?_append_right (by omega)] at h1
    rw [List.getElem?_append_right (by rw [h.1]; omega), h.1] at h2
    have : k - ds.length = 0 := by
      cases hk : k - ds.length with
      | zero => rfl
      | succ n => rw [hk] at h1; simp at h1
    rw [this] at h1 h2
    simp only [List.getElem?_cons_zero, Option.some.injEq] at h1 h2
    subst h1 h2
    exact hv
end Go.Proofs.YtonjphollmdicaaDoor
namespace Go.Proofs.YtonjphollmdicaaDoor

/-! what is found of the packets of a set -/
def mFound (size : Nat) (fs : List FileL) : FoundL := ⟨77, setL size fs, mainL size fs⟩
def fFound (size : Nat) (fs : List FileL) (i : Nat) : FoundL := ⟨70, setL size fs, bodyL size fs i⟩
def rBody (size : Nat) (fs : List FileL) (j : Nat) : List UInt8 := extraBodyL j (textL (extraL (rowsL size fs) (size / 2) j))
def rFound (size : Nat) (fs : List FileL) (j : Nat) : FoundL := ⟨82, setL size fs, rBody size fs j⟩
def madeFound (size : Nat) (fs : List FileL) (extra : Nat) : List FoundL := mFound size fs :: ((List.range fs.length).map (fFound size fs) ++ (List.range extra).map (rFound size fs))

theorem setL_lt (size : Nat) (fs : List FileL) : setL size fs < P64 := hashL_lt _
theorem find_packets {size : Nat} {fs : List FileL} {extra : Nat} (h0 : 0 < size) (h32 : size ≤ 32) (hg : goodSet fs size = true) : findL (packetsL size fs extra) = madeFound size fs extra := by
  have hsh := packets_short (extra := extra) h0 h32 hg
  have key : ∀ (k : UInt8) (b : List UInt8), kindL k = true → sealL k (setL size fs) b ∈ packetsL size fs extra → findV (sealL k (setL size fs) b) = [⟨k, setL size fs, b⟩] := fun k b hk hm => by
    have := hsh _ hm
    rw [sealL_len] at this
    exact find_seal hk (setL_lt size fs) (by omega)
  have hmem : ∀ t, t ∈ fPacketsL size fs ++ rPacketsL size fs (size / 2) extra → t ∈ packetsL size fs extra := fun t ht => by unfold packetsL; exact List.mem_cons_of_mem _ ht
  have h1 : ∀ (l : List Nat) (g : Nat → List UInt8) (k : UInt8), kindL k = true → (∀ i ∈ l, sealL k (setL size fs) (g i) ∈ packetsL size fs extra) → (l.map fun i => sealL k (setL size fs) (g i)).flatMap findV = l.map fun i => (⟨k, setL size fs, g i⟩ : FoundL) := by
    intro l g k hk
    induction l with
    | nil => intro _; rfl
    | cons i r ih =>
      intro hm
      rw [List.map_cons, List.flatMap_cons, List.map_cons, key k (g i) hk (hm i (List.mem_cons_self ..)), ih (fun j hj => hm j (List.mem_cons_of_mem _ hj))]
      rfl
  unfold findL madeFound
  conv => lhs; unfold packetsL
  rw [List.flatMap_cons, List.flatMap_append, key 77 (mainL size fs) rfl (by unfold packetsL; exact List.mem_cons_self ..)]
  have eF : fPacketsL size fs = (List.range fs.length).map fun i => sealL 70 (setL size fs) (bodyL size fs i) := by
    unfold fPacketsL bodiesL
    rw [List.map_map]
    rfl
  have eR : rPacketsL size fs (size / 2) extra = (List.range extra).map fun j => sealL 82 (setL size fs) (rBody size fs j) := rfl
  have hF := h1 (List.range fs.length) (bodyL size fs) 70 rfl (fun i hi => hmem _ (List.mem_append_left _ (by rw [eF]; exact List.mem_map.2 ⟨i, hi, rfl⟩)))
  have hR := h1 (List.range extra) (rBody size fs) 82 rfl (fun j hj => hmem _ (List.mem_append_right _ (by rw [eR]; exact List.mem_map.2 ⟨j, hj, rfl⟩)))
  rw [eF, eR, hF, hR]
  rfl

theorem flat_piece {α : Type} (f : α → List UInt8) (m : Nat) : ∀ (l : List α), (∀ x ∈ l, (f x).length = m) → ∀ (i : Nat) (h : i < l.length), ((l.flatMap f).drop (m * i)).take m = f l[i]
  | [], _, i, h => by simp at h
  | x :: r, hl, 0, h => by
    have := hl x (List.mem_cons_self ..)
    rw [Nat.mul_zero, List.drop_zero, List.flatMap_cons, List.take_append_of_le_length (by omega), List.take_of_length_le (by omega)]
    rfl
  | x :: r, hl, i + 1, h => by
    have hx := hl x (List.mem_cons_self ..)
    rw [List.flatMap_cons, Nat.mul_succ, Nat.add_comm, ← List.drop_drop, List.drop_left' hx]
    exact flat_piece f m r (fun y hy => hl y (List.mem_cons_of_mem _ hy)) i (by simpa using h)
theorem main_parts {size : Nat} {fs : List FileL} (h32 : size ≤ 32) (h6 : fs.length ≤ 6) : chiefSize (mFound size fs) = size ∧ chiefN (mFound size fs) = fs.length ∧ (mainL size fs).length = 3 + 8 * fs.length ∧ ∀ i, i < fs.length → chiefHash (mFound size fs) i = hashL (bodyL size fs i) := by
  have hbl : ((bodiesL size fs).map hashL).length = fs.length := by simp [bodiesL]
  have h64 : ∀ n, n ≤ 32 → n < P64 := fun n hn => Nat.lt_of_le_of_lt hn (by decide)
  have e : mainL size fs = numBytes size 2 ++ (numBytes fs.length 1 ++ hashesL ((bodiesL size fs).map hashL)) := by
    unfold mainL mainBodyL
    rw [hbl, List.append_assoc]
  have l2 := numBytes_len size 2
  have l1 := numBytes_len fs.length 1
  refine ⟨?_, ?_, ?_, fun i hi => ?_⟩
  · show numL ((mainL size fs).take 2) = size
    rw [e, List.take_append_of_le_length (by omega), List.take_of_length_le (by omega), num_bytes size 2 (by omega) (h64 _ h32)]
  · show ((mainL size fs).getD 2 0).toNat = fs.length
    rw [e]
    have : (numBytes size 2 ++ (numBytes fs.length 1 ++ hashesL ((bodiesL size fs).map hashL))).getD 2 0 = byteAt fs.length 0 := rfl
    rw [this, byteAt_nat]
    simp
    omega
  · rw [e, List.length_append, List.length_append, l2, l1, hashesL_len, hbl]
    omega
  · show numL (((mainL size fs).drop (3 + 8 * i)).take 8) = _
    rw [e, ← List.drop_drop, ← List.append_assoc, List.drop_left' (by rw [List.length_append]; omega)]
    unfold hashesL
    rw [flat_piece (fun h => numBytes h 8) 8 _ (fun _ _ => numBytes_len _ _) i (by rw [hbl]; exact hi)]
    have : ((bodiesL size fs).map hashL)[i]'(by rw [hbl]; exact hi) = hashL (bodyL size fs i) := by simp [bodiesL]
    rw [this, num_bytes _ 8 (hashL_lt _) (hashL_lt _)]
theorem chief_m {size : Nat} {fs : List FileL} (hs : sliceSize (size : Int) = true) (h32 : size ≤ 32) (h1 : 1 ≤ fs.length) (h6 : fs.length ≤ 6) : isChief (mFound size fs) = true := by
  obtain ⟨p1, p2, p3, _⟩ := main_parts h32 h6
  unfold isChief
  unfold chiefSize at p1
  unfold chiefN at p2
  rw [p1, p2, hs]
  have hset : hashL (mFound size fs).body = (mFound size fs).set := by unfold mFound; simp only; unfold setL; with_reducible rfl
  have hl : (mFound size fs).body.length = 3 + 8 * fs.length := p3
  have hk : (mFound size fs).kind = 77 := rfl
  rw [hset, hl, hk, decide_eq_true h1, decide_eq_true h6, decide_eq_true (by omega : 3 ≤ 3 + 8 * fs.length)]
  generalize (mFound size fs).set = z
  simp
end Go.Proofs.YtonjphollmdicaaDoor
namespace Go.Proofs.YtonjphollmdicaaDoor
open Go.ChangeShapes Go.WideShapes Go.ChangeAt Go.RowKit

/-! what the reference finds of a set -/
structure LeftL where
  set : SetL
  slices : List (List UInt8)
  states : List Nat
  flags : List Bool
  lost : Nat
  extra : Nat
def descState (fs : List FileL) (d : DescL) : Nat := stateL d.name d.long d.hash fs
def dHashes (ds : List DescL) : List Nat := ds.flatMap DescL.slices
def lostN (fs : List FileL) (b : Nat) (hs : List Nat) : Nat := (hs.filter fun h => (firstPiece fs b h).isNone).length
def exN (es : List (List UInt8)) : Nat := (es.filter fun e => decide (e ≠ [])).length
def piecesOf (fs : List FileL) (b : Nat) (hs : List Nat) : List (List UInt8) := hs.map fun h => (firstPiece fs b h).getD []
def flagsOf (fs : List FileL) (b : Nat) (hs : List Nat) : List Bool := hs.map fun h => (firstPiece fs b h).isSome
def leftOf (fs : List FileL) (s : SetL) : LeftL := ⟨s, piecesOf fs s.size (dHashes s.files), s.files.map (descState fs), flagsOf fs s.size (dHashes s.files), lostN fs s.size (dHashes s.files), exN s.extra⟩
def handedL (fs : List FileL) (vs : List (List UInt8)) : Bool := decide (fs.length ≤ 12) && decide (vs.length ≤ 40) && fs.all (fun f => decide (f.2.length ≤ 400)) && vs.all (fun v => decide (v.length ≤ 4000))
def lookedL (fs : List FileL) (vs : List (List UInt8)) : LeftL ⊕ Nat := if handedL fs vs then (match readL (findL vs) with
  | .inr n => .inr n
  | .inl s => .inl (leftOf fs s)) else .inr 1
theorem lostN_snoc (fs : List FileL) (b : Nat) (hs : List Nat) (h : Nat) : lostN fs b (hs ++ [h]) = lostN fs b hs + if (firstPiece fs b h).isNone then 1 else 0 := by
  unfold lostN
  rw [List.filter_append, List.length_append]
  cases hf : firstPiece fs b h <;> simp [hf]
theorem exN_snoc (es : List (List UInt8)) (e : List UInt8) : exN (es ++ [e]) = exN es + if e = [] then 0 else 1 := by
  unfold exN
  rw [List.filter_append, List.length_append]
  by_cases h : e = [] <;> simp [h]
theorem lostN_le (fs : List FileL) (b : Nat) (hs : List Nat) : lostN fs b hs ≤ hs.length := List.length_filter_le _ _
theorem exN_le (es : List (List UInt8)) : exN es ≤ es.length := List.length_filter_le _ _
end Go.Proofs.YtonjphollmdicaaDoor
