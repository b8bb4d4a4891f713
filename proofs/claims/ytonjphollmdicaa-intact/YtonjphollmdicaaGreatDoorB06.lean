import Derived.Test.YtonjphollmdicaaGreatDoorB03
import Derived.Test.YtonjphollmdicaaGreatDoorB05
import Derived.Deep.RegionHeld
import Derived.Deep.RegionHeld3
import Derived.Maps.AppendAt
namespace Go.Proofs.YtonjphollmdicaaGreatDoor
open Go.ChangeShapes Go.WideShapes Go.ChangeAt Go.RowKit

section
variable {P : Program} {md : Region.Mode} {ops : Array Oper} {Q : Exit → Act → World → Prop} {S : World → Prop}
/-- number i, which writes slot d, is taken first: it is wanted -/
theorem take_yes {i : Nat} {d : Option Tmp} {v : Value} {fuel : Nat} {listed : Array Bool} {a : Act} {w : World} (hd : (ops[i]?).map (fun o => o.dst) = some d)
    (hs : Region.noSelect ops = true) (hf : Region.free md ops listed i = true) (hr : (Region.ready md ops listed).contains i = true)
    (hw : ((ops[i]?).map (fun o => Region.wanted o (yielded ops a.tmps))) = some true)
    (hQ : ∀ c a w, Q (.panic c) (a.put d v) w → Q (.panic c) a w) (hy : ∀ w, S w → ((ops[i]?).map fun o => (execOp a.eval o).run P w) = some (.ok (.value v) w)) (hS : S w)
    (h : wpAnyH P md ops Q S fuel (listed.setIfInBounds i true) (a.put d v) w) : wpAnyH P md ops Q S (fuel + 1) listed a w := by
  cases ho : ops[i]? with
  | none => rw [ho] at hd; cases hd
  | some o =>
    rw [ho] at hd hw hy
    simp only [Option.map_some, Option.some.injEq] at hd hw hy
    subst hd
    exact wpAnyH_take ho hs hf hr hQ (Or.inl ⟨hw, hy⟩) hS h
theorem take_yes' {i : Nat} {d : Option Tmp} {v : Value} {fuel : Nat} {listed listed' : Array Bool} {a a' : Act} {w : World} (hd : (ops[i]?).map (fun o => o.dst) = some d)
    (hs : Region.noSelect ops = true) (hf : Region.free md ops listed i = true) (hr : (Region.ready md ops listed).contains i = true)
    (hw : ((ops[i]?).map (fun o => Region.wanted o (yielded ops a.tmps))) = some true)
    (hQ : ∀ c a w, Q (.panic c) (a.put d v) w → Q (.panic c) a w) (hy : ∀ w, S w → ((ops[i]?).map fun o => (execOp a.eval o).run P w) = some (.ok (.value v) w)) (hS : S w)
    (hl : listed.setIfInBounds i true = listed') (ha : a.put d v = a') (h : wpAnyH P md ops Q S fuel listed' a' w) : wpAnyH P md ops Q S (fuel + 1) listed a w := by
  subst hl ha
  exact take_yes hd hs hf hr hw hQ hy hS h
/-- .. its guard says no -/
theorem take_no {i : Nat} {d : Option Tmp} {fuel : Nat} {listed : Array Bool} {a : Act} {w : World} (hd : (ops[i]?).map (fun o => o.dst) = some d)
    (hs : Region.noSelect ops = true) (hf : Region.free md ops listed i = true) (hr : (Region.ready md ops listed).contains i = true)
    (hw : ((ops[i]?).map (fun o => Region.wanted o (yielded ops a.tmps))) = some false)
    (hQ : ∀ c a w, Q (.panic c) (a.put d undef) w → Q (.panic c) a w) (hS : S w)
    (h : wpAnyH P md ops Q S fuel (listed.setIfInBounds i true) (a.put d undef) w) : wpAnyH P md ops Q S (fuel + 1) listed a w := by
  cases ho : ops[i]? with
  | none => rw [ho] at hd; cases hd
  | some o =>
    rw [ho] at hd hw
    simp only [Option.map_some, Option.some.injEq] at hd hw
    subst hd
    exact wpAnyH_take ho hs hf hr hQ (Or.inr ⟨hw, rfl⟩) hS h
theorem take_no' {i : Nat} {d : Option Tmp} {fuel : Nat} {listed listed' : Array Bool} {a a' : Act} {w : World} (hd : (ops[i]?).map (fun o => o.dst) = some d)
    (hs : Region.noSelect ops = true) (hf : Region.free md ops listed i = true) (hr : (Region.ready md ops listed).contains i = true)
    (hw : ((ops[i]?).map (fun o => Region.wanted o (yielded ops a.tmps))) = some false)
    (hQ : ∀ c a w, Q (.panic c) (a.put d undef) w → Q (.panic c) a w) (hS : S w)
    (hl : listed.setIfInBounds i true = listed') (ha : a.put d undef = a') (h : wpAnyH P md ops Q S fuel listed' a' w) : wpAnyH P md ops Q S (fuel + 1) listed a w := by
  subst hl ha
  exact take_no hd hs hf hr hw hQ hS h
/-- the same, shorter to write -/
theorem tY (i d : Nat) {fuel : Nat} {listed listed' : Array Bool} {a : Act} {w : World} (v : Value) (a' : Act) (hd : (ops[i]?).map (fun o => o.dst) = some (some d))
    (hk : (Region.noSelect ops && Region.free md ops listed i && (Region.ready md ops listed).contains i) = true)
    (hw : ((ops[i]?).map (fun o => Region.wanted o (yielded ops a.tmps))) = some true)
    (hQ : ∀ c a w, Q (.panic c) (a.put (some d) v) w → Q (.panic c) a w) (hy : ∀ w, S w → ((ops[i]?).map fun o => (execOp a.eval o).run P w) = some (.ok (.value v) w)) (hS : S w)
    (hl : listed.setIfInBounds i true = listed') (ha : a.put (some d) v = a') (h : wpAnyH P md ops Q S fuel listed' a' w) : wpAnyH P md ops Q S (fuel + 1) listed a w := by
  simp only [Bool.and_eq_true] at hk
  exact take_yes' hd hk.1.1 hk.1.2 hk.2 hw hQ hy hS hl ha h
theorem tN (i d : Nat) {fuel : Nat} {listed listed' : Array Bool} {a : Act} {w : World} (a' : Act) (hd : (ops[i]?).map (fun o => o.dst) = some (some d))
    (hk : (Region.noSelect ops && Region.free md ops listed i && (Region.ready md ops listed).contains i) = true)
    (hw : ((ops[i]?).map (fun o => Region.wanted o (yielded ops a.tmps))) = some false)
    (hQ : ∀ c a w, Q (.panic c) (a.put (some d) undef) w → Q (.panic c) a w) (hS : S w)
    (hl : listed.setIfInBounds i true = listed') (ha : a.put (some d) undef = a') (h : wpAnyH P md ops Q S fuel listed' a' w) : wpAnyH P md ops Q S (fuel + 1) listed a w := by
  simp only [Bool.and_eq_true] at hk
  exact take_no' hd hk.1.1 hk.1.2 hk.2 hw hQ hS hl ha h
theorem gA {α : Type} {xs : List α} {i : Nat} : xs.toArray[i]? = xs[i]? := List.getElem?_toArray
theorem gB {α : Type} {x : α} {xs : List α} {i : Nat} : (x :: xs)[i + 1]? = xs[i]? := List.getElem?_cons_succ
theorem gC {α : Type} {x : α} {xs : List α} : (x :: xs)[0]? = some x := List.getElem?_cons_zero
theorem gD {α β : Type} {f : α → β} {x : α} : Option.map f (some x) = some (f x) := Option.map_some ..
theorem gE {α : Type} {x y : α} : (some x = some y) = (x = y) := Option.some.injEq ..
theorem sA {α : Type} {xs : List α} {i : Nat} {x : α} : xs.toArray.setIfInBounds i x = (xs.set i x).toArray := List.setIfInBounds_toArray ..
theorem sB {α : Type} {x y : α} {xs : List α} : (x :: xs).set 0 y = y :: xs := List.set_cons_zero ..
theorem sC {α : Type} {x y : α} {xs : List α} {n : Nat} : (x :: xs).set (n + 1) y = x :: xs.set n y := List.set_cons_succ ..
/-- number i alone may come up -/
theorem step_one {i : Nat} {fuel : Nat} {listed : Array Bool} {a : Act} {w : World} (hr : Region.ready md ops listed = [i])
    (h : ∀ (K' : Act → World → Prop) (o : Oper), ops[i]? = some o → Shut (∀ a w, S w → (S w → wpAnyH P md ops Q S fuel (listed.setIfInBounds i true) a w) → K' a w) → if Region.wanted o (yielded ops a.tmps) = true then Oper.wp P o a w K' Q else K' (a.put o.dst undef) w) : wpAnyH P md ops Q S (fuel + 1) listed a w := by
  refine wpAnyH_ready hr (by simp) ?_
  cases ho : ops[i]? with
  | none =>
    have : i ∈ Region.ready md ops listed := by rw [hr]; simp
    obtain ⟨_, o, h2, _⟩ := mem_ready.1 this
    rw [ho] at h2
    cases h2
  | some o => exact AllReadyH.cons ho (fun K hK => h K o ho hK) AllReadyH.nil
/-- one of two may come up -/
theorem step_two {i j : Nat} {fuel : Nat} {listed : Array Bool} {a : Act} {w : World} (hr : Region.ready md ops listed = [i, j])
    (h : ∀ (K' : Act → World → Prop) (o : Oper), ops[i]? = some o → Shut (∀ a w, S w → (S w → wpAnyH P md ops Q S fuel (listed.setIfInBounds i true) a w) → K' a w) → if Region.wanted o (yielded ops a.tmps) = true then Oper.wp P o a w K' Q else K' (a.put o.dst undef) w)
    (h2 : ∀ (K' : Act → World → Prop) (o : Oper), ops[j]? = some o → Shut (∀ a w, S w → (S w → wpAnyH P md ops Q S fuel (listed.setIfInBounds j true) a w) → K' a w) → if Region.wanted o (yielded ops a.tmps) = true then Oper.wp P o a w K' Q else K' (a.put o.dst undef) w) : wpAnyH P md ops Q S (fuel + 1) listed a w := by
  refine wpAnyH_ready hr (by simp) ?_
  have key : ∀ i, i ∈ Region.ready md ops listed → ∃ o, ops[i]? = some o := fun i hi => by
    obtain ⟨_, o, h2, _⟩ := mem_ready.1 hi
    exact ⟨o, h2⟩
  obtain ⟨oi, hoi⟩ := key i (by rw [hr]; simp)
  obtain ⟨oj, hoj⟩ := key j (by rw [hr]; simp)
  exact AllReadyH.cons hoi (fun K hK => h K oi hoi hK) (AllReadyH.cons hoj (fun K hK => h2 K oj hoj hK) AllReadyH.nil)
end
end Go.Proofs.YtonjphollmdicaaGreatDoor
namespace Go.Proofs.YtonjphollmdicaaGreatDoor
open Go.ChangeShapes Go.WideShapes Go.ChangeAt Go.RowKit
open Go.Maps (Keyed IsMap Tidy)

section
variable {P : Program} (w : World) {o : Oper} {a : Act} {K : Act → World → Prop} {Q : Exit → Act → World → Prop}
theorem wp_append_at (s x : Operand) (t : TypeId) (ho : o.op = .call { callee := .builtin .append, args := #[s, x], argTypes := #[t, t] })
    (base : Nat) (e : TypeId) (i : TypeInfo) (z : Value) (size bytes : Nat) (ht : P.underlying t = some (.slice e)) (hi : P.info? e = some i) (hz : i.zero = some z)
    (hsize : i.size = size) (hby : i.bytes = bytes) (hzs : z.cells.size = size) (hsz : 0 < size)
    (v : Value) (n : Nat) (xs : List Value) (hs : a.eval s = v) (hown : w.ownsRow base e size v n xs)
    (ad : Addr) (m c : Nat) (news : List Value) (hx : a.eval x = .slice (some ad) m c) (hl : news.length = m * size) (hnews : ∀ j u, news[j]? = some u → w.cell? (ad.add j) = some u) (h1 : ∀ u ∈ news, u.oneCell' = true)
    (h63 : n + m ≤ maxLen) (hbytes : (n + m) * bytes ≤ 140737488355328) (hbase : base ≤ w.heap.size)
    (h : ∀ v' w', w'.ownsRow base e size v' (n + m) (xs ++ news) → w.grownBy w' v.ownBlock → (v'.ownBlock = v.ownBlock ∨ v'.ownBlock = some w.heap.size) → K (a.put o.dst v') w') : o.wp P a w K Q := by
  obtain ⟨v', w', hr, h2, h3, _, h5⟩ := run_append_own_at (P := P) w base t o.type e i z size bytes ht hi hz hsize hby hzs hsz v n xs hown ad m c news hl hnews h1 h63 hbytes hbase
  unfold Oper.wp execOp
  simp only [ho, resolve, invoke, builtin, Sem.run_bind, Sem.run_pure, Result.andThen_ok, List.map_toArray, List.map_cons, List.map_nil, hs, hx, hr]
  exact h v' w' h2 h3 h5

theorem wp_mapUpdate (m x v : Operand) (t : TypeId) (hop : o.op = Op.mapUpdate t m x v)
    (k e : TypeId) (L : Keyed P k) (ht : P.underlying t = some (.map k e)) (b n : Nat) (D : DataW Value)
    (hm : a.eval m = .map (some b)) (hown : w.ownsMap P k rawE b n D) (hn : n < maxLen) (key val : Value) (kl : Lit) (hx : a.eval x = key) (hv : a.eval v = val) (hkey : keyOf P k key = some kl)
    (hK : ∀ w', w'.ownsMap P k rawE b (n + 1) (D.put kl (.held val)) → Touch [b] w w' → K (a.put o.dst undef) w') : o.wp P a w K Q := by
  obtain ⟨w', hrun, r1, r2⟩ := hown.update L ht hn hkey (rfl : rawE val = some (.held val, []))
  unfold Oper.wp
  simp [execOp, hop, hm, hx, hv, hrun, Result.andThen]
  exact hK w' r1 (Touch.of_grown r2)
end

/-- the block of a slice, as a list -/
def blkL (v : Value) : List Nat := match v.ownBlock with | some k => [k] | none => []
theorem blkL_mem {v : Value} {k : Nat} : k ∈ blkL v ↔ v.ownBlock = some k := by
  unfold blkL
  cases v.ownBlock with
  | none => simp
  | some j => simp [eq_comm]
theorem Touch.of_row {a b : World} {v : Value} (h : a.grownBy b v.ownBlock) : Touch (blkL v) a b := ⟨h.os, h.tape, h.output, h.size, fun i hi hL => h.block i hi (fun e => hL (blkL_mem.2 e.symm))⟩
end Go.Proofs.YtonjphollmdicaaGreatDoor
namespace Go.Proofs.YtonjphollmdicaaGreatDoor
open Go.ChangeShapes Go.WideShapes Go.ChangeAt Go.RowKit

/-- the product of the differences of point i from all the others -/
def diffStep (pts : List Nat) (i : Nat) (p k : Nat) : Nat := if k = i then p else Math.mul p (pts.getD i 0 ^^^ pts.getD k 0)
def diffL (pts : List Nat) (i : Nat) : Nat := (List.range pts.length).foldl (diffStep pts i) 1

theorem xor_lt16 {a b : Nat} (ha : a < 65536) (hb : b < 65536) : a ^^^ b < 65536 := Nat.xor_lt_two_pow (n := 16) ha hb
theorem getD_lt {l : List Nat} (h : ∀ x ∈ l, x < 65536) (i : Nat) : l.getD i 0 < 65536 := by
  rw [List.getD_eq_getElem?_getD]
  rcases Nat.lt_or_ge i l.length with hi | hi
  · rw [List.getElem?_eq_getElem hi]; exact h _ (List.getElem_mem hi)
  · rw [List.getElem?_eq_none hi]; decide
theorem diffStep_lt {pts : List Nat} {i p k : Nat} (hp : p < 65536) : diffStep pts i p k < 65536 := by
  unfold diffStep
  split
  · exact hp
  · exact Math.mul_lt hp _
theorem foldl_lt {α : Type} (f : Nat → α → Nat) (hf : ∀ p k, p < 65536 → f p k < 65536) (l : List α) : ∀ p, p < 65536 → l.foldl f p < 65536 := by
  induction l with
  | nil => intro p hp; exact hp
  | cons x l ih => intro p hp; exact ih _ (hf _ _ hp)
theorem diffL_lt (pts : List Nat) (i : Nat) : diffL pts i < 65536 := foldl_lt _ (fun _ _ h => diffStep_lt h) _ _ (by decide)

theorem u16_get {r : List Nat} {w : World} {a : Option Addr} (h : Rd w a (u16V r)) (k : Nat) (hk : k < r.length) : ∃ b off, a = some ⟨b, off, none⟩ ∧ w.cell? ⟨b, off + k, none⟩ = some (.int .u16 ((r.getD k 0 : Nat) : Int)) := by
  refine h k _ ?_
  simp [u16V, hk]

set_option maxRecDepth 100000 in
theorem differences_walk (pts : List Nat) (i : Nat) (a : Option Addr) (cap : Nat) (hn : pts.length ≤ 1000) (hi : i < pts.length) (hp : ∀ x ∈ pts, x < 65536) (w : World) (hrd : Rd w a (u16V pts)) :
    Calls Tryz.prog 138 #[.slice a pts.length cap, .int .i64 (i : Int)] w fun e w' => e = .returned (.int .u16 ((diffL pts i : Nat) : Int)) ∧ w' = w := by
  obtain ⟨b, off, rfl, hci⟩ := u16_get hrd i hi
  have hpi := getD_lt hp i
  obtain ⟨pi, hpie⟩ : ∃ x, x = pts.getD i 0 := ⟨_, rfl⟩
  rw [← hpie] at hci hpi
  have HPI := hid_of hpie
  clear hpie
  go_enter Tryz.func138, Tryz.ntmps138
  go_wp2
  go_loop [5, 6, 7, 10] (fun p _ _ j => ∃ k p' : Nat, k ≤ pts.length ∧ p' < 65536 ∧ p = .int .u16 (p' : Int) ∧ j = .int .i64 (k : Int) ∧ Hid (p' = (List.range k).foldl (diffStep pts i) 1))
    (fun _ _ _ j => pts.length - (intOf j).toNat)
  case atStart => exact ⟨0, 1, by omega, by omega, rfl, rfl, hid_of rfl⟩
  case round =>
    obtain ⟨k, p', hk, hp', rfl, rfl, hd⟩ := hrel
    by_cases hlt : k < pts.length
    · obtain ⟨b', off', e, hck⟩ := u16_get hrd k hlt
      cases e
      have hpk := getD_lt hp k
      obtain ⟨pk, hpke⟩ : ∃ x, x = pts.getD k 0 := ⟨_, rfl⟩
      rw [← hpke] at hck hpk
      have HPK := hid_of hpke
      clear hpke
      have hx := xor16 pi pk hpi hpk
      have hnext : diffStep pts i p' k = (List.range (k + 1)).foldl (diffStep pts i) 1 := by
        rw [List.range_succ, List.foldl_append, ← hd.out]; rfl
      have HN := hid_of hnext
      clear hnext
      by_cases hki : k = i
      · have e1 : ((k : Int) == (i : Int)) = true := by simp; omega
        have e2 : ((k : Int) != (i : Int)) = false := by simp; omega
        have h3 : diffStep pts i p' k = p' := by unfold diffStep; rw [if_pos hki]
        have H3 := hid_of h3
        have HK := hid_of hki
        clear h3 hki
        go_wp2_with fail
        refine ⟨⟨k + 1, p', by omega, hp', rfl, by go_num, hid_of ?_⟩, by simp [intOf]; omega⟩
        rw [← HN.out, H3.out]
      · have e2 : ((k : Int) != (i : Int)) = true := by simp; omega
        have h3 : diffStep pts i p' k = Math.mul p' (pi ^^^ pk) := by unfold diffStep; rw [if_neg hki, ← HPI.out, ← HPK.out]
        have H3 := hid_of h3
        have HK := hid_of hki
        clear h3 hki
        go_wp2_with fail
        refine (Times_walk p' (pi ^^^ pk) hp' (xor_lt16 hpi hpk) _).mono ?_
        rintro e w' ⟨rfl, rfl⟩
        go_wp2_with fail
        refine ⟨⟨k + 1, Math.mul p' (pi ^^^ pk), by omega, Math.mul_lt hp' _, rfl, by go_num, hid_of ?_⟩, by simp [intOf]; omega⟩
        rw [← HN.out, H3.out]
    · obtain rfl : k = pts.length := by omega
      go_wp2
      go_ret
      refine ⟨?_, rfl⟩
      have := hd.out
      rw [this]
      rfl
end Go.Proofs.YtonjphollmdicaaGreatDoor
namespace Go.Proofs.YtonjphollmdicaaGreatDoor
open Go.ChangeShapes Go.WideShapes Go.ChangeAt Go.RowKit

def aheadL (pts : List Nat) (t i : Nat) : Nat := (pts.take i).foldl (fun a p => Math.mul a (t ^^^ p)) 1
def behindL (pts : List Nat) (t i : Nat) : Nat := (pts.drop i).foldr (fun p a => Math.mul a (t ^^^ p)) 1
def firstL (pts ss : List Nat) (t i : Nat) : Nat := Math.mul (ss.getD i 0) (aheadL pts t i)
def weightL (pts ss : List Nat) (t i : Nat) : Nat := Math.mul (firstL pts ss t i) (behindL pts t (i + 1))
def weightsL (pts ss : List Nat) (t : Nat) : List Nat := (List.range pts.length).map (weightL pts ss t)

def partL (n k : Nat) (f g : Nat → Nat) : List Nat := (List.range n).map fun j => if j < k then f j else g j
theorem partL_length (n k : Nat) (f g : Nat → Nat) : (partL n k f g).length = n := by simp [partL]
theorem partL_getD (n k : Nat) (f g : Nat → Nat) (j : Nat) (h : j < n) : (partL n k f g).getD j 0 = if j < k then f j else g j := by
  simp [partL, h]
theorem partL_up (n k : Nat) (f g : Nat → Nat) : (partL n k f g).set k (f k) = partL n (k + 1) f g := by
  apply List.ext_getElem
  · simp [partL]
  · intro j h1 h2
    simp only [partL, List.getElem_set, List.getElem_map, List.getElem_range]
    by_cases hj : k = j
    · subst hj; simp
    · rw [if_neg hj]
      by_cases hl : j < k
      · rw [if_pos hl, if_pos (by omega)]
      · rw [if_neg hl, if_neg (by omega)]
theorem partL_down (n k : Nat) (f g : Nat → Nat) : (partL n (k + 1) f g).set k (g k) = partL n k f g := by
  apply List.ext_getElem
  · simp [partL]
  · intro j h1 h2
    simp only [partL, List.getElem_set, List.getElem_map, List.getElem_range]
    by_cases hj : k = j
    · subst hj; simp
    · rw [if_neg hj]
      by_cases hl : j < k
      · rw [if_pos hl, if_pos (by omega)]
      · rw [if_neg hl, if_neg (by omega)]
theorem partL_zero (n : Nat) (f g : Nat → Nat) : partL n 0 f g = (List.range n).map g := by simp [partL]
theorem partL_full (n : Nat) (f g : Nat → Nat) : partL n n f g = (List.range n).map f := by
  apply List.map_congr_left
  intro j hj
  rw [if_pos (by simpa using hj)]
theorem range_getD (l : List Nat) : (List.range l.length).map (fun j => l.getD j 0) = l := by
  apply List.ext_getElem
  · simp
  · intro j h1 h2
    simp [List.getElem?_eq_getElem h2]

theorem aheadL_lt (pts : List Nat) (t i : Nat) : aheadL pts t i < 65536 := foldl_lt _ (fun _ _ h => Math.mul_lt h _) _ _ (by decide)
theorem aheadL_succ (pts : List Nat) (t i : Nat) (h : i < pts.length) : aheadL pts t (i + 1) = Math.mul (aheadL pts t i) (t ^^^ pts.getD i 0) := by
  unfold aheadL
  rw [take_snoc pts i h, List.foldl_append]
  simp [List.getElem?_eq_getElem h]
theorem behindL_lt (pts : List Nat) (t i : Nat) : behindL pts t i < 65536 := by
  unfold behindL
  induction pts.drop i with
  | nil => exact (by decide : (1 : Nat) < 65536)
  | cons x l ih => exact Math.mul_lt ih _
theorem behindL_pred (pts : List Nat) (t i : Nat) (h : i < pts.length) : behindL pts t i = Math.mul (behindL pts t (i + 1)) (t ^^^ pts.getD i 0) := by
  unfold behindL
  rw [List.drop_eq_getElem_cons h, List.foldr_cons]
  simp [List.getElem?_eq_getElem h]
theorem behindL_end (pts : List Nat) (t : Nat) : behindL pts t pts.length = 1 := by simp [behindL]

set_option maxRecDepth 100000 in
theorem Weights_walk (pts ss : List Nat) (t : Nat) (a1 a2 : Option Addr) (c1 c2 : Nat) (hn : pts.length ≤ 1000) (h0 : 0 < pts.length) (hss : ss.length = pts.length) (hp : ∀ x ∈ pts, x < 65536) (hs : ∀ x ∈ ss, x < 65536) (ht : t < 65536)
    (w : World) (hrd1 : Rd w a1 (u16V pts)) (hrd2 : Rd w a2 (u16V ss)) :
    Calls Tryz.prog 120 #[.agg #[.slice a1 pts.length c1, .slice a2 pts.length c2], .int .u16 (t : Int)] w fun e w' => ∃ v', e = .returned v' ∧ w'.ownsRow w.heap.size 80 1 v' pts.length (u16V (weightsL pts ss t)) ∧ Below w.heap.size w w' := by
  obtain ⟨i0, hi, hz0, hz1, hz2⟩ := info_parts Tryz.info16
  obtain ⟨b2, off2, rfl, hc20⟩ := u16_get hrd2 0 (by omega)
  have hlow : Below w.heap.size w (w.alloc (.cells #[.slice a1 pts.length c1, .slice (some ⟨b2, off2, none⟩) pts.length c2] 201)) := (Below.refl _ _).alloc (Nat.le_refl _) _
  have hbox : (w.alloc (.cells #[.slice a1 pts.length c1, .slice (some ⟨b2, off2, none⟩) pts.length c2] 201)).cell? ⟨w.heap.size, 0, none⟩ = some (.slice a1 pts.length c1) := by simp
  obtain ⟨W0, hW0⟩ : ∃ W0, W0 = w.alloc (.cells #[.slice a1 pts.length c1, .slice (some ⟨b2, off2, none⟩) pts.length c2] 201) := ⟨_, rfl⟩
  rw [← hW0] at hlow hbox
  have hs0 : W0.heap.size = w.heap.size + 1 := by rw [hW0]; simp
  have HW := hid_of hW0
  have HB := hid_of hbox
  have HS := hid_of hs0
  clear hbox hs0
  have hnews : ∀ j u, (u16V ss)[j]? = some u → (W0.alloc (.cells #[] 80)).cell? ((⟨b2, off2, none⟩ : Addr).add j) = some u := by
    intro j u hj
    obtain ⟨b', off', e, hc⟩ := (hrd2.later (Nat.le_refl _) (hlow.alloc (by rw [HS.out]; omega) (.cells #[] 80))) j u hj
    cases e
    have hadd : (⟨b2, off2, none⟩ : Addr).add j = ⟨b2, off2 + j, none⟩ := by unfold Addr.add; split <;> simp_all
    rw [hadd]
    exact hc
  have HNEWS := hid_of hnews
  have HRD2 := hid_of hrd2
  clear hnews hrd2 hc20
  rw [hW0] at HNEWS
  clear hW0
  go_enter Tryz.func120, Tryz.ntmps120
  go_wp2_with (at_builtin; refine wpList_append_grows _ rfl (.tmp 10) (.tmp 12) 121 rfl 80 i0 (.int .u16 0) 1 2 Tryz.underlying121 hi hz0 hz1 hz2 rfl (by decide) (some ⟨w.heap.size + 1, 0, none⟩) 0 0 [] rfl (by simp) rfl ?c1 ⟨b2, off2, none⟩ pts.length c2 (u16V ss) rfl ?c2 ?c3 ?c4 ?c5 ?c6 ?c7 ?_)
  case c1 => intro b _ j u hu; simp at hu
  case c2 => simp [u16V, hss]
  case c3 => exact HNEWS.out
  case c4 => intro u hu; simp only [u16V, List.mem_map] at hu; obtain ⟨c, _, rfl⟩ := hu; rfl
  case c5 => omega
  case c6 => unfold maxLen; omega
  case c7 => omega
  intro v1 w1 hown1 hg1
  rw [← HW.out] at hg1
  have hb1 : Below (w.heap.size + 1) W0 w1 := ((Below.refl _ W0).alloc (by rw [HS.out]; omega) _).grown hg1 (by simp; rw [HS.out]; omega) (by simp)
  have hown1' : w1.ownsRow (w.heap.size + 1) 80 1 v1 pts.length (u16V ss) := by
    have := ownsRow_base (base' := w.heap.size + 1) (by omega) hown1
    simpa using this
  obtain ⟨g, cap', hv, hgb⟩ : ∃ g cap', v1 = .slice (some ⟨g, 0, none⟩) pts.length cap' ∧ w.heap.size + 1 ≤ g := by
    rcases hown1'.2 with ⟨_, h⟩ | ⟨g, cap', cur, hv, hgb, _⟩
    · omega
    · exact ⟨g, cap', hv, hgb⟩
  rw [hv] at hown1' ⊢
  clear hown1 hg1 HNEWS hv
  have hfirst : u16V ss = u16V (partL pts.length 0 (firstL pts ss t) (fun j => ss.getD j 0)) := by rw [partL_zero, ← hss, range_getD]
  rw [hfirst] at hown1'
  have HA0 := hid_of hown1'
  clear hfirst hown1'
  go_wp2_with fail
  go_loopw [6, 7, 16] (fun x _ i wr => ∃ k : Nat, k ≤ pts.length ∧ i = .int .i64 (k : Int) ∧ x = .int .u16 ((aheadL pts t k : Nat) : Int) ∧ wr.ownsRow (w.heap.size + 1) 80 1 (.slice (some ⟨g, 0, none⟩) pts.length cap') pts.length (u16V (partL pts.length k (firstL pts ss t) (fun j => ss.getD j 0))) ∧ Below (w.heap.size + 1) W0 wr)
    (fun _ _ i _ => pts.length - (intOf i).toNat)
  case atStart => exact ⟨0, by omega, rfl, rfl, HA0.out, hb1⟩
  case round =>
    clear HA0 hb1
    obtain ⟨k, hk, rfl, rfl, hownr, hbl⟩ := hrel
    by_cases hlt : k < pts.length
    · obtain ⟨b1, off1, rfl, hp0⟩ := u16_get hrd1 k hlt
      have hpb := World.block_lt_of_cell? w _ hp0
      have hcp0 : wr.cell? ⟨b1, off1 + k, none⟩ = some (.int .u16 ((pts.getD k 0 : Nat) : Int)) := by
        rw [(hlow.trans (hbl.mono (by omega))).cell hpb]; exact hp0
      have hbx0 : wr.cell? ⟨w.heap.size, 0, none⟩ = some (.slice (some ⟨b1, off1, none⟩) pts.length c1) := by rw [hbl.cell (by simp)]; exact HB.out
      have hck0 : wr.cell? ⟨g, k, none⟩ = some (.int .u16 ((ss.getD k 0 : Nat) : Int)) := by
        rw [hownr.cellAt k (by omega)]
        have := partL_getD pts.length k (firstL pts ss t) (fun j => ss.getD j 0) k hlt
        rw [if_neg (by omega)] at this
        rw [← this]
        simp [u16V, partL_length, hlt]
      have hfz := hownr.frozenAt k
      have hst := (hownr.stored k (.int .u16 ((firstL pts ss t k : Nat) : Int))).1
      have hown' : (wr.setCell ⟨g, k, none⟩ (.int .u16 ((firstL pts ss t k : Nat) : Int))).ownsRow (w.heap.size + 1) 80 1 (.slice (some ⟨g, 0, none⟩) pts.length cap') pts.length (u16V (partL pts.length (k + 1) (firstL pts ss t) (fun j => ss.getD j 0))) := by
        rw [← partL_up]
        have e : u16V ((partL pts.length k (firstL pts ss t) (fun j => ss.getD j 0)).set k (firstL pts ss t k)) = (u16V (partL pts.length k (firstL pts ss t) (fun j => ss.getD j 0))).set k (.int .u16 ((firstL pts ss t k : Nat) : Int)) := by simp [u16V, List.map_set]
        rw [e]; exact hst
      have hB' := hbl.setCell (p := ⟨g, k, none⟩) hgb (.int .u16 ((firstL pts ss t k : Nat) : Int))
      have hbx1 : (wr.setCell ⟨g, k, none⟩ (.int .u16 ((firstL pts ss t k : Nat) : Int))).cell? ⟨w.heap.size, 0, none⟩ = some (.slice (some ⟨b1, off1, none⟩) pts.length c1) := by
        rw [hB'.cell (by simp)]; exact HB.out
      have hcp1 : (wr.setCell ⟨g, k, none⟩ (.int .u16 ((firstL pts ss t k : Nat) : Int))).cell? ⟨b1, off1 + k, none⟩ = some (.int .u16 ((pts.getD k 0 : Nat) : Int)) := by
        rw [(hlow.trans (hB'.mono (by omega))).cell hpb]; exact hp0
      have hsucc := aheadL_succ pts t k hlt
      have hal := aheadL_lt pts t k
      have hsl := getD_lt hs k
      have hpl := getD_lt hp k
      have hfe : firstL pts ss t k = Math.mul (ss.getD k 0) (aheadL pts t k) := rfl
      have HO := hid_of hown'
      have HBB := hid_of hB'
      have HR1 := hid_of hrd1
      rw [hfe] at hbx1 hcp1 HO HBB
      rw [← hfe] at HO HBB
      clear hst hown' hB' hownr hp0 hrd1
      obtain ⟨pk, hpk⟩ : ∃ x, x = pts.getD k 0 := ⟨_, rfl⟩
      obtain ⟨sk, hsk⟩ : ∃ x, x = ss.getD k 0 := ⟨_, rfl⟩
      obtain ⟨ak, hak⟩ : ∃ x, x = aheadL pts t k := ⟨_, rfl⟩
      rw [← hpk] at hcp0 hcp1 hpl hsucc
      rw [← hsk] at hck0 hsl hbx1 hcp1 hfe
      rw [← hak] at hal hsucc hbx1 hcp1 hfe ⊢
      have hx := xor16 t pk ht hpl
      have HF := hid_of hfe
      have HSU := hid_of hsucc
      clear hpk hsk hak hfe hsucc
      go_wp2_with fail
      refine (Times_walk sk ak hsl hal _).mono ?_
      rintro e w' ⟨rfl, rfl⟩
      go_wp2_with fail
      refine (Times_walk ak (t ^^^ pk) hal (xor_lt16 ht hpl) _).mono ?_
      rintro e w'' ⟨rfl, rfl⟩
      go_wp2_with fail
      rw [← HSU.out, ← HF.out]
      go_roundw
      case rel => exact ⟨k + 1, by omega, by go_num, rfl, HO.out, HBB.out⟩
      case measure => simp [intOf]; omega
    · obtain rfl : k = pts.length := by omega
      have hpart : partL pts.length pts.length (firstL pts ss t) (fun j => ss.getD j 0) = partL pts.length pts.length (firstL pts ss t) (weightL pts ss t) := by rw [partL_full, partL_full]
      rw [hpart] at hownr
      have HA1 := hid_of hownr
      clear hownr hpart
      obtain ⟨an, han⟩ : ∃ x, x = aheadL pts t pts.length := ⟨_, rfl⟩
      rw [← han]
      clear han
      go_wp2_with fail
      have hb2 := hbl
      go_loopw [8, 9] (fun x i wr => ∃ k : Nat, k ≤ pts.length ∧ i = .int .i64 ((k : Int) - 1) ∧ x = .int .u16 ((behindL pts t k : Nat) : Int) ∧ wr.ownsRow (w.heap.size + 1) 80 1 (.slice (some ⟨g, 0, none⟩) pts.length cap') pts.length (u16V (partL pts.length k (firstL pts ss t) (weightL pts ss t))) ∧ Below (w.heap.size + 1) W0 wr)
        (fun _ i _ => (intOf i + 1).toNat)
      case atStart => exact ⟨pts.length, by omega, by go_num, by rw [behindL_end]; rfl, HA1.out, hb2⟩
      case round =>
        clear HA1 hb2 hbl
        obtain ⟨k, hk, rfl, rfl, hownr, hbl⟩ := hrel
        by_cases hlt : 0 < k
        · obtain ⟨m, rfl⟩ : ∃ m, k = m + 1 := ⟨k - 1, by omega⟩
          have hml : m < pts.length := by omega
          obtain ⟨b1, off1, rfl, hp0⟩ := u16_get hrd1 m hml
          have hpb := World.block_lt_of_cell? w _ hp0
          have hck0 : wr.cell? ⟨g, m, none⟩ = some (.int .u16 ((firstL pts ss t m : Nat) : Int)) := by
            rw [hownr.cellAt m (by omega)]
            have := partL_getD pts.length (m + 1) (firstL pts ss t) (weightL pts ss t) m hml
            rw [if_pos (by omega)] at this
            rw [← this]
            simp [u16V, partL_length, hml]
          have hfz := hownr.frozenAt m
          have hst := (hownr.stored m (.int .u16 ((weightL pts ss t m : Nat) : Int))).1
          have hown' : (wr.setCell ⟨g, m, none⟩ (.int .u16 ((weightL pts ss t m : Nat) : Int))).ownsRow (w.heap.size + 1) 80 1 (.slice (some ⟨g, 0, none⟩) pts.length cap') pts.length (u16V (partL pts.length m (firstL pts ss t) (weightL pts ss t))) := by
            rw [← partL_down]
            have e : u16V ((partL pts.length (m + 1) (firstL pts ss t) (weightL pts ss t)).set m (weightL pts ss t m)) = (u16V (partL pts.length (m + 1) (firstL pts ss t) (weightL pts ss t))).set m (.int .u16 ((weightL pts ss t m : Nat) : Int)) := by simp [u16V, List.map_set]
            rw [e]; exact hst
          have hB' := hbl.setCell (p := ⟨g, m, none⟩) hgb (.int .u16 ((weightL pts ss t m : Nat) : Int))
          have hbx1 : (wr.setCell ⟨g, m, none⟩ (.int .u16 ((weightL pts ss t m : Nat) : Int))).cell? ⟨w.heap.size, 0, none⟩ = some (.slice (some ⟨b1, off1, none⟩) pts.length c1) := by
            rw [hB'.cell (by simp)]; exact HB.out
          have hcp1 : (wr.setCell ⟨g, m, none⟩ (.int .u16 ((weightL pts ss t m : Nat) : Int))).cell? ⟨b1, off1 + m, none⟩ = some (.int .u16 ((pts.getD m 0 : Nat) : Int)) := by
            rw [(hlow.trans (hB'.mono (by omega))).cell hpb]; exact hp0
          have hsucc := behindL_pred pts t m hml
          have hal := behindL_lt pts t (m + 1)
          have hfl : firstL pts ss t m < 65536 := Math.mul_lt (getD_lt hs m) _
          have hpl := getD_lt hp m
          have hfe : weightL pts ss t m = Math.mul (firstL pts ss t m) (behindL pts t (m + 1)) := rfl
          have HO := hid_of hown'
          have HBB := hid_of hB'
          have HR1 := hid_of hrd1
          rw [hfe] at hbx1 hcp1
          clear hst hown' hB' hownr hp0 hrd1
          obtain ⟨pk, hpk⟩ : ∃ x, x = pts.getD m 0 := ⟨_, rfl⟩
          obtain ⟨sk, hsk⟩ : ∃ x, x = firstL pts ss t m := ⟨_, rfl⟩
          obtain ⟨ak, hak⟩ : ∃ x, x = behindL pts t (m + 1) := ⟨_, rfl⟩
          rw [← hpk] at hcp1 hpl hsucc
          rw [← hsk] at hck0 hfl hbx1 hcp1 hfe
          rw [← hak] at hal hsucc hbx1 hcp1 hfe ⊢
          have hx := xor16 t pk ht hpl
          have HF := hid_of hfe
          have HSU := hid_of hsucc
          clear hpk hsk hak hfe hsucc
          go_wp2_with fail
          refine (Times_walk sk ak hfl hal _).mono ?_
          rintro e w' ⟨rfl, rfl⟩
          go_wp2_with fail
          refine (Times_walk ak (t ^^^ pk) hal (xor_lt16 ht hpl) _).mono ?_
          rintro e w'' ⟨rfl, rfl⟩
          go_wp2_with fail
          rw [← HSU.out, ← HF.out]
          go_roundw
          case rel => exact ⟨m, by omega, by go_num, rfl, HO.out, HBB.out⟩
          case measure => simp [intOf]
        · obtain rfl : k = 0 := by omega
          have hres : wr.ownsRow w.heap.size 80 1 (.slice (some ⟨g, 0, none⟩) pts.length cap') pts.length (u16V (weightsL pts ss t)) := by
            rw [partL_zero] at hownr
            exact ownsRow_base (by omega) hownr
          have hfin := hlow.trans (hbl.mono (by omega))
          obtain ⟨bn, hbn⟩ : ∃ x, x = behindL pts t 0 := ⟨_, rfl⟩
          rw [← hbn]
          clear hbn hownr
          go_wp2_with fail
          go_ret
          exact ⟨_, rfl, hres, hfin⟩
end Go.Proofs.YtonjphollmdicaaGreatDoor
