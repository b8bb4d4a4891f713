import Derived.Test.YtonjphollmdicaaGreatDoorB00
import Derived.Maps.OwnSet
namespace Go.Proofs.YtonjphollmdicaaGreatDoor
open Go.ChangeShapes Go.WideShapes Go.ChangeAt Go.RowKit
structure Touch (L : List Nat) (w w' : World) : Prop where
 os : w'.os = w.os
 tape : w'.tape = w.tape
 output : w'.output = w.output
 size : w.heap.size ≤ w'.heap.size
 block : ∀ k, k < w.heap.size → k ∉ L → w'.heap[k]? = w.heap[k]?
theorem Touch.refl (L : List Nat) (w : World) : Touch L w w := ⟨rfl, rfl, rfl, Nat.le_refl _, fun _ _ _ => rfl⟩
theorem Touch.trans {L : List Nat} {a b c : World} (h : Touch L a b) (k : Touch L b c) : Touch L a c :=
 ⟨k.os.trans h.os, k.tape.trans h.tape, k.output.trans h.output, Nat.le_trans h.size k.size, fun i hi hL => (k.block i (Nat.lt_of_lt_of_le hi h.size) hL).trans (h.block i hi hL)⟩
theorem Touch.mono {L M : List Nat} {a b : World} (h : Touch L a b) (hs : ∀ x ∈ L, x ∈ M) : Touch M a b := ⟨h.os, h.tape, h.output, h.size, fun i hi hM => h.block i hi (fun e => hM (hs i e))⟩
theorem Touch.andThen {L M : List Nat} {a b c : World} (h : Touch L a b) (k : Touch M b c) (hs : ∀ x ∈ M, x ∈ L ∨ a.heap.size ≤ x) : Touch L a c :=
 ⟨k.os.trans h.os, k.tape.trans h.tape, k.output.trans h.output, Nat.le_trans h.size k.size, fun i hi hL => (k.block i (Nat.lt_of_lt_of_le hi h.size) (fun e => by rcases hs i e with h1 | h1; exact hL h1; omega)).trans (h.block i hi hL)⟩
theorem Touch.below {L : List Nat} {a b : World} (h : Touch L a b) {B : Nat} (hB : B ≤ a.heap.size) (hs : ∀ x ∈ L, B ≤ x) : Below B a b := ⟨h.os, h.tape, h.output, h.size, fun i hi => h.block i (by omega) (fun e => by have := hs i e; omega)⟩
theorem Touch.of_below {a b : World} (h : Below a.heap.size a b) (L : List Nat) : Touch L a b := ⟨h.os, h.tape, h.output, h.size, fun i hi _ => h.block i hi⟩
theorem Touch.of_grown {a b : World} {r : Nat} (h : a.grownBy b (some r)) : Touch [r] a b := ⟨h.os, h.tape, h.output, h.size, fun i hi hL => h.block i hi (by simpa using hL)⟩
theorem Touch.grown {a b : World} {r : Nat} (h : Touch [r] a b) : a.grownBy b (some r) := ⟨h.os, h.tape, h.output, h.size, fun i hi hL => h.block i hi (by simpa using hL)⟩
theorem Touch.grown_none {a b : World} (h : Touch [] a b) : a.grownBy b none := ⟨h.os, h.tape, h.output, h.size, fun i hi _ => h.block i hi (by simp)⟩
theorem Touch.alloc {L : List Nat} {a b : World} (h : Touch L a b) (o : Obj) : Touch L a (b.alloc o) := h.andThen (Touch.of_below ((Below.refl _ _).alloc (Nat.le_refl _) o) []) (by simp)
theorem Touch.drew {L : List Nat} {a b : World} (h : Touch L a b) : Touch L a b.drew := ⟨h.os, h.tape, h.output, h.size, h.block⟩
theorem Touch.setCell {L : List Nat} {a b : World} (h : Touch L a b) {x : Addr} (hx : x.block ∈ L ∨ a.heap.size ≤ x.block) (v : Value) : Touch L a (b.setCell x v) := by
 have h1 : Below x.block b (b.setCell x v) := (Below.refl _ _).setCell (Nat.le_refl _) v
 refine ⟨h1.os.trans h.os, h1.tape.trans h.tape, h1.output.trans h.output, Nat.le_trans h.size h1.size, fun i hi hL => ?_⟩
 rw [RowKit.Below.heap_setCell _ _ _ _ (fun e => by subst e; rcases hx with h1 | h1; exact hL h1; omega)]
 exact h.block i hi hL
theorem Touch.cell {L : List Nat} {a b : World} (h : Touch L a b) {x : Addr} (hlt : x.block < a.heap.size) (hL : x.block ∉ L) : b.cell? x = a.cell? x := World.cell?_of_block (w := a) (h.block _ hlt hL)
theorem Touch.frozen {L : List Nat} {a b : World} (h : Touch L a b) {x : Addr} (hlt : x.block < a.heap.size) (hL : x.block ∉ L) : b.frozen? x = a.frozen? x := World.frozen?_of_block (w := a) (h.block _ hlt hL)
theorem Touch.row {L : List Nat} {a W W' : World} (h : Touch L a W) {base : Nat} {e : TypeId} {sz : Nat} {v : Value} {n : Nat} {xs : List Value} (ho : W.ownsRow base e sz v n xs) (hb : a.heap.size ≤ base) (hg : W.grownBy W' v.ownBlock) : Touch L a W' :=
 ⟨hg.os.trans h.os, hg.tape.trans h.tape, hg.output.trans h.output, Nat.le_trans h.size hg.size, fun i hi hL => by
  rw [hg.block i (Nat.lt_of_lt_of_le hi h.size) (fun e => by have := (ho.lt i e.symm).1; omega)]
  exact h.block i hi hL⟩
theorem owns_touch {w w' : World} {base : Nat} {e : TypeId} {sz : Nat} {v : Value} {n : Nat} {xs : List Value} (h : w.ownsRow base e sz v n xs) {L : List Nat} (ht : Touch L w w') (hL : ∀ x ∈ L, x < base) : w'.ownsRow base e sz v n xs := by
 refine ⟨h.1, ?_⟩
 rcases h.2 with h1 | ⟨g, cap, cur, h1, hb, hg, h2⟩
 ·exact .inl h1
 ·exact .inr ⟨g, cap, cur, h1, hb, by rw [ht.block g (Array.getElem?_eq_some_iff.1 hg).1 (fun e => by have := hL g e; omega)]; exact hg, h2⟩
theorem owns_touch' {w w' : World} {base : Nat} {e : TypeId} {sz : Nat} {v : Value} {n : Nat} {xs : List Value} (h : w.ownsRow base e sz v n xs) {L : List Nat} (ht : Touch L w w') (hL : ∀ k, v.ownBlock = some k → k ∉ L) : w'.ownsRow base e sz v n xs := by
 refine ⟨h.1, ?_⟩
 rcases h.2 with h1 | ⟨g, cap, cur, rfl, hb, hg, h2⟩
 ·exact .inl h1
 ·exact .inr ⟨g, cap, cur, rfl, hb, by rw [ht.block g (Array.getElem?_eq_some_iff.1 hg).1 (hL g rfl)]; exact hg, h2⟩
def Blk (w : World) (B : Nat) (vs : List Value) : Prop := ∀ k u, vs[k]? = some u → w.cell? ⟨B, k, none⟩ = some u ∧ w.frozen? ⟨B, k, none⟩ = false
theorem Blk.lt {w : World} {B : Nat} {vs : List Value} (h : Blk w B vs) (h0 : 0 < vs.length) : B < w.heap.size := World.block_lt_of_cell? w _ (h 0 vs[0] (by simp)).1
theorem Blk.touch {w w' : World} {B : Nat} {vs : List Value} (h : Blk w B vs) {L : List Nat} (ht : Touch L w w') (hL : B ∉ L) : Blk w' B vs := fun k u hk => by
 have h1 := h k u hk
 have hlt : B < w.heap.size := World.block_lt_of_cell? w _ h1.1
 exact ⟨by rw [ht.cell (x := ⟨B, k, none⟩) hlt hL]; exact h1.1, by rw [ht.frozen (x := ⟨B, k, none⟩) hlt hL]; exact h1.2⟩
theorem Blk.alloc {w : World} {B : Nat} {vs : List Value} (h : Blk w B vs) (o : Obj) : Blk (w.alloc o) B vs := h.touch ((Touch.refl [] _).alloc o) (by simp)
theorem Blk.drew {w : World} {B : Nat} {vs : List Value} (h : Blk w B vs) : Blk w.drew B vs := h.touch ((Touch.refl [] _).drew) (by simp)
theorem Blk.new (w : World) (cs : Array Value) (t : TypeId) : Blk (w.alloc (.cells cs t)) w.heap.size cs.toList := fun k u hk => by
 rw [Array.getElem?_toList] at hk
 exact ⟨by simp [hk], by simp⟩
theorem Blk.set {w : World} {B : Nat} {vs : List Value} (h : Blk w B vs) (k : Nat) (v : Value) : Blk (w.setCell ⟨B, k, none⟩ v) B (vs.set k v) := fun j u hj => by
 rw [List.getElem?_set] at hj
 by_cases c : k = j
 ·subst c
  rw [if_pos rfl] at hj
  split at hj
  ·rename_i hlt
   cases hj
   have h1 := h k vs[k] (by simp [hlt])
   exact ⟨World.cell?_setCell_same _ _ _ h1.1, by rw [World.frozen?_setCell]; exact h1.2⟩
  ·cases hj
 ·rw [if_neg c] at hj
  have h1 := h j u hj
  exact ⟨by rw [World.cell?_setCell_other _ _ _ _ (by simp)]; exact h1.1, by rw [World.frozen?_setCell]; exact h1.2⟩
theorem Blk.set_other {w : World} {B : Nat} {vs : List Value} (h : Blk w B vs) {a : Addr} (ha : a.block ≠ B) (v : Value) : Blk (w.setCell a v) B vs := fun j u hj => by
 have h1 := h j u hj
 exact ⟨by rw [World.cell?_setCell_other _ _ _ _ (fun e => ha (by rw [e]))]; exact h1.1, by rw [World.frozen?_setCell]; exact h1.2⟩
end Go.Proofs.YtonjphollmdicaaGreatDoor
namespace Go.Proofs.YtonjphollmdicaaGreatDoor
open Go.ChangeShapes Go.WideShapes Go.ChangeAt Go.RowKit
def numStep (n : Nat) (b : UInt8) : Nat := (n * 256 + b.toNat) % P64
def numL (l : List UInt8) : Nat := l.foldl numStep 0
theorem numStep_lt (n : Nat) (b : UInt8) : numStep n b < P64 := Nat.mod_lt _ (by decide)
theorem num_fold_lt (l : List UInt8) : ∀ n, n < P64 → l.foldl numStep n < P64 := by
 induction l with
 | nil => intro n h; exact h
 | cons b r ih => intro n _; exact ih _ (numStep_lt n b)
theorem numL_lt (l : List UInt8) : numL l < P64 := num_fold_lt l 0 (by decide)
theorem num_fold_small (l : List UInt8) : ∀ (n m : Nat), n < m → m * 256 ^ l.length ≤ P64 → l.foldl numStep n < m * 256 ^ l.length := by
 induction l with
 | nil => intro n m h _; simpa using h
 | cons b r ih =>
  intro n m h h2
  have hb := b.toNat_lt
  have e : m * 256 ^ (b :: r).length = (m * 256) * 256 ^ r.length := by rw [List.length_cons, Nat.pow_succ, Nat.mul_assoc, Nat.mul_comm 256]
  rw [e] at h2 ⊢
  have hp : 0 < 256 ^ r.length := Nat.pow_pos (by decide)
  have hm : m * 256 ≤ P64 := Nat.le_trans (Nat.le_mul_of_pos_right _ hp) h2
  have hs : numStep n b = n * 256 + b.toNat := by unfold numStep; exact Nat.mod_eq_of_lt (by omega)
  exact ih _ _ (by rw [hs]; omega) h2
theorem numL_two (l : List UInt8) (h : l.length ≤ 2) : numL l < 65536 := by
 have h1 := num_fold_small l 0 1 (by decide) (by
  rw [Nat.one_mul]
  exact Nat.le_trans (Nat.pow_le_pow_right (by decide) h) (by decide))
 rw [Nat.one_mul] at h1
 exact Nat.lt_of_lt_of_le h1 (Nat.le_trans (Nat.pow_le_pow_right (by decide) h) (by decide))
theorem numL_one (b : UInt8) : numL [b] = b.toNat := by
 have := b.toNat_lt
 simp only [numL, List.foldl_cons, List.foldl_nil, numStep, P64]
 omega
structure FoundL where
 kind : UInt8
 set : Nat
 body : List UInt8
def bodyN (s : List UInt8) : Nat := numL ((s.drop 12).take 2)
def kindL (k : UInt8) : Bool := k == 77 || k == 70 || k == 82
def isRight (s : List UInt8) : Bool := decide (22 ≤ s.length) && (s.take 3 == [83, 65, 76]) && kindL (s.getD 3 0) && decide (22 + bodyN s ≤ s.length) && (hashL (s.take (14 + bodyN s)) == numL ((s.drop (14 + bodyN s)).take 8))
def foundAt (s : List UInt8) : FoundL := ⟨s.getD 3 0, numL ((s.drop 4).take 8), (s.drop 14).take (bodyN s)⟩
def rightL (s : List UInt8) : Option (FoundL × Nat) := if isRight s then some (foundAt s, 22 + bodyN s) else none
theorem bodyN_lt (s : List UInt8) : bodyN s < 65536 := numL_two _ (by rw [List.length_take]; omega)
def findG : Nat → List UInt8 → List FoundL
 | 0, _ => []
 | _ + 1, [] => []
 | k + 1, b :: r => match rightL (b :: r) with
  | some (f, n) => f :: findG k ((b :: r).drop n)
  | none => findG k r
def findV (s : List UInt8) : List FoundL := findG s.length s
def findL (vs : List (List UInt8)) : List FoundL := vs.flatMap findV
theorem right_pos {s : List UInt8} {f : FoundL} {n : Nat} (h : rightL s = some (f, n)) : 22 ≤ n ∧ n ≤ s.length := by
 unfold rightL at h
 split at h
 ·rename_i hr
  simp only [Option.some.injEq, Prod.mk.injEq] at h
  unfold isRight at hr
  simp only [Bool.and_eq_true, decide_eq_true_eq] at hr
  omega
 ·cases h
theorem findG_more : ∀ (k : Nat) (s : List UInt8), s.length ≤ k → findG k s = findG s.length s := by
 intro k
 induction k using Nat.strongRecOn with
 | ind k ih =>
  intro s hs
  cases s with
  | nil => cases k <;> rfl
  | cons b r =>
   cases k with
   | zero => simp at hs
   | succ k =>
    simp only [List.length_cons] at hs ⊢
    simp only [findG]
    cases h : rightL (b :: r) with
    | none =>
     exact ih k (by omega) r (by omega)
    | some x =>
     obtain ⟨f, n⟩ := x
     have hn := right_pos h
     simp only [List.length_cons] at hn
     have hd : ((b :: r).drop n).length ≤ r.length := by rw [List.length_drop, List.length_cons]; omega
     simp only
     rw [ih k (by omega) _ (by omega)]
     by_cases e : r.length = k
     ·rw [e, ih k (by omega) _ (by omega)]
     ·rw [ih r.length (by omega) _ hd]
theorem findV_nil : findV [] = [] := rfl
theorem findV_step (s : List UInt8) (h : 0 < s.length) : findV s = match rightL s with | some (f, n) => f :: findV (s.drop n) | none => findV (s.drop 1) := by
 cases s with
 | nil => simp at h
 | cons b r =>
  unfold findV
  simp only [List.length_cons, findG]
  cases hr : rightL (b :: r) with
  | none => simp
  | some x =>
   obtain ⟨f, n⟩ := x
   have hn := right_pos hr
   simp only [List.length_cons] at hn
   simp only
   rw [findG_more _ _ (by rw [List.length_drop, List.length_cons]; omega)]
end Go.Proofs.YtonjphollmdicaaGreatDoor
namespace Go.Proofs.YtonjphollmdicaaGreatDoor
open Go.ChangeShapes Go.WideShapes Go.ChangeAt Go.RowKit
def rdT (s : List UInt8 × Bool) (n : Nat) : List UInt8 := if n ≤ s.1.length then s.1.take n else []
def rdS (s : List UInt8 × Bool) (n : Nat) : List UInt8 × Bool := if n ≤ s.1.length then (s.1.drop n, s.2) else ([], true)
def hshL (r : List UInt8) : List Nat := (List.range ((r.length + 7) / 8)).map fun i => numL (rdT (r.drop (8 * i), false) 8)
def hshS (s : List UInt8 × Bool) : List UInt8 × Bool := ([], s.2 || decide (s.1.length % 8 ≠ 0))
theorem rdT_len (s : List UInt8 × Bool) (n : Nat) : (rdT s n).length ≤ n := by
 unfold rdT; split
 ·rw [List.length_take]; omega
 ·simp
theorem rdS_len (s : List UInt8 × Bool) (n : Nat) : (rdS s n).1.length ≤ s.1.length := by
 unfold rdS; split
 ·simp
 ·simp
theorem rdT_len' (s : List UInt8 × Bool) (n : Nat) : (rdT s n).length ≤ s.1.length := by
 unfold rdT; split
 ·rw [List.length_take]; omega
 ·simp
theorem rdS_short {s : List UInt8 × Bool} (h : s.2 = true) (n : Nat) : (rdS s n).2 = true := by
 unfold rdS; split
 ·exact h
 ·rfl
theorem rdT_ok {s : List UInt8 × Bool} {n : Nat} (h : n ≤ s.1.length) : rdT s n = s.1.take n := if_pos h
theorem rdS_ok {s : List UInt8 × Bool} {n : Nat} (h : n ≤ s.1.length) : rdS s n = (s.1.drop n, s.2) := if_pos h
theorem rdT_no {s : List UInt8 × Bool} {n : Nat} (h : s.1.length < n) : rdT s n = [] := if_neg (by omega)
theorem rdS_no {s : List UInt8 × Bool} {n : Nat} (h : s.1.length < n) : rdS s n = ([], true) := if_neg (by omega)
theorem hshL_nil : hshL [] = [] := rfl
theorem hshL_length (r : List UInt8) : (hshL r).length = (r.length + 7) / 8 := by simp [hshL]
theorem hshL_step (s : List UInt8 × Bool) (h : s.1 ≠ []) : hshL s.1 = numL (rdT s 8) :: hshL (rdS s 8).1 := by
 obtain ⟨r, sh⟩ := s
 have h0 : 0 < r.length := List.length_pos_iff.2 h
 unfold hshL rdS
 simp only
 by_cases h8 : 8 ≤ r.length
 ·rw [if_pos h8]
  simp only [List.length_drop]
  rw [show (r.length + 7) / 8 = (r.length - 8 + 7) / 8 + 1 from by omega, List.range_succ_eq_map, List.map_cons, List.map_map]
  congr 1
  apply List.map_congr_left
  intro i _
  simp only [Function.comp, List.drop_drop]
  rw [show 8 * i.succ = 8 + 8 * i from by omega]
 ·rw [if_neg h8]
  rw [show (r.length + 7) / 8 = 1 from by omega]
  simp [List.range_succ, rdT]
theorem hshS_step (s : List UInt8 × Bool) (h : s.1 ≠ []) : hshS (rdS s 8) = hshS s := by
 obtain ⟨r, sh⟩ := s
 have h0 : 0 < r.length := List.length_pos_iff.2 h
 unfold hshS rdS
 simp only
 by_cases h8 : 8 ≤ r.length
 ·rw [if_pos h8]
  simp only [List.length_drop]
  rw [show (r.length - 8) % 8 = r.length % 8 from by omega]
 ·rw [if_neg h8]
  simp only [Prod.mk.injEq, true_and, Bool.true_or]
  rw [decide_eq_true (by omega : r.length % 8 ≠ 0), Bool.or_true]
theorem take_one (l : List UInt8) (k : Nat) (h : k < l.length) : (l.drop k).take 1 = [l.getD k 0] := by
 rw [List.drop_eq_getElem_cons h, List.take_succ_cons, List.take_zero]
 simp [h]
end Go.Proofs.YtonjphollmdicaaGreatDoor
namespace Go.Proofs.YtonjphollmdicaaGreatDoor
open Go.ChangeShapes Go.WideShapes Go.ChangeAt Go.RowKit
def u64V (l : List Nat) : List Value := l.map fun (n : Nat) => Value.int .u64 (n : Int)
def strV (l : List (List UInt8)) : List Value := l.map fun x => Value.string (str x)
def hashesL (hs : List Nat) : List UInt8 := hs.flatMap fun h => numBytes h 8
def mainBodyL (size : Nat) (hs : List Nat) : List UInt8 := numBytes size 2 ++ numBytes hs.length 1 ++ hashesL hs
theorem hashesL_snoc (l : List Nat) (h : Nat) : hashesL (l ++ [h]) = hashesL l ++ numBytes h 8 := by simp [hashesL]
theorem take_snoc {α : Type} (l : List α) (k : Nat) (h : k < l.length) : l.take (k + 1) = l.take k ++ [l[k]] := by
 rw [List.take_add_one, List.getElem?_eq_getElem h]; rfl
set_option maxRecDepth 100000 in
theorem MainBody_walk (size : Nat) (hs : List Nat) (a : Option Addr) (cap : Nat) (hsize : size ≤ 100) (hn : hs.length ≤ 100) (w : World) (hrd : Rd w a (u64V hs)) :
  Calls Tryz.prog 98 #[.int .i64 (size : Int), .slice a hs.length cap] w fun e w' => e = .returned (.string (str (mainBodyL size hs))) ∧ Below w.heap.size w w' := by
 go_enter Tryz.func98, Tryz.ntmps98
 go_wp2_with fail
 refine (appendNumber_walk _ 0 [] size 2 w.heap.size w (by omega) (by omega) (Nat.le_refl _) (World.ownsRow_nil _ _ _ _)).mono ?_
 rintro e w1 ⟨v1, rfl, hown1, hb1⟩
 have hsz1 := hb1.size
 go_wp2_with fail
 refine (appendNumber_walk v1 2 _ hs.length 1 w.heap.size w1 (by omega) (by omega) (by omega) hown1).mono ?_
 rintro e w2 ⟨v2, rfl, hown2, hb2'⟩
 have hb2 := hb1.trans hb2'
 clear hown1 hb1 hb2' hsz1
 go_wp2_with fail
 go_loopw [5, 7, 18] (fun t x i wr => ∃ k : Nat, k ≤ hs.length ∧ i = .int .i64 (k : Int) ∧ wr.ownsRow w.heap.size 5 1 t (3 + 8 * k) (bytesV (numBytes size 2 ++ numBytes hs.length 1 ++ hashesL (hs.take k))) ∧ Below w.heap.size w wr)
  (fun _ _ i _ => hs.length - (intOf i).toNat)
 case atStart => exact ⟨0, by omega, rfl, by simpa [hashesL] using hown2, hb2⟩
 case round =>
  obtain ⟨k, hk, rfl, hownr, hbl⟩ := hrel
  have hsz := hbl.size
  by_cases hlt : k < hs.length
  ·obtain ⟨b, off, rfl, hc0⟩ := hrd k (.int .u64 (hs[k] : Int)) (by simp [u64V, hlt])
   have hc : wr.cell? ⟨b, off + k, none⟩ = some (.int .u64 (hs[k] : Int)) := by
    rw [hbl.cell (World.block_lt_of_cell? w _ hc0)]; exact hc0
   clear hc0 hown2
   go_wp2_with fail
   refine (appendNumber_walk u5 (3 + 8 * k) _ hs[k] 8 w.heap.size wr (by omega) (by omega) (by omega) hownr).mono ?_
   rintro e w3 ⟨v3, rfl, hown3, hb3'⟩
   have hb3 := hbl.trans hb3'
   have hown3' : w3.ownsRow w.heap.size 5 1 v3 (3 + 8 * (k + 1)) (bytesV (numBytes size 2 ++ numBytes hs.length 1 ++ hashesL (hs.take (k + 1)))) := by
    rw [take_snoc hs k hlt, hashesL_snoc, ← List.append_assoc]
    exact hown3
   clear hown3 hb3' hc hownr hb2
   go_wp2_with fail
   go_roundw
   case rel => exact ⟨k + 1, by omega, by go_num, hown3', hb3⟩
   case measure => simp [intOf]; omega
  ·obtain rfl : k = hs.length := by omega
   have hc := owned_string hownr
   rw [List.take_length] at hc
   clear hownr
   go_wp2_with fail
   go_ret
   exact ⟨rfl, hbl⟩
theorem Tryz.info64 : (Tryz.prog.info? 63).map (fun i => (i.zero, i.size, i.bytes)) = some (some (.int .u64 0), 1, 8) := by kernel_rfl
set_option maxRecDepth 100000 in
theorem hashAll_walk (ts : List (List UInt8)) (a : Option Addr) (cap : Nat) (hn : ts.length ≤ 100) (hts : ∀ t ∈ ts, t.length ≤ 100000) (w : World) (hrd : Rd w a (strV ts)) :
  Calls Tryz.prog 99 #[.slice a ts.length cap] w fun e w' => ∃ v', e = .returned v' ∧ w'.ownsRow w.heap.size 63 1 v' ts.length (u64V (ts.map hashL)) ∧ Below w.heap.size w w' := by
 obtain ⟨i0, hi, hz0, hz1, hz2⟩ := info_parts Tryz.info64
 go_enter Tryz.func99, Tryz.ntmps99
 go_wp2_with (at_make; refine wpList_make_full _ rfl _ _ 99 rfl w.heap.size 63 i0 (.int .u64 0) 1 Tryz.underlying99 hi hz0 hz1 .i64 .i64 _ _ ts.length rfl rfl rfl rfl ?c1 ?c2 (Nat.le_refl _) ?_)
 case c1 => rw [hz2]; omega
 case c2 => unfold maxLen; omega
 intro w1 hown1 hg1
 have hb1 : Below w.heap.size w w1 := (Below.refl _ w).grown hg1 (Nat.le_refl _) (by simp)
 clear hg1
 go_wp2_with fail
 go_loopw [4, 5, 11] (fun _ _ i wr => ∃ (k : Nat) (zs : List Nat), k ≤ ts.length ∧ i = .int .i64 (k : Int) ∧ wr.ownsRow w.heap.size 63 1 (.slice (some ⟨w.heap.size, 0, none⟩) ts.length ts.length) ts.length (u64V zs) ∧ Below w.heap.size w wr ∧ Hid (zs.take k = (ts.map hashL).take k))
  (fun _ _ i _ => ts.length - (intOf i).toNat)
 case atStart => exact ⟨0, List.replicate ts.length 0, by omega, rfl, by simpa [u64V, toList_madeCells_one] using hown1, hb1, hid_of (by simp)⟩
 case round =>
  obtain ⟨k, zs, hk, rfl, hownr, hbl, hzs⟩ := hrel
  have hsz := hbl.size
  have hzl : zs.length = ts.length := by have := hownr.1; simpa [u64V] using this
  by_cases hlt : k < ts.length
  ·obtain ⟨b, off, rfl, hc0⟩ := hrd k (.string (str ts[k])) (by simp [strV, hlt])
   have hc : wr.cell? ⟨b, off + k, none⟩ = some (.string (str ts[k])) := by
    rw [hbl.cell (World.block_lt_of_cell? w _ hc0)]; exact hc0
   have hcell : wr.cell? ⟨w.heap.size, k, none⟩ = some (.int .u64 (zs[k] : Int)) := by
    rw [hownr.cellAt k (by omega)]; simp [u64V, hzl, hlt]
   have hfz := hownr.frozenAt k
   have hst := hownr.stored k (.int .u64 ((hashL ts[k] : Nat) : Int))
   have hown' : (wr.setCell ⟨w.heap.size, k, none⟩ (.int .u64 ((hashL ts[k] : Nat) : Int))).ownsRow w.heap.size 63 1 (.slice (some ⟨w.heap.size, 0, none⟩) ts.length ts.length) ts.length (u64V (zs.set k (hashL ts[k]))) := by
    have e : u64V (zs.set k (hashL ts[k])) = (u64V zs).set k (.int .u64 ((hashL ts[k] : Nat) : Int)) := by simp [u64V, List.map_set]
    rw [e]; exact hst.1
   have hB := hbl.setCell (p := ⟨w.heap.size, k, none⟩) (Nat.le_refl _) (.int .u64 ((hashL ts[k] : Nat) : Int))
   have hkl : k < zs.length := by omega
   have hset : (zs.set k (hashL ts[k])).take (k + 1) = (ts.map hashL).take (k + 1) := by
    rw [take_snoc _ k (by simpa using hkl), take_snoc _ k (by simpa using hlt)]
    simp only [List.getElem_set_self, List.getElem_map]
    rw [List.take_set_of_le (Nat.le_refl _), hzs.out]
   have HS := hid_of hset
   have HO := hid_of hown'
   have HB := hid_of hB
   clear hset hown' hB hst hownr hc0 hzs
   have htl := hts ts[k] (List.getElem_mem hlt)
   go_wp2_with fail
   refine (Hash_l ts[k] (by omega) wr).mono ?_
   rintro e w3 ⟨rfl, rfl⟩
   go_wp2_with fail
   go_roundw
   case rel => exact ⟨k + 1, zs.set k (hashL ts[k]), by omega, by go_num, HO.out, HB.out, HS⟩
   case measure => simp [intOf]; omega
  ·obtain rfl : k = ts.length := by omega
   have := hzs.out
   rw [← hzl, List.take_length, hzl, List.take_of_length_le (by simp)] at this
   subst this
   go_wp2_with fail
   go_ret
   exact ⟨_, rfl, hownr, hbl⟩
def fileHeadL (number : Nat) (name data : List UInt8) : List UInt8 := numBytes number 1 ++ numBytes name.length 1 ++ name ++ numBytes data.length 2 ++ numBytes (hashL data) 8
def fileBodyL (number : Nat) (name data : List UInt8) (ss : List (List UInt8)) : List UInt8 := fileHeadL number name data ++ hashesL (ss.map hashL)
set_option maxRecDepth 100000 in
theorem FileBody_walk (number : Nat) (name data : List UInt8) (ss : List (List UInt8)) (a : Option Addr) (cap : Nat) (hnum : number ≤ 100) (hname : name.length ≤ 100) (hdata : data.length ≤ 1000) (hn : ss.length ≤ 1000) (hss : ∀ t ∈ ss, t.length ≤ 1000) (w : World) (hrd : Rd w a (strV ss)) :
  Calls Tryz.prog 123 #[.int .i64 (number : Int), .agg #[.string (str name), .string (str data)], .slice a ss.length cap] w fun e w' => e = .returned (.string (str (fileBodyL number name data ss))) ∧ Below w.heap.size w w' := by
 obtain ⟨i0, hi, hz0, hz1, hz2⟩ := info_parts Tryz.info8
 have hns : (str name).size = name.length := str_size name
 have hds : (str data).size = data.length := str_size data
 obtain ⟨W0, hW0⟩ : ∃ W0, W0 = w.alloc (.cells #[.string (str name), .string (str data)] 62) := ⟨_, rfl⟩
 have hs0 : W0.heap.size = w.heap.size + 1 := by rw [hW0]; simp
 have hcn : ∀ W, Below (w.heap.size + 1) W0 W → W.cell? ⟨w.heap.size, 0, none⟩ = some (.string (str name)) ∧ W.cell? ⟨w.heap.size, 1, none⟩ = some (.string (str data)) := by
  intro W hW
  rw [hW.cell (by simp), hW.cell (by simp), hW0]
  constructor <;> simp
 have hw0 : Below w.heap.size w W0 := by rw [hW0]; exact (Below.refl _ _).alloc (Nat.le_refl _) _
 have hlow : ∀ W, Below (w.heap.size + 1) W0 W → Below w.heap.size w W := fun W h => hw0.trans (h.mono (by omega))
 have HC := hid_of hcn
 have HL := hid_of hlow
 have HW := hid_of hW0
 have HS := hid_of hs0
 clear hcn hlow hs0
 go_enter Tryz.func123, Tryz.ntmps123
 go_wp2_with fail
 rw [← HW.out]
 clear hW0
 refine (appendNumber_walk _ 0 [] number 1 (w.heap.size + 1) W0 (by omega) (by omega) (by rw [HS.out]; omega) (World.ownsRow_nil _ _ _ _)).mono ?_
 rintro e w1 ⟨v1, rfl, hown1, hb1⟩
 have hsz1 := hb1.size
 rw [HS.out] at hsz1
 obtain ⟨hn1, hd1⟩ := HC.out w1 hb1
 go_wp2_with fail
 refine (appendNumber_walk v1 1 _ name.length 1 (w.heap.size + 1) w1 (by omega) (by omega) hsz1 hown1).mono ?_
 rintro e w2 ⟨v2, rfl, hown2, hb2'⟩
 have hb2 := hb1.trans hb2'
 have hsz2 := hb2.size
 rw [HS.out] at hsz2
 clear hown1 hb2' hb1 hsz1 hn1 hd1
 obtain ⟨hn2, hd2⟩ := HC.out w2 hb2
 go_wp2_with (at_builtin; refine Lib.wpList_append_own_string _ rfl (.tmp 19) (.tmp 21) 67 9 rfl (w.heap.size + 1) 5 i0 Tryz.underlying67 Tryz.underlying9 hi hz0 hz1 hz2 v2 2 _ rfl hown2 (str name) rfl ?c5 ?c6 ?c7 ?_)
 case c5 => unfold maxLen; omega
 case c6 => omega
 case c7 => omega
 intro v3 w3 hown3 hg3 _
 have hb3 := below_grown hb2 hsz2 hown2 hg3
 rw [strCells_bytesV, ← bytesV_append, str_data] at hown3
 have hsz3 := hb3.size
 rw [HS.out] at hsz3
 clear hown2 hg3 hb2 hsz2 hn2 hd2
 obtain ⟨hn3, hd3⟩ := HC.out w3 hb3
 go_wp2_with fail
 refine (appendNumber_walk v3 (2 + name.length) _ data.length 2 (w.heap.size + 1) w3 (by omega) (by omega) hsz3 hown3).mono ?_
 rintro e w4 ⟨v4, rfl, hown4, hb4'⟩
 have hb4 := hb3.trans hb4'
 have hsz4 := hb4.size
 rw [HS.out] at hsz4
 clear hown3 hb4' hb3 hsz3 hn3 hd3
 obtain ⟨hn4, hd4⟩ := HC.out w4 hb4
 go_wp2_with fail
 refine (Hash_l data (by omega) w4).mono ?_
 rintro e w5 ⟨rfl, rfl⟩
 go_wp2_with fail
 refine (appendNumber_walk v4 (2 + name.length + 2) _ (hashL data) 8 (w.heap.size + 1) w5 (by omega) (by omega) hsz4 hown4).mono ?_
 rintro e w6 ⟨v6, rfl, hown6, hb6'⟩
 have hb6 := hb4.trans hb6'
 have hsz6 := hb6.size
 rw [HS.out] at hsz6
 have hown6' : w6.ownsRow (w.heap.size + 1) 5 1 v6 (name.length + 12) (bytesV (fileHeadL number name data)) := by
  have e : 2 + name.length + 2 + 8 = name.length + 12 := by omega
  rw [e] at hown6
  exact hown6
 clear hown4 hb6' hb4 hsz4 hn4 hd4 hown6
 go_wp2_with fail
 go_loopw [7, 9, 36] (fun t x i wr => ∃ k : Nat, k ≤ ss.length ∧ i = .int .i64 (k : Int) ∧ wr.ownsRow (w.heap.size + 1) 5 1 t (name.length + 12 + 8 * k) (bytesV (fileHeadL number name data ++ hashesL ((ss.map hashL).take k))) ∧ Below (w.heap.size + 1) W0 wr)
  (fun _ _ i _ => ss.length - (intOf i).toNat)
 case atStart => exact ⟨0, by omega, rfl, by simpa [hashesL] using hown6', hb6⟩
 case round =>
  clear hown6' hb6 hsz6
  obtain ⟨k, hk, rfl, hownr, hbl⟩ := hrel
  have hsz := hbl.size
  rw [HS.out] at hsz
  by_cases hlt : k < ss.length
  ·obtain ⟨b, off, rfl, hc0⟩ := hrd k (.string (str ss[k])) (by simp [strV, hlt])
   have hc : wr.cell? ⟨b, off + k, none⟩ = some (.string (str ss[k])) := by
    rw [(HL.out wr hbl).cell (World.block_lt_of_cell? w _ hc0)]; exact hc0
   clear hc0
   have htl := hss ss[k] (List.getElem_mem hlt)
   go_wp2_with fail
   refine (Hash_l ss[k] (by omega) wr).mono ?_
   rintro e w7 ⟨rfl, rfl⟩
   go_wp2_with fail
   refine (appendNumber_walk u7 (name.length + 12 + 8 * k) _ (hashL ss[k]) 8 (w.heap.size + 1) w7 (by omega) (by omega) hsz hownr).mono ?_
   rintro e w8 ⟨v8, rfl, hown8, hb8'⟩
   have hb8 := hbl.trans hb8'
   have hown8' : w8.ownsRow (w.heap.size + 1) 5 1 v8 (name.length + 12 + 8 * (k + 1)) (bytesV (fileHeadL number name data ++ hashesL ((ss.map hashL).take (k + 1)))) := by
    rw [take_snoc _ k (by simpa using hlt), hashesL_snoc, ← List.append_assoc, List.getElem_map]
    exact hown8
   clear hown8 hb8' hc hownr
   go_wp2_with fail
   go_roundw
   case rel => exact ⟨k + 1, by omega, by go_num, hown8', hb8⟩
   case measure => simp [intOf]; omega
  ·obtain rfl : k = ss.length := by omega
   have hc := owned_string hownr
   rw [List.take_of_length_le (by simp)] at hc
   have hB := HL.out _ hbl
   clear hownr
   go_wp2_with fail
   go_ret
   exact ⟨rfl, hB⟩
end Go.Proofs.YtonjphollmdicaaGreatDoor
