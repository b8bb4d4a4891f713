import Derived.Test.YtonjphollmdicaaGreatDoorB01
import Derived.Test.YtonjphollmdicaaGreatDoorB02
import Derived.Test.YtonjphollmdicaaGreatDoorB03
import Derived.Deep.QuietTactic
import Derived.BigQuiet
import Derived.Deep.OwnRows
import Derived.Deep.RegionWith
import Derived.Laws.AppendOwnNone
namespace Go.Proofs.YtonjphollmdicaaGreatDoor
open Go.ChangeShapes Go.WideShapes Go.ChangeAt Go.RowKit
theorem strs (a b : List UInt8) : str a ++ str b = str (a ++ b) := by rw [str_add, str_data]
theorem rdrewN {B : Nat} {a w : World} (h : Below B a w) (n : Nat) : Below B a (w.drewN n) := ⟨h.os, h.tape, h.output, h.size, h.block⟩
def dupAt (fs : List FileL) (i : Nat) : Bool := match fs[i]? with
 | some f => hasNameL (fs.take i) f.1
 | none => false
def twiceL (fs : List FileL) : Bool := (List.range fs.length).any (dupAt fs)
def foundsV (l : List FoundL) : List Value := l.flatMap fun f => [.int .u8 (f.kind.toNat : Int), .int .u64 (f.set : Int), .string (str f.body)]
theorem foundsV_snoc (l : List FoundL) (f : FoundL) : foundsV (l ++ [f]) = foundsV l ++ [.int .u8 (f.kind.toNat : Int), .int .u64 (f.set : Int), .string (str f.body)] := by simp [foundsV]
theorem findG_len : ∀ (k : Nat) (s : List UInt8), (findG k s).length ≤ k
 | 0, _ => by simp [findG]
 | k + 1, [] => by simp [findG]
 | k + 1, b :: r => by
  simp only [findG]
  cases h : rightL (b :: r) with
  | none => have := findG_len k r; simp only; omega
  | some x =>
   obtain ⟨f, n⟩ := x
   have := findG_len k ((b :: r).drop n)
   simp only [List.length_cons]
   omega
theorem findV_len (s : List UInt8) : (findV s).length ≤ s.length := findG_len _ _
theorem findL_len (vs : List (List UInt8)) (M : Nat) (h : ∀ v ∈ vs, v.length ≤ M) : (findL vs).length ≤ vs.length * M := by
 induction vs with
 | nil => simp [findL]
 | cons v r ih =>
  have h1 := ih (fun x hx => h x (List.mem_cons_of_mem _ hx))
  have h2 := h v (by simp)
  have h3 := findV_len v
  simp only [findL, List.flatMap_cons, List.length_append, List.length_cons] at h1 ⊢
  rw [Nat.succ_mul]
  omega
theorem findL_snoc (vs : List (List UInt8)) (k : Nat) (h : k < vs.length) : findL (vs.take (k + 1)) = findL (vs.take k) ++ findV vs[k] := by
 unfold findL
 rw [take_snoc vs k h, List.flatMap_append]
 simp
theorem three_new (w : World) (x y z : Value) (t : TypeId) : ∀ j u, [x, y, z][j]? = some u → (w.alloc (.cells #[x, y, z] t)).cell? ((⟨w.heap.size, 0, none⟩ : Addr).add j) = some u := by
 intro j u h
 rcases j with _ | _ | _ | j
 ·simp at h; subst h; simp [Addr.add]
 ·simp at h; subst h; simp [Addr.add]
 ·simp at h; subst h; simp [Addr.add]
 ·simp at h
def isChief (f : FoundL) : Bool := f.kind == 77 && decide (3 ≤ f.body.length) && (sliceSize ((numL (f.body.take 2) : Nat) : Int) && (hashL f.body == f.set) && decide (1 ≤ (f.body.getD 2 0).toNat) && decide ((f.body.getD 2 0).toNat ≤ 6) && decide (f.body.length = 3 + 8 * (f.body.getD 2 0).toNat))
def chiefL (l : List FoundL) : Option FoundL := l.find? isChief
theorem founds_get {w : World} {a : Option Addr} {l : List FoundL} (h : Rd w a (foundsV l)) (k : Nat) (hk : k < l.length) :
  ∃ b off, a = some ⟨b, off, none⟩ ∧ w.cell? ⟨b, off + k * 3, none⟩ = some (.int .u8 (l[k].kind.toNat : Int)) ∧ w.cell? ⟨b, off + k * 3 + 1, none⟩ = some (.int .u64 (l[k].set : Int)) ∧ w.cell? ⟨b, off + k * 3 + 2, none⟩ = some (.string (str l[k].body)) := by
 have key : ∀ (l : List FoundL) (k : Nat) (hk : k < l.length), (foundsV l)[k * 3]? = some (.int .u8 (l[k].kind.toNat : Int)) ∧ (foundsV l)[k * 3 + 1]? = some (.int .u64 (l[k].set : Int)) ∧ (foundsV l)[k * 3 + 2]? = some (.string (str l[k].body)) := by
  intro l
  induction l with
  | nil => intro k hk; simp at hk
  | cons f r ih =>
   intro k hk
   cases k with
   | zero => exact ⟨rfl, rfl, rfl⟩
   | succ k =>
    obtain ⟨h1, h2, h3⟩ := ih k (by simpa using hk)
    have e : foundsV (f :: r) = [.int .u8 (f.kind.toNat : Int), .int .u64 (f.set : Int), .string (str f.body)] ++ foundsV r := rfl
    rw [e, show (k + 1) * 3 = k * 3 + 3 from by omega]
    refine ⟨?_, ?_, ?_⟩
    ·rw [List.getElem?_append_right (by simp)]; exact h1
    ·rw [List.getElem?_append_right (by simp)]
     simpa using h2
    ·rw [List.getElem?_append_right (by simp)]
     simpa using h3
 obtain ⟨k1, k2, k3⟩ := key l k hk
 obtain ⟨b, off, e, h1⟩ := h _ _ k1
 obtain ⟨b', off', e', h2⟩ := h _ _ k2
 obtain ⟨b'', off'', e'', h3⟩ := h _ _ k3
 rw [e] at e' e''
 cases e'
 cases e''
 exact ⟨b, off, e, h1, by rw [Nat.add_assoc]; exact h2, by rw [Nat.add_assoc]; exact h3⟩
structure DescL where
 name : List UInt8
 long : Nat
 hash : Nat
 slices : List Nat
def formN (s : List UInt8) : Nat := (s.getD 1 0).toNat
def formLong (s : List UInt8) : Nat := numL ((s.drop (2 + formN s)).take 2)
def formHash (s : List UInt8) : Nat := numL ((s.drop (4 + formN s)).take 8)
def formSlice (s : List UInt8) (i : Nat) : Nat := numL ((s.drop (12 + formN s + 8 * i)).take 8)
def isForm (s : List UInt8) (b : Nat) : Bool := decide (2 ≤ s.length) && decide (1 ≤ formN s) && decide (formN s ≤ 20) && decide (12 + formN s ≤ s.length) && decide (formLong s ≤ 400) && decide (s.length = 12 + formN s + 8 * slicesOfN (formLong s) b)
def formAt (s : List UInt8) (b : Nat) : DescL := ⟨(s.drop 2).take (formN s), formLong s, formHash s, (List.range (slicesOfN (formLong s) b)).map (formSlice s)⟩
def formL (s : List UInt8) (b : Nat) : Option DescL := if isForm s b then some (formAt s b) else none
def speaksOf (set i hash : Nat) (f : FoundL) : Bool := f.kind == 70 && (f.set == set) && decide (1 ≤ f.body.length) && ((f.body.getD 0 0).toNat == i) && (hashL f.body == hash)
def describedL (l : List FoundL) (set i hash b : Nat) : Option DescL := l.findSome? fun f => if speaksOf set i hash f then formL f.body b else none
def stateL (name : List UInt8) (long hash : Nat) (fs : List FileL) : Nat := match fs.find? (fun f => f.1 == name) with
 | none => 3
 | some f => if f.2.length = long ∧ hashL f.2 = hash then 1 else 2
theorem state_step (name : List UInt8) (long hash : Nat) (fs : List FileL) (k : Nat) (hk : k < fs.length) : stateL name long hash (fs.drop k) = if fs[k].1 = name then (if fs[k].2.length = long ∧ hashL fs[k].2 = hash then 1 else 2) else stateL name long hash (fs.drop (k + 1)) := by
 rw [List.drop_eq_getElem_cons hk]
 unfold stateL
 rw [List.find?_cons]
 by_cases h : fs[k].1 = name
 ·rw [if_pos h, beq_iff_eq.2 h]
 ·rw [if_neg h, beq_eq_false_iff_ne.2 h]
def fillL (data : List UInt8) (b : Nat) : List UInt8 := data ++ List.replicate (b - 1) 0
def pieceAt (data : List UInt8) (b at' : Nat) : List UInt8 := ((fillL data b).drop at').take b
def pieceIn (b hash : Nat) (data : List UInt8) (from' : Nat) : Option (List UInt8) := ((List.range data.length).drop from').findSome? fun j => if hashL (pieceAt data b j) = hash then some (pieceAt data b j) else none
def firstPiece (fs : List FileL) (b hash : Nat) : Option (List UInt8) := fs.findSome? fun f => pieceIn b hash f.2 0
theorem row_rd {w : World} {base : Nat} {e : TypeId} {sz : Nat} {v : Value} {n : Nat} {xs : List Value} (h : w.ownsRow base e sz v n xs) : ∃ a cap, v = .slice a n cap ∧ Rd w a xs := by
 rcases h.2 with ⟨rfl, rfl⟩ | ⟨g, cap, cur, rfl, _, hg, _⟩
 ·have hx : xs = [] := List.eq_nil_of_length_eq_zero (by simpa using h.1)
  subst hx
  exact ⟨none, 0, rfl, fun k u hu => by simp at hu⟩
 ·refine ⟨some ⟨g, 0, none⟩, cap, rfl, fun k u hu => ⟨g, 0, rfl, ?_⟩⟩
  have := h.cells (g := g) rfl k u hu
  have hadd : (⟨g, 0, none⟩ : Addr).add k = ⟨g, 0 + k, none⟩ := by unfold Addr.add; split <;> simp_all
  rw [hadd] at this
  exact this
theorem findG_body : ∀ (k : Nat) (s : List UInt8) (M : Nat), s.length ≤ M → ∀ f ∈ findG k s, f.body.length ≤ M
 | 0, _, _, _, f, hf => by simp [findG] at hf
 | k + 1, [], _, _, f, hf => by simp [findG] at hf
 | k + 1, b :: r, M, h, f, hf => by
  simp only [findG] at hf
  cases hr : rightL (b :: r) with
  | none =>
   rw [hr] at hf
   exact findG_body k r M (by simp only [List.length_cons] at h; omega) f hf
  | some x =>
   obtain ⟨g, n⟩ := x
   rw [hr] at hf
   simp only [List.mem_cons] at hf
   rcases hf with rfl | hf
   ·unfold rightL at hr
    split at hr
    ·simp only [Option.some.injEq, Prod.mk.injEq] at hr
     rw [← hr.1]
     unfold foundAt
     simp only [List.length_take, List.length_drop]
     omega
    ·cases hr
   ·exact findG_body k _ M (by rw [List.length_drop]; omega) f hf
theorem findL_body (vs : List (List UInt8)) (M : Nat) (h : ∀ v ∈ vs, v.length ≤ M) : ∀ f ∈ findL vs, f.body.length ≤ M := by
 intro f hf
 unfold findL at hf
 rw [List.mem_flatMap] at hf
 obtain ⟨v, hv, hf⟩ := hf
 exact findG_body _ v M (h v hv) f hf
end Go.Proofs.YtonjphollmdicaaGreatDoor
namespace Go.Proofs.YtonjphollmdicaaGreatDoor
open Go.ChangeShapes Go.WideShapes Go.ChangeAt Go.RowKit
def mainSize (b : List UInt8) : Nat := numL (rdT (b, false) 2)
def mainCount (b : List UInt8) : Nat := numL (rdT (rdS (b, false) 2) 1)
def mainSt (b : List UInt8) : List UInt8 × Bool := rdS (rdS (b, false) 2) 1
def mainFiles (b : List UInt8) : List Nat := hshL (mainSt b).1
def mainRight (b : List UInt8) : Bool := !(hshS (mainSt b)).2 && sliceSize (mainSize b : Int) && decide (1 ≤ mainCount b) && decide (mainCount b ≤ 6) && decide (mainCount b = (mainFiles b).length)
theorem mainRight_eq (b : List UInt8) : mainRight b = (decide (3 ≤ b.length) && (sliceSize ((numL (b.take 2) : Nat) : Int) && decide (1 ≤ (b.getD 2 0).toNat) && decide ((b.getD 2 0).toNat ≤ 6) && decide (b.length = 3 + 8 * (b.getD 2 0).toNat))) := by
 by_cases h : 3 ≤ b.length
 ·have e1 : rdT (b, false) 2 = b.take 2 := rdT_ok (by simp; omega)
  have e2 : rdS (b, false) 2 = (b.drop 2, false) := rdS_ok (by simp; omega)
  have e3 : rdT (b.drop 2, false) 1 = [b.getD 2 0] := by rw [rdT_ok (by simp; omega)]; exact take_one b 2 (by omega)
  have e4 : rdS (b.drop 2, false) 1 = (b.drop 3, false) := by rw [rdS_ok (by simp; omega), List.drop_drop]
  unfold mainRight mainFiles mainSize mainCount mainSt
  rw [e1, e2, e3, e4, numL_one, hshL_length, decide_eq_true h, Bool.true_and]
  unfold hshS
  simp only [List.length_drop, Bool.false_or]
  cases sliceSize ((numL (b.take 2) : Nat) : Int)
  ·simp
  ·simp only [Bool.and_true, Bool.true_and]
   generalize (b.getD 2 0).toNat = x
   by_cases h2 : b.length = 3 + 8 * x
   ·rw [decide_eq_true h2, decide_eq_false (by omega : ¬ ((b.length - 3) % 8 ≠ 0)), decide_eq_true (by omega : x = (b.length - 3 + 7) / 8)]
    simp
   ·rw [decide_eq_false h2, Bool.and_false]
    by_cases h3 : (b.length - 3) % 8 = 0
    ·rw [decide_eq_false (by omega : ¬ (x = (b.length - 3 + 7) / 8)), Bool.and_false]
    ·rw [decide_eq_true (show (b.length - 3) % 8 ≠ 0 from h3)]
     simp
 ·rw [decide_eq_false h, Bool.false_and]
  have hs : (mainSt b).2 = true := by
   unfold mainSt
   by_cases h2 : 2 ≤ b.length
   ·rw [rdS_ok (s := (b, false)) (by simpa using h2), rdS_no (by simp; omega)]
   ·exact rdS_short (by rw [rdS_no (by simp; omega)]) _
  unfold mainRight hshS
  rw [hs]
  simp
theorem isChief_eq (f : FoundL) : isChief f = (f.kind == 77 && mainRight f.body && (hashL f.body == f.set)) := by
 rw [mainRight_eq]
 unfold isChief
 cases f.kind == 77 <;> cases hashL f.body == f.set <;> cases sliceSize ((numL (f.body.take 2) : Nat) : Int) <;> simp
theorem mainFiles_eq {b : List UInt8} (h : mainRight b = true) : mainSize b = numL (b.take 2) ∧ mainFiles b = (List.range (b.getD 2 0).toNat).map (fun i => numL ((b.drop (3 + 8 * i)).take 8)) ∧ 1 ≤ (b.getD 2 0).toNat ∧ (b.getD 2 0).toNat ≤ 6 ∧ b.length = 3 + 8 * (b.getD 2 0).toNat ∧ sliceSize ((mainSize b : Nat) : Int) = true := by
 rw [mainRight_eq] at h
 simp only [Bool.and_eq_true, decide_eq_true_eq] at h
 obtain ⟨h0, ⟨⟨h1, h2⟩, h3⟩, h4⟩ := h
 have e1 : mainSize b = numL (b.take 2) := by unfold mainSize; rw [rdT_ok (by simp; omega)]
 refine ⟨e1, ?_, h2, h3, h4, by rw [e1]; exact h1⟩
 have e4 : mainSt b = (b.drop 3, false) := by
  unfold mainSt
  rw [rdS_ok (s := (b, false)) (by simp; omega), rdS_ok (by simp; omega), List.drop_drop]
 unfold mainFiles
 rw [e4]
 unfold hshL
 simp only [List.length_drop]
 rw [show (b.length - 3 + 7) / 8 = (b.getD 2 0).toNat from by omega]
 apply List.map_congr_left
 intro i hi
 rw [List.mem_range] at hi
 rw [rdT_ok (by simp; omega), List.drop_drop]
def fNumber (b : List UInt8) : Nat := numL (rdT (b, false) 1)
def fS1 (b : List UInt8) : List UInt8 × Bool := rdS (b, false) 1
def fN (b : List UInt8) : Nat := numL (rdT (fS1 b) 1)
def fS2 (b : List UInt8) : List UInt8 × Bool := rdS (fS1 b) 1
def fName (b : List UInt8) : List UInt8 := rdT (fS2 b) (fN b)
def fS3 (b : List UInt8) : List UInt8 × Bool := rdS (fS2 b) (fN b)
def fLong (b : List UInt8) : Nat := numL (rdT (fS3 b) 2)
def fS4 (b : List UInt8) : List UInt8 × Bool := rdS (fS3 b) 2
def fHash (b : List UInt8) : Nat := numL (rdT (fS4 b) 8)
def fS5 (b : List UInt8) : List UInt8 × Bool := rdS (fS4 b) 8
def fSlices (b : List UInt8) : List Nat := hshL (fS5 b).1
def fRight (b : List UInt8) (size : Nat) : Bool := !(hshS (fS5 b)).2 && decide (1 ≤ (fName b).length) && decide ((fName b).length ≤ 20) && decide (fLong b ≤ 400) && decide ((fSlices b).length = slicesOfN (fLong b) size)
theorem f_ok {b : List UInt8} (h : 2 ≤ b.length) (h2 : 12 + formN b ≤ b.length) : fNumber b = (b.getD 0 0).toNat ∧ fN b = formN b ∧ fName b = (b.drop 2).take (formN b) ∧ fLong b = formLong b ∧ fHash b = formHash b ∧ fS5 b = (b.drop (12 + formN b), false) := by
 have a1 : fS1 b = (b.drop 1, false) := rdS_ok (by simp; omega)
 have a2 : fNumber b = (b.getD 0 0).toNat := by
  unfold fNumber
  rw [rdT_ok (by simp; omega)]
  have := take_one b 0 (by omega)
  rw [List.drop_zero] at this
  rw [this, numL_one]
 have a3 : fN b = formN b := by
  unfold fN
  rw [a1, rdT_ok (by simp; omega), take_one b 1 (by omega), numL_one]
  rfl
 have a4 : fS2 b = (b.drop 2, false) := by unfold fS2; rw [a1, rdS_ok (by simp; omega), List.drop_drop]
 have a5 : fName b = (b.drop 2).take (formN b) := by unfold fName; rw [a4, a3, rdT_ok (by simp; omega)]
 have a6 : fS3 b = (b.drop (2 + formN b), false) := by unfold fS3; rw [a4, a3, rdS_ok (by simp; omega), List.drop_drop]
 have a7 : fLong b = formLong b := by unfold fLong formLong; rw [a6, rdT_ok (by simp; omega)]
 have a8 : fS4 b = (b.drop (4 + formN b), false) := by unfold fS4; rw [a6, rdS_ok (by simp; omega), List.drop_drop, show 2 + formN b + 2 = 4 + formN b from by omega]
 have a9 : fHash b = formHash b := by unfold fHash formHash; rw [a8, rdT_ok (by simp; omega)]
 have a10 : fS5 b = (b.drop (12 + formN b), false) := by unfold fS5; rw [a8, rdS_ok (by simp; omega), List.drop_drop, show 4 + formN b + 8 = 12 + formN b from by omega]
 exact ⟨a2, a3, a5, a7, a9, a10⟩
theorem fS5_short {b : List UInt8} (h : b.length < 2 ∨ b.length < 12 + formN b) : (fS5 b).2 = true := by
 unfold fS5 fS4 fS3 fS2
 by_cases c1 : 1 ≤ b.length
 ·have a1 : fS1 b = (b.drop 1, false) := rdS_ok (by simpa using c1)
  by_cases c2 : 2 ≤ b.length
  ·have a3 : fN b = formN b := by
    unfold fN
    rw [a1, rdT_ok (by simp; omega), take_one b 1 (by omega), numL_one]
    rfl
   rw [a1, a3, rdS_ok (s := (b.drop 1, false)) (n := 1) (by simp; omega), List.drop_drop]
   by_cases c3 : 2 + formN b ≤ b.length
   ·rw [rdS_ok (n := formN b) (by simp; omega), List.drop_drop]
    by_cases c4 : 4 + formN b ≤ b.length
    ·rw [rdS_ok (n := 2) (by simp; omega), List.drop_drop, rdS_no (by simp; omega)]
    ·exact rdS_short (by rw [rdS_no (by simp; omega)]) _
   ·exact rdS_short (rdS_short (by rw [rdS_no (by simp; omega)]) _) _
  ·exact rdS_short (rdS_short (rdS_short (by rw [a1, rdS_no (by simp; omega)]) _) _) _
 ·exact rdS_short (rdS_short (rdS_short (rdS_short (by unfold fS1; rw [rdS_no (show b.length < 1 by omega)]) _) _) _) _
theorem fRight_eq (b : List UInt8) (size : Nat) : fRight b size = isForm b size := by
 by_cases h : 2 ≤ b.length ∧ 12 + formN b ≤ b.length
 ·obtain ⟨h1, h2⟩ := h
  obtain ⟨_, _, a3, a4, _, a6⟩ := f_ok h1 h2
  unfold fRight isForm fSlices
  rw [a3, a4, a6, hshL_length, decide_eq_true h1, decide_eq_true h2]
  have e : ((b.drop 2).take (formN b)).length = formN b := by rw [List.length_take, List.length_drop]; omega
  rw [e]
  unfold hshS
  simp only [List.length_drop, Bool.false_or, Bool.true_and, Bool.and_true]
  generalize slicesOfN (formLong b) size = k
  generalize formN b = n at *
  by_cases c : b.length = 12 + n + 8 * k
  ·rw [decide_eq_true c, decide_eq_false (by omega : ¬ ((b.length - (12 + n)) % 8 ≠ 0)), decide_eq_true (by omega : (b.length - (12 + n) + 7) / 8 = k)]
   simp
  ·rw [decide_eq_false c, Bool.and_false]
   by_cases h3 : (b.length - (12 + n)) % 8 = 0
   ·rw [decide_eq_false (by omega : ¬ ((b.length - (12 + n) + 7) / 8 = k)), Bool.and_false]
   ·rw [decide_eq_true (show (b.length - (12 + n)) % 8 ≠ 0 from h3)]
    simp
 ·have hs := fS5_short (b := b) (by omega)
  unfold fRight hshS isForm
  rw [hs]
  by_cases h1 : 2 ≤ b.length
  ·rw [decide_eq_false (by omega : ¬ 12 + formN b ≤ b.length)]; simp
  ·rw [decide_eq_false h1]; simp
theorem fInfo_eq {b : List UInt8} {size : Nat} (h : isForm b size = true) : formAt b size = ⟨fName b, fLong b, fHash b, fSlices b⟩ ∧ fNumber b = (b.getD 0 0).toNat := by
 unfold isForm at h
 simp only [Bool.and_eq_true, decide_eq_true_eq] at h
 obtain ⟨⟨⟨⟨⟨h1, _⟩, _⟩, h2⟩, _⟩, h3⟩ := h
 obtain ⟨a1, _, a3, a4, a5, a6⟩ := f_ok h1 h2
 refine ⟨?_, a1⟩
 unfold formAt fSlices
 rw [a3, a4, a5, a6]
 unfold hshL
 simp only [List.length_drop]
 rw [show (b.length - (12 + formN b) + 7) / 8 = slicesOfN (formLong b) size from by omega]
 congr 1
 apply List.map_congr_left
 intro i hi
 rw [List.mem_range] at hi
 unfold formSlice
 rw [rdT_ok (by simp; omega), List.drop_drop]
def eNumber (b : List UInt8) : Nat := numL (rdT (b, false) 2)
def eS1 (b : List UInt8) : List UInt8 × Bool := rdS (b, false) 2
def eSlice (b : List UInt8) (size : Nat) : List UInt8 := rdT (eS1 b) size
def eS2 (b : List UInt8) (size : Nat) : List UInt8 × Bool := rdS (eS1 b) size
def eRight (b : List UInt8) (size : Nat) : Bool := !(eS2 b size).2 && decide ((eS2 b size).1 = []) && decide (eNumber b < 20)
theorem eRight_eq (b : List UInt8) (size : Nat) : eRight b size = (decide (b.length = 2 + size) && decide (numL (b.take 2) < 20)) := by
 unfold eRight eS2 eS1 eNumber
 by_cases h2 : 2 ≤ b.length
 ·rw [rdS_ok (s := (b, false)) (by simpa using h2), rdT_ok (s := (b, false)) (by simpa using h2)]
  by_cases h3 : 2 + size ≤ b.length
  ·rw [rdS_ok (by simp; omega)]
   simp only [List.drop_drop, Bool.not_false, Bool.true_and, List.drop_eq_nil_iff]
   congr 1
   by_cases c : b.length = 2 + size
   ·rw [decide_eq_true c, decide_eq_true (by omega)]
   ·rw [decide_eq_false c, decide_eq_false (by omega)]
  ·rw [rdS_no (by simp; omega), decide_eq_false (by omega : ¬ b.length = 2 + size)]
   simp
 ·rw [decide_eq_false (by omega : ¬ b.length = 2 + size), rdS_short (by rw [rdS_no (by simp; omega)])]
  simp
theorem eInfo_eq {b : List UInt8} {size : Nat} (h : b.length = 2 + size) : eNumber b = numL (b.take 2) ∧ eSlice b size = b.drop 2 := by
 unfold eNumber eSlice eS1
 rw [rdT_ok (s := (b, false)) (by simp; omega), rdS_ok (s := (b, false)) (by simp; omega), rdT_ok (by simp; omega)]
 refine ⟨rfl, ?_⟩
 simp only
 rw [List.take_of_length_le (by simp; omega)]
end Go.Proofs.YtonjphollmdicaaGreatDoor
