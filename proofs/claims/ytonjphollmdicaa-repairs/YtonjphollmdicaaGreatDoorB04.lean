import Derived.Test.YtonjphollmdicaaGreatDoorB01
import Derived.Test.YtonjphollmdicaaGreatDoorB03
namespace Go.Proofs.YtonjphollmdicaaGreatDoor
open Go.ChangeShapes Go.WideShapes Go.ChangeAt Go.RowKit
def mainSize (b : List UInt8) : Nat := numL (rdT (b, false) 2)
def mainCount (b : List UInt8) : Nat := numL (rdT (rdS (b, false) 2) 1)
def mainSt (b : List UInt8) : List UInt8 × Bool := rdS (rdS (b, false) 2) 1
def mainFiles (b : List UInt8) : List Nat := hshL (mainSt b).1
def mainRight (b : List UInt8) : Bool := !(hshS (mainSt b)).2 && sliceSize (mainSize b : Int) && decide (1 ≤ mainCount b) && decide (mainCount b ≤ 6) && decide (mainCount b = (mainFiles b).length)
theorem mainRight_eq (b : List UInt8) : mainRight b = (decide (3 ≤ b.length) && (sliceSize ((numL (b.take 2) : Nat) : Int) && decide (1 ≤ (b.getD 2 0).toNat) && decide ((b.getD 2 0).toNat ≤ 6) && decide (b.length = 3 + 8 * (b.getD 2 0).toNat))) := by
 by_cases h : 3 ≤ b.length
 ·have e1 : rdT (b, false) 2 = b.take 2 := rdT_ok (by simp; omega)
  have e2 : rdS (b, false) 2 = (b.drop 2, false) := rdS_ok (by simp; omega)
  have e3 : rdT (b.drop 2, false) 1 = [b.getD 2 0] := by rw [rdT_ok (by simp; omega)]; exact take_one b 2 (by omega)
  have e4 : rdS (b.drop 2, false) 1 = (b.drop 3, false) := by rw [rdS_ok (by simp; omega), List.drop_drop]
  unfold mainRight mainFiles mainSize mainCount mainSt
  rw [e1, e2, e3, e4, numL_one, hshL_length, decide_eq_true h, Bool.true_and]
  unfold hshS
  simp only [List.length_drop, Bool.false_or]
  cases sliceSize ((numL (b.take 2) : Nat) : Int)
  ·simp
  ·simp only [Bool.and_true, Bool.true_and]
   generalize (b.getD 2 0).toNat = x
   by_cases h2 : b.length = 3 + 8 * x
   ·rw [decide_eq_true h2, decide_eq_false (by omega : ¬ ((b.length - 3) % 8 ≠ 0)), decide_eq_true (by omega : x = (b.length - 3 + 7) / 8)]
    simp
   ·rw [decide_eq_false h2, Bool.and_false]
    by_cases h3 : (b.length - 3) % 8 = 0
    ·rw [decide_eq_false (by omega : ¬ (x = (b.length - 3 + 7) / 8)), Bool.and_false]
    ·rw [decide_eq_true (show (b.length - 3) % 8 ≠ 0 from h3)]
     simp
 ·rw [decide_eq_false h, Bool.false_and]
  have hs : (mainSt b).2 = true := by
   unfold mainSt
   by_cases h2 : 2 ≤ b.length
   ·rw [rdS_ok (s := (b, false)) (by simpa using h2), rdS_no (by simp; omega)]
   ·exact rdS_short (by rw [rdS_no (by simp; omega)]) _
  unfold mainRight hshS
  rw [hs]
  simp
theorem isChief_eq (f : FoundL) : isChief f = (f.kind == 77 && mainRight f.body && (hashL f.body == f.set)) := by
 rw [mainRight_eq]
 unfold isChief
 cases f.kind == 77 <;> cases hashL f.body == f.set <;> cases sliceSize ((numL (f.body.take 2) : Nat) : Int) <;> simp
theorem mainFiles_eq {b : List UInt8} (h : mainRight b = true) : mainSize b = numL (b.take 2) ∧ mainFiles b = (List.range (b.getD 2 0).toNat).map (fun i => numL ((b.drop (3 + 8 * i)).take 8)) ∧ 1 ≤ (b.getD 2 0).toNat ∧ (b.getD 2 0).toNat ≤ 6 ∧ b.length = 3 + 8 * (b.getD 2 0).toNat ∧ sliceSize ((mainSize b : Nat) : Int) = true := by
 rw [mainRight_eq] at h
 simp only [Bool.and_eq_true, decide_eq_true_eq] at h
 obtain ⟨h0, ⟨⟨h1, h2⟩, h3⟩, h4⟩ := h
 have e1 : mainSize b = numL (b.take 2) := by unfold mainSize; rw [rdT_ok (by simp; omega)]
 refine ⟨e1, ?_, h2, h3, h4, by rw [e1]; exact h1⟩
 have e4 : mainSt b = (b.drop 3, false) := by
  unfold mainSt
  rw [rdS_ok (s := (b, false)) (by simp; omega), rdS_ok (by simp; omega), List.drop_drop]
 unfold mainFiles
 rw [e4]
 unfold hshL
 simp only [List.length_drop]
 rw [show (b.length - 3 + 7) / 8 = (b.getD 2 0).toNat from by omega]
 apply List.map_congr_left
 intro i hi
 rw [List.mem_range] at hi
 rw [rdT_ok (by simp; omega), List.drop_drop]
def fNumber (b : List UInt8) : Nat := numL (rdT (b, false) 1)
def fS1 (b : List UInt8) : List UInt8 × Bool := rdS (b, false) 1
def fN (b : List UInt8) : Nat := numL (rdT (fS1 b) 1)
def fS2 (b : List UInt8) : List UInt8 × Bool := rdS (fS1 b) 1
def fName (b : List UInt8) : List UInt8 := rdT (fS2 b) (fN b)
def fS3 (b : List UInt8) : List UInt8 × Bool := rdS (fS2 b) (fN b)
def fLong (b : List UInt8) : Nat := numL (rdT (fS3 b) 2)
def fS4 (b : List UInt8) : List UInt8 × Bool := rdS (fS3 b) 2
def fHash (b : List UInt8) : Nat := numL (rdT (fS4 b) 8)
def fS5 (b : List UInt8) : List UInt8 × Bool := rdS (fS4 b) 8
def fSlices (b : List UInt8) : List Nat := hshL (fS5 b).1
def fRight (b : List UInt8) (size : Nat) : Bool := !(hshS (fS5 b)).2 && decide (1 ≤ (fName b).length) && decide ((fName b).length ≤ 20) && decide (fLong b ≤ 400) && decide ((fSlices b).length = slicesOfN (fLong b) size)
theorem f_ok {b : List UInt8} (h : 2 ≤ b.length) (h2 : 12 + formN b ≤ b.length) : fNumber b = (b.getD 0 0).toNat ∧ fN b = formN b ∧ fName b = (b.drop 2).take (formN b) ∧ fLong b = formLong b ∧ fHash b = formHash b ∧ fS5 b = (b.drop (12 + formN b), false) := by
 have a1 : fS1 b = (b.drop 1, false) := rdS_ok (by simp; omega)
 have a2 : fNumber b = (b.getD 0 0).toNat := by
  unfold fNumber
  rw [rdT_ok (by simp; omega)]
  have := take_one b 0 (by omega)
  rw [List.drop_zero] at this
  rw [this, numL_one]
 have a3 : fN b = formN b := by
  unfold fN
  rw [a1, rdT_ok (by simp; omega), take_one b 1 (by omega), numL_one]
  rfl
 have a4 : fS2 b = (b.drop 2, false) := by unfold fS2; rw [a1, rdS_ok (by simp; omega), List.drop_drop]
 have a5 : fName b = (b.drop 2).take (formN b) := by unfold fName; rw [a4, a3, rdT_ok (by simp; omega)]
 have a6 : fS3 b = (b.drop (2 + formN b), false) := by unfold fS3; rw [a4, a3, rdS_ok (by simp; omega), List.drop_drop]
 have a7 : fLong b = formLong b := by unfold fLong formLong; rw [a6, rdT_ok (by simp; omega)]
 have a8 : fS4 b = (b.drop (4 + formN b), false) := by unfold fS4; rw [a6, rdS_ok (by simp; omega), List.drop_drop, show 2 + formN b + 2 = 4 + formN b from by omega]
 have a9 : fHash b = formHash b := by unfold fHash formHash; rw [a8, rdT_ok (by simp; omega)]
 have a10 : fS5 b = (b.drop (12 + formN b), false) := by unfold fS5; rw [a8, rdS_ok (by simp; omega), List.drop_drop, show 4 + formN b + 8 = 12 + formN b from by omega]
 exact ⟨a2, a3, a5, a7, a9, a10⟩
theorem fS5_short {b : List UInt8} (h : b.length < 2 ∨ b.length < 12 + formN b) : (fS5 b).2 = true := by
 unfold fS5 fS4 fS3 fS2
 by_cases c1 : 1 ≤ b.length
 ·have a1 : fS1 b = (b.drop 1, false) := rdS_ok (by simpa using c1)
  by_cases c2 : 2 ≤ b.length
  ·have a3 : fN b = formN b := by
    unfold fN
    rw [a1, rdT_ok (by simp; omega), take_one b 1 (by omega), numL_one]
    rfl
   rw [a1, a3, rdS_ok (s := (b.drop 1, false)) (n := 1) (by simp; omega), List.drop_drop]
   by_cases c3 : 2 + formN b ≤ b.length
   ·rw [rdS_ok (n := formN b) (by simp; omega), List.drop_drop]
    by_cases c4 : 4 + formN b ≤ b.length
    ·rw [rdS_ok (n := 2) (by simp; omega), List.drop_drop, rdS_no (by simp; omega)]
    ·exact rdS_short (by rw [rdS_no (by simp; omega)]) _
   ·exact rdS_short (rdS_short (by rw [rdS_no (by simp; omega)]) _) _
  ·exact rdS_short (rdS_short (rdS_short (by rw [a1, rdS_no (by simp; omega)]) _) _) _
 ·exact rdS_short (rdS_short (rdS_short (rdS_short (by unfold fS1; rw [rdS_no (show b.length < 1 by omega)]) _) _) _) _
theorem fRight_eq (b : List UInt8) (size : Nat) : fRight b size = isForm b size := by
 by_cases h : 2 ≤ b.length ∧ 12 + formN b ≤ b.length
 ·obtain ⟨h1, h2⟩ := h
  obtain ⟨_, _, a3, a4, _, a6⟩ := f_ok h1 h2
  unfold fRight isForm fSlices
  rw [a3, a4, a6, hshL_length, decide_eq_true h1, decide_eq_true h2]
  have e : ((b.drop 2).take (formN b)).length = formN b := by rw [List.length_take, List.length_drop]; omega
  rw [e]
  unfold hshS
  simp only [List.length_drop, Bool.false_or, Bool.true_and, Bool.and_true]
  generalize slicesOfN (formLong b) size = k
  generalize formN b = n at *
  by_cases c : b.length = 12 + n + 8 * k
  ·rw [decide_eq_true c, decide_eq_false (by omega : ¬ ((b.length - (12 + n)) % 8 ≠ 0)), decide_eq_true (by omega : (b.length - (12 + n) + 7) / 8 = k)]
   simp
  ·rw [decide_eq_false c, Bool.and_false]
   by_cases h3 : (b.length - (12 + n)) % 8 = 0
   ·rw [decide_eq_false (by omega : ¬ ((b.length - (12 + n) + 7) / 8 = k)), Bool.and_false]
   ·rw [decide_eq_true (show (b.length - (12 + n)) % 8 ≠ 0 from h3)]
    simp
 ·have hs := fS5_short (b := b) (by omega)
  unfold fRight hshS isForm
  rw [hs]
  by_cases h1 : 2 ≤ b.length
  ·rw [decide_eq_false (by omega : ¬ 12 + formN b ≤ b.length)]; simp
  ·rw [decide_eq_false h1]; simp
theorem fInfo_eq {b : List UInt8} {size : Nat} (h : isForm b size = true) : formAt b size = ⟨fName b, fLong b, fHash b, fSlices b⟩ ∧ fNumber b = (b.getD 0 0).toNat := by
 unfold isForm at h
 simp only [Bool.and_eq_true, decide_eq_true_eq] at h
 obtain ⟨⟨⟨⟨⟨h1, _⟩, _⟩, h2⟩, _⟩, h3⟩ := h
 obtain ⟨a1, _, a3, a4, a5, a6⟩ := f_ok h1 h2
 refine ⟨?_, a1⟩
 unfold formAt fSlices
 rw [a3, a4, a5, a6]
 unfold hshL
 simp only [List.length_drop]
 rw [show (b.length - (12 + formN b) + 7) / 8 = slicesOfN (formLong b) size from by omega]
 congr 1
 apply List.map_congr_left
 intro i hi
 rw [List.mem_range] at hi
 unfold formSlice
 rw [rdT_ok (by simp; omega), List.drop_drop]
def eNumber (b : List UInt8) : Nat := numL (rdT (b, false) 2)
def eS1 (b : List UInt8) : List UInt8 × Bool := rdS (b, false) 2
def eSlice (b : List UInt8) (size : Nat) : List UInt8 := rdT (eS1 b) size
def eS2 (b : List UInt8) (size : Nat) : List UInt8 × Bool := rdS (eS1 b) size
def eRight (b : List UInt8) (size : Nat) : Bool := !(eS2 b size).2 && decide ((eS2 b size).1 = []) && decide (eNumber b < 20)
theorem eRight_eq (b : List UInt8) (size : Nat) : eRight b size = (decide (b.length = 2 + size) && decide (numL (b.take 2) < 20)) := by
 unfold eRight eS2 eS1 eNumber
 by_cases h2 : 2 ≤ b.length
 ·rw [rdS_ok (s := (b, false)) (by simpa using h2), rdT_ok (s := (b, false)) (by simpa using h2)]
  by_cases h3 : 2 + size ≤ b.length
  ·rw [rdS_ok (by simp; omega)]
   simp only [List.drop_drop, Bool.not_false, Bool.true_and, List.drop_eq_nil_iff]
   congr 1
   by_cases c : b.length = 2 + size
   ·rw [decide_eq_true c, decide_eq_true (by omega)]
   ·rw [decide_eq_false c, decide_eq_false (by omega)]
  ·rw [rdS_no (by simp; omega), decide_eq_false (by omega : ¬ b.length = 2 + size)]
   simp
 ·rw [decide_eq_false (by omega : ¬ b.length = 2 + size), rdS_short (by rw [rdS_no (by simp; omega)])]
  simp
theorem eInfo_eq {b : List UInt8} {size : Nat} (h : b.length = 2 + size) : eNumber b = numL (b.take 2) ∧ eSlice b size = b.drop 2 := by
 unfold eNumber eSlice eS1
 rw [rdT_ok (s := (b, false)) (by simp; omega), rdS_ok (s := (b, false)) (by simp; omega), rdT_ok (by simp; omega)]
 refine ⟨rfl, ?_⟩
 simp only
 rw [List.take_of_length_le (by simp; omega)]
end Go.Proofs.YtonjphollmdicaaGreatDoor
