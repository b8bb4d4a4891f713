import Derived.Test.YtonjphollmdicaaDoorB00
import Derived.Test.YtonjphollmdicaaDoorB07
import Derived.Test.YtonjphollmdicaaDoorB08
import Derived.Maps.OwnSet
namespace Go.Proofs.YtonjphollmdicaaDoor
open Go.ChangeShapes Go.WideShapes Go.ChangeAt Go.RowKit

/-! an M packet's body -/
def mainSize (b : List UInt8) : Nat := numL (rdT (b, false) 2)
def mainCount (b : List UInt8) : Nat := numL (rdT (rdS (b, false) 2) 1)
def mainSt (b : List UInt8) : List UInt8 × Bool := rdS (rdS (b, false) 2) 1
def mainFiles (b : List UInt8) : List Nat := hshL (mainSt b).1
def mainRight (b : List UInt8) : Bool := !(hshS (mainSt b)).2 && sliceSize (mainSize b : Int) && decide (1 ≤ mainCount b) && decide (mainCount b ≤ 6) && decide (mainCount b = (mainFiles b).length)

theorem mainRight_eq (b : List UInt8) : mainRight b = (decide (3 ≤ b.length) && (sliceSize ((numL (b.take 2) : Nat) : Int) && decide (1 ≤ (b.getD 2 0).toNat) && decide ((b.getD 2 0).toNat ≤ 6) && decide (b.length = 3 + 8 * (b.getD 2 0).toNat))) := by
  by_cases h : 3 ≤ b.length
  · have e1 : rdT (b, false) 2 = b.take 2 := rdT_ok (by simp; omega)
    have e2 : rdS (b, false) 2 = (b.drop 2, false) := rdS_ok (by simp; omega)
    have e3 : rdT (b.drop 2, false) 1 = [b.getD 2 0] := by rw [rdT_ok (by simp; omega)]; exact take_one b 2 (by omega)
    have e4 : rdS (b.drop 2, false) 1 = (b.drop 3, false) := by rw [rdS_ok (by simp; omega), List.drop_drop]
    unfold mainRight mainFiles mainSize mainCount mainSt
    rw [e1, e2, e3, e4, numL_one, hshL_length, decide_eq_true h, Bool.true_and]
    unfold hshS
    simp only [List.length_drop, Bool.false_or]
    cases sliceSize ((numL (b.take 2) : Nat) : Int)
    · simp
    · simp only [Bool.and_true, Bool.true_and]
      generalize (b.getD 2 0).toNat = x
      by_cases h2 : b.length = 3 + 8 * x
      · rw [decide_eq_true h2, decide_eq_false (by omega : ¬ ((b.length - 3) % 8 ≠ 0)), decide_eq_true (by omega : x = (b.length - 3 + 7) / 8)]
        simp
      · rw [decide_eq_false h2, Bool.and_false]
        by_cases h3 : (b.length - 3) % 8 = 0
        · rw [decide_eq_false (by omega : ¬ (x = (b.length - 3 + 7) / 8)), Bool.and_false]
        · rw [decide_eq_true (show (b.length - 3) % 8 ≠ 0 from h3)]
          simp
  · rw [decide_eq_false h, Bool.false_and]
    have hs : (mainSt b).2 = true := by
      unfold mainSt
      by_cases h2 : 2 ≤ b.length
      · rw [rdS_ok (s := (b, false)) (by simpa using h2), rdS_no (by simp; omega)]
      · exact rdS_short (by rw [rdS_no (by simp; omega)]) _
    unfold mainRight hshS
    rw [hs]
    simp

/-- an M packet that counts -/
theorem isChief_eq (f : FoundL) : isChief f = (f.kind == 77 && mainRight f.body && (hashL f.body == f.set)) := by
  rw [mainRight_eq]
  unfold isChief
  cases f.kind == 77 <;> cases hashL f.body == f.set <;> cases sliceSize ((numL (f.body.take 2) : Nat) : Int) <;> simp

theorem mainFiles_eq {b : List UInt8} (h : mainRight b = true) : mainSize b = numL (b.take 2) ∧ mainFiles b = (List.range (b.getD 2 0).toNat).map (fun i => numL ((b.drop (3 + 8 * i)).take 8)) ∧ 1 ≤ (b.getD 2 0).toNat ∧ (b.getD 2 0).toNat ≤ 6 ∧ b.length = 3 + 8 * (b.getD 2 0).toNat ∧ sliceSize ((mainSize b : Nat) : Int) = true := by
  rw [mainRight_eq] at h
  simp only [Bool.and_eq_true, decide_eq_true_eq] at h
  obtain ⟨h0, ⟨⟨h1, h2⟩, h3⟩, h4⟩ := h
  have e1 : mainSize b = numL (b.take 2) := by unfold mainSize; rw [rdT_ok (by simp; omega)]
  refine ⟨e1, ?_, h2, h3, h4, by rw [e1]; exact h1⟩
  have e4 : mainSt b = (b.drop 3, false) := by
    unfold mainSt
    rw [rdS_ok (s := (b, false)) (by simp; omega), rdS_ok (by simp; omega), List.drop_drop]
  unfold mainFiles
  rw [e4]
  unfold hshL
  simp only [List.length_drop]
  rw [show (b.length - 3 + 7) / 8 = (b.getD 2 0).toNat from by omega]
  apply List.map_congr_left
  intro i hi
  rw [List.mem_range] at hi
  rw [rdT_ok (by simp; omega), List.drop_drop]

/-! an F packet's body -/
def fNumber (b : List UInt8) : Nat := numL (rdT (b, false) 1)
def fS1 (b : List UInt8) : List UInt8 × Bool := rdS (b, false) 1
def fN (b : List UInt8) : Nat := numL (rdT (fS1 b) 1)
def fS2 (b : List UInt8) : List UInt8 × Bool := rdS (fS1 b) 1
def fName (b : List UInt8) : List UInt8 := rdT (fS2 b) (fN b)
def fS3 (b : List UInt8) : List UInt8 × Bool := rdS (fS2 b) (fN b)
def fLong (b : List UInt8) : Nat := numL (rdT (fS3 b) 2)
def fS4 (b : List UInt8) : List UInt8 × Bool := rdS (fS3 b) 2
def fHash (b : List UInt8) : Nat := numL (rdT (fS4 b) 8)
def fS5 (b : List UInt8) : List UInt8 × Bool := rdS (fS4 b) 8
def fSlices (b : List UInt8) : List Nat := hshL (fS5 b).1
def fRight (b : List UInt8) (size : Nat) : Bool := !(hshS (fS5 b)).2 && decide (1 ≤ (fName b).length) && decide ((fName b).length ≤ 20) && decide (fLong b ≤ 400) && decide ((fSlices b).length = slicesOfN (fLong b) size)

theorem f_ok {b : List UInt8} (h : 2 ≤ b.length) (h2 : 12 + formN b ≤ b.length) : fNumber b = (b.getD 0 0).toNat ∧ fN b = formN b ∧ fName b = (b.drop 2).take (formN b) ∧ fLong b = formLong b ∧ fHash b = formHash b ∧ fS5 b = (b.drop (12 + formN b), false) := by
  have a1 : fS1 b = (b.drop 1, false) := rdS_ok (by simp; omega)
  have a2 : fNumber b = (b.getD 0 0).toNat := by
    unfold fNumber
    rw [rdT_ok (by simp; omega)]
    have := take_one b 0 (by omega)
    rw [List.drop_zero] at this
    rw [this, numL_one]
  have a3 : fN b = formN b := by
    unfold fN
    rw [a1, rdT_ok (by simp; omega), take_one b 1 (by omega), numL_one]
    rfl
  have a4 : fS2 b = (b.drop 2, false) := by unfold fS2; rw [a1, rdS_ok (by simp; omega), List.drop_drop]
  have a5 : fName b = (b.drop 2).take (formN b) := by unfold fName; rw [a4, a3, rdT_ok (by simp; omega)]
  have a6 : fS3 b = (b.drop (2 + formN b), false) := by unfold fS3; rw [a4, a3, rdS_ok (by simp; omega), List.drop_drop]
  have a7 : fLong b = formLong b := by unfold fLong formLong; rw [a6, rdT_ok (by simp; omega)]
  have a8 : fS4 b = (b.drop (4 + formN b), false) := by unfold fS4; rw [a6, rdS_ok (by simp; omega), List.drop_drop, show 2 + formN b + 2 = 4 + formN b from by omega]
  have a9 : fHash b = formHash b := by unfold fHash formHash; rw [a8, rdT_ok (by simp; omega)]
  have a10 : fS5 b = (b.drop (12 + formN b), false) := by unfold fS5; rw [a8, rdS_ok (by simp; omega), List.drop_drop, show 4 + formN b + 8 = 12 + formN b from by omega]
  exact ⟨a2, a3, a5, a7, a9, a10⟩

theorem fS5_short {b : List UInt8} (h : b.length < 2 ∨ b.length < 12 + formN b) : (fS5 b).2 = true := by
  unfold fS5 fS4 fS3 fS2
  by_cases c1 : 1 ≤ b.length
  · have a1 : fS1 b = (b.drop 1, false) := rdS_ok (by simpa using c1)
    by_cases c2 : 2 ≤ b.length
    · have a3 : fN b = formN b := by
        unfold fN
        rw [a1, rdT_ok (by simp; omega), take_one b 1 (by omega), numL_one]
        rfl
      rw [a1, a3, rdS_ok (s := (b.drop 1, false)) (n := 1) (by simp; omega), List.drop_drop]
      by_cases c3 : 2 + formN b ≤ b.length
      · rw [rdS_ok (n := formN b) (by simp; omega), List.drop_drop]
        by_cases c4 : 4 + formN b ≤ b.length
        · rw [rdS_ok (n := 2) (by simp; omega), List.drop_drop, rdS_no (by simp; omega)]
        · exact rdS_short (by rw [rdS_no (by simp; omega)]) _
      · exact rdS_short (rdS_short (by rw [rdS_no (by simp; omega)]) _) _
    · exact rdS_short (rdS_short (rdS_short (by rw [a1, rdS_no (by simp; omega)]) _) _) _
  · exact rdS_short (rdS_short (rdS_short (rdS_short (by unfold fS1; rw [rdS_no (show b.length < 1 by omega)]) _) _) _) _

theorem fRight_eq (b : List UInt8) (size : Nat) : fRight b size = isForm b size := by
  by_cases h : 2 ≤ b.length ∧ 12 + formN b ≤ b.length
  · obtain ⟨h1, h2⟩ := h
    obtain ⟨_, _, a3, a4, _, a6⟩ := f_ok h1 h2
    unfold fRight isForm fSlices
    rw [a3, a4, a6, hshL_length, decide_eq_true h1, decide_eq_true h2]
    have e : ((b.drop 2).take (formN b)).length = formN b := by rw [List.length_take, List.length_drop]; omega
    rw [e]
    unfold hshS
    simp only [List.length_drop, Bool.false_or, Bool.true_and, Bool.and_true]
    generalize slicesOfN (formLong b) size = k
    generalize formN b = n at *
    by_cases c : b.length = 12 + n + 8 * k
    · rw [decide_eq_true c, decide_eq_false (by omega : ¬ ((b.length - (12 + n)) % 8 ≠ 0)), decide_eq_true (by omega : (b.length - (12 + n) + 7) / 8 = k)]
      simp
    · rw [decide_eq_false c, Bool.and_false]
      by_cases h3 : (b.length - (12 + n)) % 8 = 0
      · rw [decide_eq_false (by omega : ¬ ((b.length - (12 + n) + 7) / 8 = k)), Bool.and_false]
      · rw [decide_eq_true (show (b.length - (12 + n)) % 8 ≠ 0 from h3)]
        simp
  · have hs := fS5_short (b := b) (by omega)
    unfold fRight hshS isForm
    rw [hs]
    by_cases h1 : 2 ≤ b.length
    · rw [decide_eq_false (by omega : ¬ 12 + formN b ≤ b.length)]; simp
    · rw [decide_eq_false h1]; simp

/-- what the program reads in an F packet's body is what the document's form says -/
theorem fInfo_eq {b : List UInt8} {size : Nat} (h : isForm b size = true) : formAt b size = ⟨fName b, fLong b, fHash b, fSlices b⟩ ∧ fNumber b = (b.getD 0 0).toNat := by
  unfold isForm at h
  simp only [Bool.and_eq_true, decide_eq_true_eq] at h
  obtain ⟨⟨⟨⟨⟨h1, _⟩, _⟩, h2⟩, _⟩, h3⟩ := h
  obtain ⟨a1, _, a3, a4, a5, a6⟩ := f_ok h1 h2
  refine ⟨?_, a1⟩
  unfold formAt fSlices
  rw [a3, a4, a5, a6]
  unfold hshL
  simp only [List.length_drop]
  rw [show (b.length - (12 + formN b) + 7) / 8 = slicesOfN (formLong b) size from by omega]
  congr 1
  apply List.map_congr_left
  intro i hi
  rw [List.mem_range] at hi
  unfold formSlice
  rw [rdT_ok (by simp; omega), List.drop_drop]

/-! an R packet's body -/
def eNumber (b : List UInt8) : Nat := numL (rdT (b, false) 2)
def eS1 (b : List UInt8) : List UInt8 × Bool := rdS (b, false) 2
def eSlice (b : List UInt8) (size : Nat) : List UInt8 := rdT (eS1 b) size
def eS2 (b : List UInt8) (size : Nat) : List UInt8 × Bool := rdS (eS1 b) size
def eRight (b : List UInt8) (size : Nat) : Bool := !(eS2 b size).2 && decide ((eS2 b size).1 = []) && decide (eNumber b < 20)
theorem eRight_eq (b : List UInt8) (size : Nat) : eRight b size = (decide (b.length = 2 + size) && decide (numL (b.take 2) < 20)) := by
  unfold eRight eS2 eS1 eNumber
  by_cases h2 : 2 ≤ b.length
  · rw [rdS_ok (s := (b, false)) (by simpa using h2), rdT_ok (s := (b, false)) (by simpa using h2)]
    by_cases h3 : 2 + size ≤ b.length
    · rw [rdS_ok (by simp; omega)]
      simp only [List.drop_drop, Bool.not_false, Bool.true_and, List.drop_eq_nil_iff]
      congr 1
      by_cases c : b.length = 2 + size
      · rw [decide_eq_true c, decide_eq_true (by omega)]
      · rw [decide_eq_false c, decide_eq_false (by omega)]
    · rw [rdS_no (by simp; omega), decide_eq_false (by omega : ¬ b.length = 2 + size)]
      simp
  · rw [decide_eq_false (by omega : ¬ b.length = 2 + size), rdS_short (by rw [rdS_no (by simp; omega)])]
    simp
theorem eInfo_eq {b : List UInt8} {size : Nat} (h : b.length = 2 + size) : eNumber b = numL (b.take 2) ∧ eSlice b size = b.drop 2 := by
  unfold eNumber eSlice eS1
  rw [rdT_ok (s := (b, false)) (by simp; omega), rdS_ok (s := (b, false)) (by simp; omega), rdT_ok (by simp; omega)]
  refine ⟨rfl, ?_⟩
  simp only
  rw [List.take_of_length_le (by simp; omega)]
end Go.Proofs.YtonjphollmdicaaDoor
namespace Go.Proofs.YtonjphollmdicaaDoor
open Go.ChangeShapes Go.WideShapes Go.ChangeAt Go.RowKit

def oS1 (t : List UInt8) : List UInt8 × Bool := rdS (t, false) 3
def oKind (t : List UInt8) : Nat := numL (rdT (oS1 t) 1)
def oS2 (t : List UInt8) : List UInt8 × Bool := rdS (oS1 t) 1
def oSet (t : List UInt8) : Nat := numL (rdT (oS2 t) 8)
def oS3 (t : List UInt8) : List UInt8 × Bool := rdS (oS2 t) 8
def oLen (t : List UInt8) : Nat := numL (rdT (oS3 t) 2)
def oS4 (t : List UInt8) : List UInt8 × Bool := rdS (oS3 t) 2
def oBody (t : List UInt8) : List UInt8 := rdT (oS4 t) (oLen t)
def oS5 (t : List UInt8) : List UInt8 × Bool := rdS (oS4 t) (oLen t)
def oAhead (t : List UInt8) : List UInt8 := t.take (t.length - (oS5 t).1.length)
def oHash (t : List UInt8) : Nat := numL (rdT (oS5 t) 8)
def oS6 (t : List UInt8) : List UInt8 × Bool := rdS (oS5 t) 8
def isOpen (t : List UInt8) : Bool := (rdT (t, false) 3 == [83, 65, 76]) && !(oS6 t).2 && (oHash t == hashL (oAhead t))
/-- right, of whatever kind -/
def isRight0 (s : List UInt8) : Bool := decide (22 ≤ s.length) && (s.take 3 == [83, 65, 76]) && decide (22 + bodyN s ≤ s.length) && (hashL (s.take (14 + bodyN s)) == numL ((s.drop (14 + bodyN s)).take 8))

theorem isRight_eq (s : List UInt8) : isRight s = (isRight0 s && kindL (s.getD 3 0)) := by
  unfold isRight isRight0
  cases decide (22 ≤ s.length) <;> cases s.take 3 == [83, 65, 76] <;> cases kindL (s.getD 3 0) <;> simp

theorem o_ok {t : List UInt8} (h : 14 ≤ t.length) (h2 : 14 + bodyN t ≤ t.length) : oKind t = (t.getD 3 0).toNat ∧ oSet t = numL ((t.drop 4).take 8) ∧ oLen t = bodyN t ∧ oBody t = (t.drop 14).take (bodyN t) ∧ oS5 t = (t.drop (14 + bodyN t), false) ∧ oAhead t = t.take (14 + bodyN t) := by
  have a1 : oS1 t = (t.drop 3, false) := rdS_ok (by simp; omega)
  have a2 : oKind t = (t.getD 3 0).toNat := by unfold oKind; rw [a1, rdT_ok (by simp; omega), take_one t 3 (by omega), numL_one]
  have a3 : oS2 t = (t.drop 4, false) := by unfold oS2; rw [a1, rdS_ok (by simp; omega), List.drop_drop]
  have a4 : oSet t = numL ((t.drop 4).take 8) := by unfold oSet; rw [a3, rdT_ok (by simp; omega)]
  have a5 : oS3 t = (t.drop 12, false) := by unfold oS3; rw [a3, rdS_ok (by simp; omega), List.drop_drop]
  have a6 : oLen t = bodyN t := by unfold oLen bodyN; rw [a5, rdT_ok (by simp; omega)]
  have a7 : oS4 t = (t.drop 14, false) := by unfold oS4; rw [a5, rdS_ok (by simp; omega), List.drop_drop]
  have a8 : oBody t = (t.drop 14).take (bodyN t) := by unfold oBody; rw [a7, a6, rdT_ok (by simp; omega)]
  have a9 : oS5 t = (t.drop (14 + bodyN t), false) := by unfold oS5; rw [a7, a6, rdS_ok (by simp; omega), List.drop_drop]
  refine ⟨a2, a4, a6, a8, a9, ?_⟩
  unfold oAhead
  rw [a9]
  simp only [List.length_drop]
  rw [show t.length - (t.length - (14 + bodyN t)) = 14 + bodyN t from by omega]

theorem oS6_short {t : List UInt8} (h : t.length < 22 ∨ t.length < 22 + bodyN t) : (oS6 t).2 = true := by
  by_cases h14 : 14 ≤ t.length ∧ 14 + bodyN t ≤ t.length
  · obtain ⟨_, _, _, _, a5, _⟩ := o_ok h14.1 h14.2
    unfold oS6
    rw [a5, rdS_no (by simp; omega)]
  · unfold oS6
    apply rdS_short
    unfold oS5
    by_cases c : 14 ≤ t.length
    · have a1 : oS1 t = (t.drop 3, false) := rdS_ok (by simp; omega)
      have a3 : oS2 t = (t.drop 4, false) := by unfold oS2; rw [a1, rdS_ok (by simp; omega), List.drop_drop]
      have a5 : oS3 t = (t.drop 12, false) := by unfold oS3; rw [a3, rdS_ok (by simp; omega), List.drop_drop]
      have a6 : oLen t = bodyN t := by unfold oLen bodyN; rw [a5, rdT_ok (by simp; omega)]
      have a7 : oS4 t = (t.drop 14, false) := by unfold oS4; rw [a5, rdS_ok (by simp; omega), List.drop_drop]
      rw [a7, a6, rdS_no (by simp; omega)]
    · apply rdS_short
      unfold oS4
      by_cases c3 : 3 ≤ t.length
      · have a1 : oS1 t = (t.drop 3, false) := rdS_ok (by simpa using c3)
        unfold oS3 oS2
        rw [a1]
        by_cases c4 : 4 ≤ t.length
        · rw [rdS_ok (s := (t.drop 3, false)) (n := 1) (by simp; omega), List.drop_drop]
          by_cases c12 : 12 ≤ t.length
          · rw [rdS_ok (n := 8) (by simp; omega), List.drop_drop, rdS_no (by simp; omega)]
          · exact rdS_short (by rw [rdS_no (by simp; omega)]) _
        · exact rdS_short (rdS_short (by rw [rdS_no (by simp; omega)]) _) _
      · unfold oS3 oS2 oS1
        exact rdS_short (rdS_short (rdS_short (by rw [rdS_no (by simp; omega)]) _) _) _

theorem isOpen_eq (t : List UInt8) : isOpen t = isRight0 t := by
  by_cases h : 22 ≤ t.length ∧ 22 + bodyN t ≤ t.length
  · obtain ⟨h1, h2⟩ := h
    obtain ⟨_, _, _, _, a5, a6⟩ := o_ok (t := t) (by omega) (by omega)
    unfold isOpen isRight0 oHash oS6
    rw [a5, a6, rdT_ok (s := (t, false)) (by simp; omega), rdS_ok (by simp; omega), rdT_ok (by simp; omega), decide_eq_true h1, decide_eq_true h2]
    simp only [Bool.not_false, Bool.and_true, Bool.true_and]
    rw [BEq.comm (a := numL _)]
  · have hs := oS6_short (t := t) (by omega)
    unfold isOpen isRight0
    rw [hs]
    by_cases h1 : 22 ≤ t.length
    · rw [decide_eq_false (by omega : ¬ 22 + bodyN t ≤ t.length)]; simp
    · rw [decide_eq_false h1]; simp

theorem open_found {t : List UInt8} (h : isOpen t = true) : oKind t = (foundAt t).kind.toNat ∧ oSet t = (foundAt t).set ∧ oBody t = (foundAt t).body ∧ (oAhead t).length + 8 = 22 + bodyN t ∧ 22 + bodyN t ≤ t.length := by
  rw [isOpen_eq] at h
  unfold isRight0 at h
  simp only [Bool.and_eq_true, decide_eq_true_eq] at h
  obtain ⟨⟨⟨h1, _⟩, h2⟩, _⟩ := h
  obtain ⟨a1, a2, _, a4, _, a6⟩ := o_ok (t := t) (by omega) (by omega)
  refine ⟨a1, a2, a4, ?_, h2⟩
  rw [a6, List.length_take]
  omega
end Go.Proofs.YtonjphollmdicaaDoor
namespace Go.Proofs.YtonjphollmdicaaDoor
open Go.ChangeShapes Go.WideShapes Go.ChangeAt Go.RowKit

/-- what an M packet says -/
structure MainL where
  size : Nat
  files : List Nat
  set : Nat
def mainOf (f : FoundL) : MainL := ⟨mainSize f.body, mainFiles f.body, f.set⟩
/-- the file that an F packet which counts describes -/
def takesF (m : MainL) (f : FoundL) : Option Nat := if f.set = m.set ∧ fRight f.body m.size = true ∧ fNumber f.body < m.files.length ∧ hashL f.body = m.files.getD (fNumber f.body) 0 then some (fNumber f.body) else none
def takesE (m : MainL) (f : FoundL) : Option Nat := if f.set = m.set ∧ eRight f.body m.size = true then some (eNumber f.body) else none
/-- the first one of a number -/
def firstOf (g : FoundL → Option Nat) (l : List FoundL) (i : Nat) : Option FoundL := l.find? (fun f => g f == some i)
def keysOf (g : FoundL → Option Nat) (l : List FoundL) (N : Nat) : List Nat := (List.range N).filter fun i => (firstOf g l i).isSome

theorem firstOf_snoc (g : FoundL → Option Nat) (l : List FoundL) (f : FoundL) (i : Nat) : firstOf g (l ++ [f]) i = (firstOf g l i).or (if g f = some i then some f else none) := by
  unfold firstOf
  rw [List.find?_append, List.find?_cons, List.find?_nil]
  by_cases h : g f = some i
  · rw [if_pos h, beq_iff_eq.2 h]
  · rw [if_neg h, beq_eq_false_iff_ne.2 h]
theorem firstOf_same {g : FoundL → Option Nat} {l : List FoundL} {f : FoundL} (h : ∀ i, g f = some i → (firstOf g l i).isSome = true) (i : Nat) : firstOf g (l ++ [f]) i = firstOf g l i := by
  rw [firstOf_snoc]
  by_cases c : g f = some i
  · have := h i c
    cases hh : firstOf g l i with
    | none => rw [hh] at this; simp at this
    | some x => rfl
  · rw [if_neg c, Option.or_none]
theorem firstOf_new {g : FoundL → Option Nat} {l : List FoundL} {f : FoundL} {j : Nat} (hf : g f = some j) (h : firstOf g l j = none) (i : Nat) : firstOf g (l ++ [f]) i = if i = j then some f else firstOf g l i := by
  rw [firstOf_snoc, hf]
  by_cases c : i = j
  · subst c
    rw [h, if_pos rfl, if_pos rfl]
    rfl
  · rw [if_neg c, if_neg (fun e => c (Option.some.inj e).symm), Option.or_none]
theorem filter_add (N : Nat) (p q : Nat → Bool) (j : Nat) (hj : j < N) (hp : p j = false) (hq : ∀ i, q i = (decide (i = j) || p i)) : ((List.range N).filter q).length = ((List.range N).filter p).length + 1 := by
  induction N with
  | zero => omega
  | succ N ih =>
    rw [List.range_succ, List.filter_append, List.filter_append, List.length_append, List.length_append]
    by_cases c : j = N
    · subst c
      have e : (List.range j).filter q = (List.range j).filter p := List.filter_congr (fun i hi => by
        rw [List.mem_range] at hi
        rw [hq, decide_eq_false (by omega), Bool.false_or])
      have q1 : q j = true := by rw [hq]; simp
      rw [e, List.filter_cons, q1, List.filter_cons, hp]
      simp
    · have h1 := ih (by omega)
      have e : q N = p N := by rw [hq, decide_eq_false (by omega), Bool.false_or]
      rw [h1, List.filter_cons, List.filter_cons, e]
      cases p N <;> simp
theorem keys_new {g : FoundL → Option Nat} {l : List FoundL} {f : FoundL} {j N : Nat} (hf : g f = some j) (h : firstOf g l j = none) (hj : j < N) : (keysOf g (l ++ [f]) N).length = (keysOf g l N).length + 1 :=
  filter_add N _ _ j hj (by rw [h]; rfl) (fun i => by
    rw [firstOf_new hf h]
    by_cases c : i = j
    · rw [if_pos c, decide_eq_true c]; rfl
    · rw [if_neg c, decide_eq_false c, Bool.false_or])
theorem keys_same {g : FoundL → Option Nat} {l : List FoundL} {f : FoundL} (h : ∀ i, g f = some i → (firstOf g l i).isSome = true) (N : Nat) : keysOf g (l ++ [f]) N = keysOf g l N :=
  List.filter_congr (fun i _ => by rw [firstOf_same h])

/-! M -/
def isMain (f : FoundL) : Bool := mainRight f.body && (hashL f.body == f.set)
theorem find_filter (p q : FoundL → Bool) (l : List FoundL) : (l.filter p).find? q = l.find? (fun f => p f && q f) := by
  induction l with
  | nil => rfl
  | cons f r ih =>
    rw [List.filter_cons, List.find?_cons]
    cases hp : p f with
    | true => simp [List.find?_cons, ih]
    | false => simp
theorem chief_of_pile (l : List FoundL) : (l.filter (·.kind == 77)).find? isMain = chiefL l := by
  rw [find_filter]
  unfold chiefL
  congr 1
  funext f
  rw [isChief_eq]
  unfold isMain
  rw [Bool.and_assoc]

/-! F -/
theorem takesF_iff (m : MainL) (f : FoundL) (i : Nat) (hi : i < m.files.length) (hk : f.kind = 70) : (takesF m f = some i) ↔ (speaksOf m.set i (m.files.getD i 0) f = true ∧ isForm f.body m.size = true) := by
  unfold takesF speaksOf
  rw [fRight_eq, hk]
  constructor
  · intro h
    split at h
    · rename_i hc
      obtain ⟨h1, h2, h3, h4⟩ := hc
      have hn := (fInfo_eq h2).2
      cases h
      refine ⟨?_, h2⟩
      have hl : 1 ≤ f.body.length := by
        unfold isForm at h2
        simp only [Bool.and_eq_true, decide_eq_true_eq] at h2
        omega
      rw [hn] at h4
      simp [h1, hl, hn, h4]
    · cases h
  · rintro ⟨h1, h2⟩
    simp only [Bool.and_eq_true, decide_eq_true_eq, beq_iff_eq] at h1
    obtain ⟨⟨⟨⟨_, h3⟩, _⟩, h5⟩, h6⟩ := h1
    have hn := (fInfo_eq h2).2
    rw [h5] at hn
    rw [hn, if_pos ⟨h3, h2, hi, h6⟩]

theorem described_of_pile (m : MainL) (i : Nat) (hi : i < m.files.length) (l : List FoundL) : (firstOf (takesF m) (l.filter (·.kind == 70)) i).map (fun f => formAt f.body m.size) = describedL l m.set i (m.files.getD i 0) m.size := by
  unfold firstOf
  rw [find_filter]
  unfold describedL
  induction l with
  | nil => rfl
  | cons f r ih =>
    rw [List.find?_cons, List.findSome?_cons]
    by_cases hk : f.kind = 70
    · rw [hk]
      have hiff := takesF_iff m f i hi hk
      by_cases h : takesF m f = some i
      · obtain ⟨h1, h2⟩ := hiff.1 h
        rw [h, h1]
        unfold formL
        simp [h2]
      · rw [beq_eq_false_iff_ne.2 h]
        simp only [Bool.and_false]
        by_cases h1 : speaksOf m.set i (m.files.getD i 0) f = true
        · have h2 : isForm f.body m.size = false := by
            cases c : isForm f.body m.size
            · rfl
            · exact absurd (hiff.2 ⟨h1, c⟩) h
          rw [h1]
          unfold formL
          simp only [h2]
          exact ih
        · rw [if_neg h1]
          exact ih
    · have h1 : speaksOf m.set i (m.files.getD i 0) f = false := by
        unfold speaksOf
        rw [beq_eq_false_iff_ne.2 hk]
        rfl
      rw [h1, beq_eq_false_iff_ne.2 hk]
      exact ih

/-! R -/
def isExtra (set b j : Nat) (f : FoundL) : Bool := f.kind == 82 && (f.set == set) && decide (f.body.length = 2 + b) && (numL (f.body.take 2) == j)
/-- the slice of the first R packet with a number -/
def exL (l : List FoundL) (set b j : Nat) : Option (List UInt8) := (l.find? (isExtra set b j)).map fun f => f.body.drop 2
theorem takesE_iff (m : MainL) (f : FoundL) (j : Nat) (hj : j < 20) : (f.kind == 82 && takesE m f == some j) = isExtra m.set m.size j f := by
  unfold takesE isExtra
  rw [eRight_eq]
  cases f.kind == 82
  · rfl
  · simp only [Bool.true_and]
    by_cases h1 : f.set = m.set
    · by_cases h2 : f.body.length = 2 + m.size
      · have he := (eInfo_eq h2).1
        by_cases h3 : numL (f.body.take 2) < 20
        · rw [if_pos ⟨h1, by simp [h2, h3]⟩, he]
          simp [h1, h2]
        · rw [if_neg (by simp [h3])]
          have : ¬ numL (f.body.take 2) = j := by omega
          simp [this]
      · rw [if_neg (by simp [h2])]
        simp [h2]
    · rw [if_neg (by simp [h1])]
      simp [h1]
theorem extra_of_pile (m : MainL) (j : Nat) (hj : j < 20) (l : List FoundL) : (firstOf (takesE m) (l.filter (·.kind == 82)) j).map (fun f => eSlice f.body m.size) = exL l m.set m.size j := by
  unfold firstOf exL
  rw [find_filter]
  have e : (fun f : FoundL => f.kind == 82 && takesE m f == some j) = isExtra m.set m.size j := funext fun f => takesE_iff m f j hj
  rw [e]
  cases h : l.find? (isExtra m.set m.size j) with
  | none => rfl
  | some f =>
    have hf := List.find?_some h
    unfold isExtra at hf
    simp only [Bool.and_eq_true, decide_eq_true_eq] at hf
    simp only [Option.map_some, Option.some.injEq]
    exact (eInfo_eq hf.1.2).2
theorem takesE_lt {m : MainL} {f : FoundL} {j : Nat} (h : takesE m f = some j) : j < 20 := by
  unfold takesE at h
  split at h
  · rename_i hc
    cases h
    have := hc.2
    unfold eRight at this
    simp only [Bool.and_eq_true, decide_eq_true_eq] at this
    exact this.2
  · cases h
theorem takesF_lt {m : MainL} {f : FoundL} {j : Nat} (h : takesF m f = some j) : j < m.files.length := by
  unfold takesF at h
  split at h
  · rename_i hc
    cases h
    exact hc.2.2.1
  · cases h
end Go.Proofs.YtonjphollmdicaaDoor
namespace Go.Proofs.YtonjphollmdicaaDoor
open Go.ChangeShapes Go.WideShapes Go.ChangeAt Go.RowKit

/-- w' is w but for the blocks of L; it may be longer -/
structure Touch (L : List Nat) (w w' : World) : Prop where
  os : w'.os = w.os
  tape : w'.tape = w.tape
  output : w'.output = w.output
  size : w.heap.size ≤ w'.heap.size
  block : ∀ k, k < w.heap.size → k ∉ L → w'.heap[k]? = w.heap[k]?

theorem Touch.refl (L : List Nat) (w : World) : Touch L w w := ⟨rfl, rfl, rfl, Nat.le_refl _, fun _ _ _ => rfl⟩
theorem Touch.trans {L : List Nat} {a b c : World} (h : Touch L a b) (k : Touch L b c) : Touch L a c :=
  ⟨k.os.trans h.os, k.tape.trans h.tape, k.output.trans h.output, Nat.le_trans h.size k.size, fun i hi hL => (k.block i (Nat.lt_of_lt_of_le hi h.size) hL).trans (h.block i hi hL)⟩
theorem Touch.mono {L M : List Nat} {a b : World} (h : Touch L a b) (hs : ∀ x ∈ L, x ∈ M) : Touch M a b := ⟨h.os, h.tape, h.output, h.size, fun i hi hM => h.block i hi (fun e => hM (hs i e))⟩
/-- what is touched afterwards is touched already, or new -/
theorem Touch.andThen {L M : List Nat} {a b c : World} (h : Touch L a b) (k : Touch M b c) (hs : ∀ x ∈ M, x ∈ L ∨ a.heap.size ≤ x) : Touch L a c :=
  ⟨k.os.trans h.os, k.tape.trans h.tape, k.output.trans h.output, Nat.le_trans h.size k.size, fun i hi hL => (k.block i (Nat.lt_of_lt_of_le hi h.size) (fun e => by rcases hs i e with h1 | h1; exact hL h1; omega)).trans (h.block i hi hL)⟩
theorem Touch.below {L : List Nat} {a b : World} (h : Touch L a b) {B : Nat} (hB : B ≤ a.heap.size) (hs : ∀ x ∈ L, B ≤ x) : Below B a b := ⟨h.os, h.tape, h.output, h.size, fun i hi => h.block i (by omega) (fun e => by have := hs i e; omega)⟩
theorem Touch.of_below {a b : World} (h : Below a.heap.size a b) (L : List Nat) : Touch L a b := ⟨h.os, h.tape, h.output, h.size, fun i hi _ => h.block i hi⟩
theorem Touch.of_grown {a b : World} {r : Nat} (h : a.grownBy b (some r)) : Touch [r] a b := ⟨h.os, h.tape, h.output, h.size, fun i hi hL => h.block i hi (by simpa using hL)⟩
theorem Touch.grown {a b : World} {r : Nat} (h : Touch [r] a b) : a.grownBy b (some r) := ⟨h.os, h.tape, h.output, h.size, fun i hi hL => h.block i hi (by simpa using hL)⟩
theorem Touch.grown_none {a b : World} (h : Touch [] a b) : a.grownBy b none := ⟨h.os, h.tape, h.output, h.size, fun i hi _ => h.block i hi (by simp)⟩
theorem Touch.alloc {L : List Nat} {a b : World} (h : Touch L a b) (o : Obj) : Touch L a (b.alloc o) := h.andThen (Touch.of_below ((Below.refl _ _).alloc (Nat.le_refl _) o) []) (by simp)
theorem Touch.drew {L : List Nat} {a b : World} (h : Touch L a b) : Touch L a b.drew := ⟨h.os, h.tape, h.output, h.size, h.block⟩
theorem Touch.setCell {L : List Nat} {a b : World} (h : Touch L a b) {x : Addr} (hx : x.block ∈ L ∨ a.heap.size ≤ x.block) (v : Value) : Touch L a (b.setCell x v) := by
  have h1 : Below x.block b (b.setCell x v) := (Below.refl _ _).setCell (Nat.le_refl _) v
  refine ⟨h1.os.trans h.os, h1.tape.trans h.tape, h1.output.trans h.output, Nat.le_trans h.size h1.size, fun i hi hL => ?_⟩
  rw [RowKit.Below.heap_setCell _ _ _ _ (fun e => by subst e; rcases hx with h1 | h1; exact hL h1; omega)]
  exact h.block i hi hL
theorem Touch.cell {L : List Nat} {a b : World} (h : Touch L a b) {x : Addr} (hlt : x.block < a.heap.size) (hL : x.block ∉ L) : b.cell? x = a.cell? x := World.cell?_of_block (w := a) (h.block _ hlt hL)
theorem Touch.frozen {L : List Nat} {a b : World} (h : Touch L a b) {x : Addr} (hlt : x.block < a.heap.size) (hL : x.block ∉ L) : b.frozen? x = a.frozen? x := World.frozen?_of_block (w := a) (h.block _ hlt hL)
theorem Touch.row {L : List Nat} {a W W' : World} (h : Touch L a W) {base : Nat} {e : TypeId} {sz : Nat} {v : Value} {n : Nat} {xs : List Value} (ho : W.ownsRow base e sz v n xs) (hb : a.heap.size ≤ base) (hg : W.grownBy W' v.ownBlock) : Touch L a W' :=
  ⟨hg.os.trans h.os, hg.tape.trans h.tape, hg.output.trans h.output, Nat.le_trans h.size hg.size, fun i hi hL => by
    rw [hg.block i (Nat.lt_of_lt_of_le hi h.size) (fun e => by have := (ho.lt i e.symm).1; omega)]
    exact h.block i hi hL⟩
theorem owns_touch {w w' : World} {base : Nat} {e : TypeId} {sz : Nat} {v : Value} {n : Nat} {xs : List Value} (h : w.ownsRow base e sz v n xs) {L : List Nat} (ht : Touch L w w') (hL : ∀ x ∈ L, x < base) : w'.ownsRow base e sz v n xs := by
  refine ⟨h.1, ?_⟩
  rcases h.2 with h1 | ⟨g, cap, cur, h1, hb, hg, h2⟩
  · exact .inl h1
  · exact .inr ⟨g, cap, cur, h1, hb, by rw [ht.block g (Array.getElem?_eq_some_iff.1 hg).1 (fun e => by have := hL g e; omega)]; exact hg, h2⟩
/-- .. whatever is touched, as long as it is no row of its own -/
theorem owns_touch' {w w' : World} {base : Nat} {e : TypeId} {sz : Nat} {v : Value} {n : Nat} {xs : List Value} (h : w.ownsRow base e sz v n xs) {L : List Nat} (ht : Touch L w w') (hL : ∀ k, v.ownBlock = some k → k ∉ L) : w'.ownsRow base e sz v n xs := by
  refine ⟨h.1, ?_⟩
  rcases h.2 with h1 | ⟨g, cap, cur, rfl, hb, hg, h2⟩
  · exact .inl h1
  · exact .inr ⟨g, cap, cur, rfl, hb, by rw [ht.block g (Array.getElem?_eq_some_iff.1 hg).1 (hL g rfl)]; exact hg, h2⟩
/-- the cells of a block of one's own, from its beginning on -/
def Blk (w : World) (B : Nat) (vs : List Value) : Prop := ∀ k u, vs[k]? = some u → w.cell? ⟨B, k, none⟩ = some u ∧ w.frozen? ⟨B, k, none⟩ = false
theorem Blk.lt {w : World} {B : Nat} {vs : List Value} (h : Blk w B vs) (h0 : 0 < vs.length) : B < w.heap.size := World.block_lt_of_cell? w _ (h 0 vs[0] (by simp)).1
theorem Blk.touch {w w' : World} {B : Nat} {vs : List Value} (h : Blk w B vs) {L : List Nat} (ht : Touch L w w') (hL : B ∉ L) : Blk w' B vs := fun k u hk => by
  have h1 := h k u hk
  have hlt : B < w.heap.size := World.block_lt_of_cell? w _ h1.1
  exact ⟨by rw [ht.cell (x := ⟨B, k, none⟩) hlt hL]; exact h1.1, by rw [ht.frozen (x := ⟨B, k, none⟩) hlt hL]; exact h1.2⟩
theorem Blk.alloc {w : World} {B : Nat} {vs : List Value} (h : Blk w B vs) (o : Obj) : Blk (w.alloc o) B vs := h.touch ((Touch.refl [] _).alloc o) (by simp)
theorem Blk.drew {w : World} {B : Nat} {vs : List Value} (h : Blk w B vs) : Blk w.drew B vs := h.touch ((Touch.refl [] _).drew) (by simp)
theorem Blk.new (w : World) (cs : Array Value) (t : TypeId) : Blk (w.alloc (.cells cs t)) w.heap.size cs.toList := fun k u hk => by
  rw [Array.getElem?_toList] at hk
  exact ⟨by simp [hk], by simp⟩
theorem Blk.set {w : World} {B : Nat} {vs : List Value} (h : Blk w B vs) (k : Nat) (v : Value) : Blk (w.setCell ⟨B, k, none⟩ v) B (vs.set k v) := fun j u hj => by
  rw [List.getElem?_set] at hj
  by_cases c : k = j
  · subst c
    rw [if_pos rfl] at hj
    split at hj
    · rename_i hlt
      cases hj
      have h1 := h k vs[k] (by simp [hlt])
      exact ⟨World.cell?_setCell_same _ _ _ h1.1, by rw [World.frozen?_setCell]; exact h1.2⟩
    · cases hj
  · rw [if_neg c] at hj
    have h1 := h j u hj
    exact ⟨by rw [World.cell?_setCell_other _ _ _ _ (by simp)]; exact h1.1, by rw [World.frozen?_setCell]; exact h1.2⟩
theorem Blk.set_other {w : World} {B : Nat} {vs : List Value} (h : Blk w B vs) {a : Addr} (ha : a.block ≠ B) (v : Value) : Blk (w.setCell a v) B vs := fun j u hj => by
  have h1 := h j u hj
  exact ⟨by rw [World.cell?_setCell_other _ _ _ _ (fun e => ha (by rw [e]))]; exact h1.1, by rw [World.frozen?_setCell]; exact h1.2⟩
end Go.Proofs.YtonjphollmdicaaDoor
