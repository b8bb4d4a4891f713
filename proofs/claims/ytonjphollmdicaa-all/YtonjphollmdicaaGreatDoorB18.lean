import Derived.Test.YtonjphollmdicaaGreatDoorB01
import Derived.Test.YtonjphollmdicaaGreatDoorB03
import Derived.Test.YtonjphollmdicaaGreatDoorB08
import Derived.Test.YtonjphollmdicaaGreatDoorB17
set_option maxRecDepth 100000
set_option maxHeartbeats 4000000
set_option linter.unusedSimpArgs false
namespace Go.Proofs.YtonjphollmdicaaGreatDoor
open Go.ChangeShapes Go.WideShapes Go.ChangeAt Go.RowKit
def Ak (b : List UInt8) : Nat := CZ (rdT (b, false) 2)
def CQ (b : List UInt8) : Nat := CZ (rdT (rdS (b, false) 2) 1)
def ER (b : List UInt8) : List UInt8 × Bool := rdS (rdS (b, false) 2) 1
def Aw (b : List UInt8) : List Nat := KM (ER b).1
def Cm (b : List UInt8) : Bool := !(IW (ER b)).2 && Ax (Ak b : Int) && decide (1 ≤ CQ b) && decide (CQ b ≤ 6) && decide (CQ b = (Aw b).length)
theorem G7 (b : List UInt8) : Cm b = (decide (3 ≤ b.length) && (Ax ((CZ (b.take 2) : Nat) : Int) && decide (1 ≤ (b.getD 2 0).toNat) && decide ((b.getD 2 0).toNat ≤ 6) && decide (b.length = 3 + 8 * (b.getD 2 0).toNat))) := by
 by_cases h : 3 ≤ b.length
 ·have e1 : rdT (b, false) 2 = b.take 2 := CL (by simp; omega)
  have e2 : rdS (b, false) 2 = (b.drop 2, false) := BI (by simp; omega)
  have e3 : rdT (b.drop 2, false) 1 = [b.getD 2 0] := by rw [CL (by simp; omega)]; exact Gs b 2 (by omega)
  have e4 : rdS (b.drop 2, false) 1 = (b.drop 3, false) := by rw [BI (by simp; omega), List.drop_drop]
  unfold Cm Aw Ak CQ ER
  rw [e1, e2, e3, e4, FF, Dk, decide_eq_true h, Bool.true_and]
  unfold IW
  simp only [List.length_drop, Bool.false_or]
  cases Ax ((CZ (b.take 2) : Nat) : Int)
  ·simp
  ·simp only [Bool.and_true, Bool.true_and]
   generalize (b.getD 2 0).toNat = x
   by_cases h2 : b.length = 3 + 8 * x
   ·rw [decide_eq_true h2, decide_eq_false (by omega : ¬ ((b.length - 3) % 8 ≠ 0)), decide_eq_true (by omega : x = (b.length - 3 + 7) / 8)]
    simp
   ·rw [decide_eq_false h2, Bool.and_false]
    by_cases h3 : (b.length - 3) % 8 = 0
    ·rw [decide_eq_false (by omega : ¬ (x = (b.length - 3 + 7) / 8)), Bool.and_false]
    ·rw [decide_eq_true (show (b.length - 3) % 8 ≠ 0 from h3)]
     simp
 ·rw [decide_eq_false h, Bool.false_and]
  have hs : (ER b).2 = true := by
   unfold ER
   by_cases h2 : 2 ≤ b.length
   ·rw [BI (s := (b, false)) (by simpa using h2), DC (by simp; omega)]
   ·exact Be (by rw [DC (by simp; omega)]) _
  unfold Cm IW
  rw [hs]
  simp
theorem JE (f : FoundL) : BX f = (f.kind == 77 && Cm f.body && (AA f.body == f.set)) := by
 rw [G7]
 unfold BX
 cases f.kind == 77 <;> cases AA f.body == f.set <;> cases Ax ((CZ (f.body.take 2) : Nat) : Int) <;> simp
theorem Ec {b : List UInt8} (h : Cm b = true) : Ak b = CZ (b.take 2) ∧ Aw b = (List.range (b.getD 2 0).toNat).map (fun i => CZ ((b.drop (3 + 8 * i)).take 8)) ∧ 1 ≤ (b.getD 2 0).toNat ∧ (b.getD 2 0).toNat ≤ 6 ∧ b.length = 3 + 8 * (b.getD 2 0).toNat ∧ Ax ((Ak b : Nat) : Int) = true := by
 rw [G7] at h
 simp only [Bool.and_eq_true, decide_eq_true_eq] at h
 obtain ⟨h0, ⟨⟨h1, h2⟩, h3⟩, h4⟩ := h
 have e1 : Ak b = CZ (b.take 2) := by unfold Ak; rw [CL (by simp; omega)]
 refine ⟨e1, ?_, h2, h3, h4, by rw [e1]; exact h1⟩
 have e4 : ER b = (b.drop 3, false) := by
  unfold ER
  rw [BI (s := (b, false)) (by simp; omega), BI (by simp; omega), List.drop_drop]
 unfold Aw
 rw [e4]
 unfold KM
 simp only [List.length_drop]
 rw [show (b.length - 3 + 7) / 8 = (b.getD 2 0).toNat from by omega]
 apply List.map_congr_left
 intro i hi
 rw [List.mem_range] at hi
 rw [CL (by simp; omega), List.drop_drop]
def Au (b : List UInt8) : Nat := CZ (rdT (b, false) 1)
def fS1 (b : List UInt8) : List UInt8 × Bool := rdS (b, false) 1
def fN (b : List UInt8) : Nat := CZ (rdT (fS1 b) 1)
def fS2 (b : List UInt8) : List UInt8 × Bool := rdS (fS1 b) 1
def AU (b : List UInt8) : List UInt8 := rdT (fS2 b) (fN b)
def fS3 (b : List UInt8) : List UInt8 × Bool := rdS (fS2 b) (fN b)
def Bi (b : List UInt8) : Nat := CZ (rdT (fS3 b) 2)
def fS4 (b : List UInt8) : List UInt8 × Bool := rdS (fS3 b) 2
def BQ (b : List UInt8) : Nat := CZ (rdT (fS4 b) 8)
def fS5 (b : List UInt8) : List UInt8 × Bool := rdS (fS4 b) 8
def Ah (b : List UInt8) : List Nat := KM (fS5 b).1
def Eh (b : List UInt8) (size : Nat) : Bool := !(IW (fS5 b)).2 && decide (1 ≤ (AU b).length) && decide ((AU b).length ≤ 20) && decide (Bi b ≤ 400) && decide ((Ah b).length = Ai (Bi b) size)
theorem Ta {b : List UInt8} (h : 2 ≤ b.length) (h2 : 12 + Bq b ≤ b.length) : Au b = (b.getD 0 0).toNat ∧ fN b = Bq b ∧ AU b = (b.drop 2).take (Bq b) ∧ Bi b = Bz b ∧ BQ b = EN b ∧ fS5 b = (b.drop (12 + Bq b), false) := by
 have a1 : fS1 b = (b.drop 1, false) := BI (by simp; omega)
 have a2 : Au b = (b.getD 0 0).toNat := by
  unfold Au
  rw [CL (by simp; omega)]
  have := Gs b 0 (by omega)
  rw [List.drop_zero] at this
  rw [this, FF]
 have a3 : fN b = Bq b := by
  unfold fN
  rw [a1, CL (by simp; omega), Gs b 1 (by omega), FF]
  rfl
 have a4 : fS2 b = (b.drop 2, false) := by unfold fS2; rw [a1, BI (by simp; omega), List.drop_drop]
 have a5 : AU b = (b.drop 2).take (Bq b) := by unfold AU; rw [a4, a3, CL (by simp; omega)]
 have a6 : fS3 b = (b.drop (2 + Bq b), false) := by unfold fS3; rw [a4, a3, BI (by simp; omega), List.drop_drop]
 have a7 : Bi b = Bz b := by unfold Bi Bz; rw [a6, CL (by simp; omega)]
 have a8 : fS4 b = (b.drop (4 + Bq b), false) := by unfold fS4; rw [a6, BI (by simp; omega), List.drop_drop, show 2 + Bq b + 2 = 4 + Bq b from by omega]
 have a9 : BQ b = EN b := by unfold BQ EN; rw [a8, CL (by simp; omega)]
 have a10 : fS5 b = (b.drop (12 + Bq b), false) := by unfold fS5; rw [a8, BI (by simp; omega), List.drop_drop, show 4 + Bq b + 8 = 12 + Bq b from by omega]
 exact ⟨a2, a3, a5, a7, a9, a10⟩
theorem PO {b : List UInt8} (h : b.length < 2 ∨ b.length < 12 + Bq b) : (fS5 b).2 = true := by
 unfold fS5 fS4 fS3 fS2
 by_cases c1 : 1 ≤ b.length
 ·have a1 : fS1 b = (b.drop 1, false) := BI (by simpa using c1)
  by_cases c2 : 2 ≤ b.length
  ·have a3 : fN b = Bq b := by
    unfold fN
    rw [a1, CL (by simp; omega), Gs b 1 (by omega), FF]
    rfl
   rw [a1, a3, BI (s := (b.drop 1, false)) (n := 1) (by simp; omega), List.drop_drop]
   by_cases c3 : 2 + Bq b ≤ b.length
   ·rw [BI (n := Bq b) (by simp; omega), List.drop_drop]
    by_cases c4 : 4 + Bq b ≤ b.length
    ·rw [BI (n := 2) (by simp; omega), List.drop_drop, DC (by simp; omega)]
    ·exact Be (by rw [DC (by simp; omega)]) _
   ·exact Be (Be (by rw [DC (by simp; omega)]) _) _
  ·exact Be (Be (Be (by rw [a1, DC (by simp; omega)]) _) _) _
 ·exact Be (Be (Be (Be (by unfold fS1; rw [DC (show b.length < 1 by omega)]) _) _) _) _
theorem KV (b : List UInt8) (size : Nat) : Eh b size = Di b size := by
 by_cases h : 2 ≤ b.length ∧ 12 + Bq b ≤ b.length
 ·obtain ⟨h1, h2⟩ := h
  obtain ⟨_, _, a3, a4, _, a6⟩ := Ta h1 h2
  unfold Eh Di Ah
  rw [a3, a4, a6, Dk, decide_eq_true h1, decide_eq_true h2]
  have e : ((b.drop 2).take (Bq b)).length = Bq b := by rw [List.length_take, List.length_drop]; omega
  rw [e]
  unfold IW
  simp only [List.length_drop, Bool.false_or, Bool.true_and, Bool.and_true]
  generalize Ai (Bz b) size = k
  generalize Bq b = n at *
  by_cases c : b.length = 12 + n + 8 * k
  ·rw [decide_eq_true c, decide_eq_false (by omega : ¬ ((b.length - (12 + n)) % 8 ≠ 0)), decide_eq_true (by omega : (b.length - (12 + n) + 7) / 8 = k)]
   simp
  ·rw [decide_eq_false c, Bool.and_false]
   by_cases h3 : (b.length - (12 + n)) % 8 = 0
   ·rw [decide_eq_false (by omega : ¬ ((b.length - (12 + n) + 7) / 8 = k)), Bool.and_false]
   ·rw [decide_eq_true (show (b.length - (12 + n)) % 8 ≠ 0 from h3)]
    simp
 ·have hs := PO (b := b) (by omega)
  unfold Eh IW Di
  rw [hs]
  by_cases h1 : 2 ≤ b.length
  ·rw [decide_eq_false (by omega : ¬ 12 + Bq b ≤ b.length)]; simp
  ·rw [decide_eq_false h1]; simp
theorem JU {b : List UInt8} {size : Nat} (h : Di b size = true) : He b size = ⟨AU b, Bi b, BQ b, Ah b⟩ ∧ Au b = (b.getD 0 0).toNat := by
 unfold Di at h
 simp only [Bool.and_eq_true, decide_eq_true_eq] at h
 obtain ⟨⟨⟨⟨⟨h1, _⟩, _⟩, h2⟩, _⟩, h3⟩ := h
 obtain ⟨a1, _, a3, a4, a5, a6⟩ := Ta h1 h2
 refine ⟨?_, a1⟩
 unfold He Ah
 rw [a3, a4, a5, a6]
 unfold KM
 simp only [List.length_drop]
 rw [show (b.length - (12 + Bq b) + 7) / 8 = Ai (Bz b) size from by omega]
 congr 1
 apply List.map_congr_left
 intro i hi
 rw [List.mem_range] at hi
 unfold Ic
 rw [CL (by simp; omega), List.drop_drop]
def AX (b : List UInt8) : Nat := CZ (rdT (b, false) 2)
def eS1 (b : List UInt8) : List UInt8 × Bool := rdS (b, false) 2
def Cb (b : List UInt8) (size : Nat) : List UInt8 := rdT (eS1 b) size
def eS2 (b : List UInt8) (size : Nat) : List UInt8 × Bool := rdS (eS1 b) size
def FM (b : List UInt8) (size : Nat) : Bool := !(eS2 b size).2 && decide ((eS2 b size).1 = []) && decide (AX b < 20)
theorem Lg (b : List UInt8) (size : Nat) : FM b size = (decide (b.length = 2 + size) && decide (CZ (b.take 2) < 20)) := by
 unfold FM eS2 eS1 AX
 by_cases h2 : 2 ≤ b.length
 ·rw [BI (s := (b, false)) (by simpa using h2), CL (s := (b, false)) (by simpa using h2)]
  by_cases h3 : 2 + size ≤ b.length
  ·rw [BI (by simp; omega)]
   simp only [List.drop_drop, Bool.not_false, Bool.true_and, List.drop_eq_nil_iff]
   congr 1
   by_cases c : b.length = 2 + size
   ·rw [decide_eq_true c, decide_eq_true (by omega)]
   ·rw [decide_eq_false c, decide_eq_false (by omega)]
  ·rw [DC (by simp; omega), decide_eq_false (by omega : ¬ b.length = 2 + size)]
   simp
 ·rw [decide_eq_false (by omega : ¬ b.length = 2 + size), Be (by rw [DC (by simp; omega)])]
  simp
theorem Ky {b : List UInt8} {size : Nat} (h : b.length = 2 + size) : AX b = CZ (b.take 2) ∧ Cb b size = b.drop 2 := by
 unfold AX Cb eS1
 rw [CL (s := (b, false)) (by simp; omega), BI (s := (b, false)) (by simp; omega), CL (by simp; omega)]
 refine ⟨rfl, ?_⟩
 simp only
 rw [List.take_of_length_le (by simp; omega)]
def oS1 (t : List UInt8) : List UInt8 × Bool := rdS (t, false) 3
def Fo (t : List UInt8) : Nat := CZ (rdT (oS1 t) 1)
def oS2 (t : List UInt8) : List UInt8 × Bool := rdS (oS1 t) 1
def No (t : List UInt8) : Nat := CZ (rdT (oS2 t) 8)
def oS3 (t : List UInt8) : List UInt8 × Bool := rdS (oS2 t) 8
def OC (t : List UInt8) : Nat := CZ (rdT (oS3 t) 2)
def oS4 (t : List UInt8) : List UInt8 × Bool := rdS (oS3 t) 2
def GG (t : List UInt8) : List UInt8 := rdT (oS4 t) (OC t)
def oS5 (t : List UInt8) : List UInt8 × Bool := rdS (oS4 t) (OC t)
def CP (t : List UInt8) : List UInt8 := t.take (t.length - (oS5 t).1.length)
def NF (t : List UInt8) : Nat := CZ (rdT (oS5 t) 8)
def oS6 (t : List UInt8) : List UInt8 × Bool := rdS (oS5 t) 8
def FK (t : List UInt8) : Bool := (rdT (t, false) 3 == [83, 65, 76]) && !(oS6 t).2 && (NF t == AA (CP t))
def Fz (s : List UInt8) : Bool := decide (22 ≤ s.length) && (s.take 3 == [83, 65, 76]) && decide (22 + Bp s ≤ s.length) && (AA (s.take (14 + Bp s)) == CZ ((s.drop (14 + Bp s)).take 8))
theorem Jy (s : List UInt8) : Cw s = (Fz s && Gd (s.getD 3 0)) := by
 unfold Cw Fz
 cases decide (22 ≤ s.length) <;> cases s.take 3 == [83, 65, 76] <;> cases Gd (s.getD 3 0) <;> simp
theorem SX {t : List UInt8} (h : 14 ≤ t.length) (h2 : 14 + Bp t ≤ t.length) : Fo t = (t.getD 3 0).toNat ∧ No t = CZ ((t.drop 4).take 8) ∧ OC t = Bp t ∧ GG t = (t.drop 14).take (Bp t) ∧ oS5 t = (t.drop (14 + Bp t), false) ∧ CP t = t.take (14 + Bp t) := by
 have a1 : oS1 t = (t.drop 3, false) := BI (by simp; omega)
 have a2 : Fo t = (t.getD 3 0).toNat := by unfold Fo; rw [a1, CL (by simp; omega), Gs t 3 (by omega), FF]
 have a3 : oS2 t = (t.drop 4, false) := by unfold oS2; rw [a1, BI (by simp; omega), List.drop_drop]
 have a4 : No t = CZ ((t.drop 4).take 8) := by unfold No; rw [a3, CL (by simp; omega)]
 have a5 : oS3 t = (t.drop 12, false) := by unfold oS3; rw [a3, BI (by simp; omega), List.drop_drop]
 have a6 : OC t = Bp t := by unfold OC Bp; rw [a5, CL (by simp; omega)]
 have a7 : oS4 t = (t.drop 14, false) := by unfold oS4; rw [a5, BI (by simp; omega), List.drop_drop]
 have a8 : GG t = (t.drop 14).take (Bp t) := by unfold GG; rw [a7, a6, CL (by simp; omega)]
 have a9 : oS5 t = (t.drop (14 + Bp t), false) := by unfold oS5; rw [a7, a6, BI (by simp; omega), List.drop_drop]
 refine ⟨a2, a4, a6, a8, a9, ?_⟩
 unfold CP
 rw [a9]
 simp only [List.length_drop]
 rw [show t.length - (t.length - (14 + Bp t)) = 14 + Bp t from by omega]
theorem PW {t : List UInt8} (h : t.length < 22 ∨ t.length < 22 + Bp t) : (oS6 t).2 = true := by
 by_cases h14 : 14 ≤ t.length ∧ 14 + Bp t ≤ t.length
 ·obtain ⟨_, _, _, _, a5, _⟩ := SX h14.1 h14.2
  unfold oS6
  rw [a5, DC (by simp; omega)]
 ·unfold oS6
  apply Be
  unfold oS5
  by_cases c : 14 ≤ t.length
  ·have a1 : oS1 t = (t.drop 3, false) := BI (by simp; omega)
   have a3 : oS2 t = (t.drop 4, false) := by unfold oS2; rw [a1, BI (by simp; omega), List.drop_drop]
   have a5 : oS3 t = (t.drop 12, false) := by unfold oS3; rw [a3, BI (by simp; omega), List.drop_drop]
   have a6 : OC t = Bp t := by unfold OC Bp; rw [a5, CL (by simp; omega)]
   have a7 : oS4 t = (t.drop 14, false) := by unfold oS4; rw [a5, BI (by simp; omega), List.drop_drop]
   rw [a7, a6, DC (by simp; omega)]
  ·apply Be
   unfold oS4
   by_cases c3 : 3 ≤ t.length
   ·have a1 : oS1 t = (t.drop 3, false) := BI (by simpa using c3)
    unfold oS3 oS2
    rw [a1]
    by_cases c4 : 4 ≤ t.length
    ·rw [BI (s := (t.drop 3, false)) (n := 1) (by simp; omega), List.drop_drop]
     by_cases c12 : 12 ≤ t.length
     ·rw [BI (n := 8) (by simp; omega), List.drop_drop, DC (by simp; omega)]
     ·exact Be (by rw [DC (by simp; omega)]) _
    ·exact Be (Be (by rw [DC (by simp; omega)]) _) _
   ·unfold oS3 oS2 oS1
    exact Be (Be (Be (by rw [DC (by simp; omega)]) _) _) _
theorem Hy (t : List UInt8) : FK t = Fz t := by
 by_cases h : 22 ≤ t.length ∧ 22 + Bp t ≤ t.length
 ·obtain ⟨h1, h2⟩ := h
  obtain ⟨_, _, _, _, a5, a6⟩ := SX (t := t) (by omega) (by omega)
  unfold FK Fz NF oS6
  rw [a5, a6, CL (s := (t, false)) (by simp; omega), BI (by simp; omega), CL (by simp; omega), decide_eq_true h1, decide_eq_true h2]
  simp only [Bool.not_false, Bool.and_true, Bool.true_and]
  rw [BEq.comm (a := CZ _)]
 ·have hs := PW (t := t) (by omega)
  unfold FK Fz
  rw [hs]
  by_cases h1 : 22 ≤ t.length
  ·rw [decide_eq_false (by omega : ¬ 22 + Bp t ≤ t.length)]; simp
  ·rw [decide_eq_false h1]; simp
theorem OD {t : List UInt8} (h : FK t = true) : Fo t = (Ep t).kind.toNat ∧ No t = (Ep t).set ∧ GG t = (Ep t).body ∧ (CP t).length + 8 = 22 + Bp t ∧ 22 + Bp t ≤ t.length := by
 rw [Hy] at h
 unfold Fz at h
 simp only [Bool.and_eq_true, decide_eq_true_eq] at h
 obtain ⟨⟨⟨h1, _⟩, h2⟩, _⟩ := h
 obtain ⟨a1, a2, _, a4, _, a6⟩ := SX (t := t) (by omega) (by omega)
 refine ⟨a1, a2, a4, ?_, h2⟩
 rw [a6, List.length_take]
 omega
structure MainL where
 size : Nat
 files : List Nat
 set : Nat
def Ag (f : FoundL) : MainL := ⟨Ak f.body, Aw f.body, f.set⟩
def AY (m : MainL) (f : FoundL) : Option Nat := if f.set = m.set ∧ Eh f.body m.size = true ∧ Au f.body < m.files.length ∧ AA f.body = m.files.getD (Au f.body) 0 then some (Au f.body) else none
def A6 (m : MainL) (f : FoundL) : Option Nat := if f.set = m.set ∧ FM f.body m.size = true then some (AX f.body) else none
def AM (g : FoundL → Option Nat) (l : List FoundL) (i : Nat) : Option FoundL := l.find? (fun f => g f == some i)
def Ba (g : FoundL → Option Nat) (l : List FoundL) (N : Nat) : List Nat := (List.range N).filter fun i => (AM g l i).isSome
theorem Hb (g : FoundL → Option Nat) (l : List FoundL) (f : FoundL) (i : Nat) : AM g (l ++ [f]) i = (AM g l i).or (if g f = some i then some f else none) := by
 unfold AM
 rw [List.find?_append, List.find?_cons, List.find?_nil]
 by_cases h : g f = some i
 ·rw [if_pos h, beq_iff_eq.2 h]
 ·rw [if_neg h, beq_eq_false_iff_ne.2 h]
theorem Fq {g : FoundL → Option Nat} {l : List FoundL} {f : FoundL} (h : ∀ i, g f = some i → (AM g l i).isSome = true) (i : Nat) : AM g (l ++ [f]) i = AM g l i := by
 rw [Hb]
 by_cases c : g f = some i
 ·have := h i c
  cases hh : AM g l i with
  | none => rw [hh] at this; simp at this
  | some x => rfl
 ·rw [if_neg c, Option.or_none]
theorem Gc {g : FoundL → Option Nat} {l : List FoundL} {f : FoundL} {j : Nat} (hf : g f = some j) (h : AM g l j = none) (i : Nat) : AM g (l ++ [f]) i = if i = j then some f else AM g l i := by
 rw [Hb, hf]
 by_cases c : i = j
 ·subst c
  rw [h, if_pos rfl, if_pos rfl]
  rfl
 ·rw [if_neg c, if_neg (fun e => c (Option.some.inj e).symm), Option.or_none]
theorem NP (N : Nat) (p q : Nat → Bool) (j : Nat) (hj : j < N) (hp : p j = false) (hq : ∀ i, q i = (decide (i = j) || p i)) : ((List.range N).filter q).length = ((List.range N).filter p).length + 1 := by
 induction N with
 | zero => omega
 | succ N ih =>
  rw [List.range_succ, List.filter_append, List.filter_append, List.length_append, List.length_append]
  by_cases c : j = N
  ·subst c
   have e : (List.range j).filter q = (List.range j).filter p := List.filter_congr (fun i hi => by
    rw [List.mem_range] at hi
    rw [hq, decide_eq_false (by omega), Bool.false_or])
   have q1 : q j = true := by rw [hq]; simp
   rw [e, List.filter_cons, q1, List.filter_cons, hp]
   simp
  ·have h1 := ih (by omega)
   have e : q N = p N := by rw [hq, decide_eq_false (by omega), Bool.false_or]
   rw [h1, List.filter_cons, List.filter_cons, e]
   cases p N <;> simp
theorem Rq {g : FoundL → Option Nat} {l : List FoundL} {f : FoundL} {j N : Nat} (hf : g f = some j) (h : AM g l j = none) (hj : j < N) : (Ba g (l ++ [f]) N).length = (Ba g l N).length + 1 :=
 NP N _ _ j hj (by rw [h]; rfl) (fun i => by
  rw [Gc hf h]
  by_cases c : i = j
  ·rw [if_pos c, decide_eq_true c]; rfl
  ·rw [if_neg c, decide_eq_false c, Bool.false_or])
theorem P7 {g : FoundL → Option Nat} {l : List FoundL} {f : FoundL} (h : ∀ i, g f = some i → (AM g l i).isSome = true) (N : Nat) : Ba g (l ++ [f]) N = Ba g l N :=
 List.filter_congr (fun i _ => by rw [Fq h])
def Cr (f : FoundL) : Bool := Cm f.body && (AA f.body == f.set)
theorem FU (p q : FoundL → Bool) (l : List FoundL) : (l.filter p).find? q = l.find? (fun f => p f && q f) := by
 induction l with
 | nil => rfl
 | cons f r ih =>
  rw [List.filter_cons, List.find?_cons]
  cases hp : p f with
  | true => simp [List.find?_cons, ih]
  | false => simp
theorem Gv (l : List FoundL) : (l.filter (·.kind == 77)).find? Cr = AV l := by
 rw [FU]
 unfold AV
 congr 1
 funext f
 rw [JE]
 unfold Cr
 rw [Bool.and_assoc]
theorem NK (m : MainL) (f : FoundL) (i : Nat) (hi : i < m.files.length) (hk : f.kind = 70) : (AY m f = some i) ↔ (Ci m.set i (m.files.getD i 0) f = true ∧ Di f.body m.size = true) := by
 unfold AY Ci
 rw [KV, hk]
 constructor
 ·intro h
  split at h
  ·rename_i hc
   obtain ⟨h1, h2, h3, h4⟩ := hc
   have hn := (JU h2).2
   cases h
   refine ⟨?_, h2⟩
   have hl : 1 ≤ f.body.length := by
    unfold Di at h2
    simp only [Bool.and_eq_true, decide_eq_true_eq] at h2
    omega
   rw [hn] at h4
   simp [h1, hl, hn, h4]
  ·cases h
 ·rintro ⟨h1, h2⟩
  simp only [Bool.and_eq_true, decide_eq_true_eq, beq_iff_eq] at h1
  obtain ⟨⟨⟨⟨_, h3⟩, _⟩, h5⟩, h6⟩ := h1
  have hn := (JU h2).2
  rw [h5] at hn
  rw [hn, if_pos ⟨h3, h2, hi, h6⟩]
theorem Gx (m : MainL) (i : Nat) (hi : i < m.files.length) (l : List FoundL) : (AM (AY m) (l.filter (·.kind == 70)) i).map (fun f => He f.body m.size) = Bk l m.set i (m.files.getD i 0) m.size := by
 unfold AM
 rw [FU]
 unfold Bk
 induction l with
 | nil => rfl
 | cons f r ih =>
  rw [List.find?_cons, List.findSome?_cons]
  by_cases hk : f.kind = 70
  ·rw [hk]
   have hiff := NK m f i hi hk
   by_cases h : AY m f = some i
   ·obtain ⟨h1, h2⟩ := hiff.1 h
    rw [h, h1]
    unfold Hk
    simp [h2]
   ·rw [beq_eq_false_iff_ne.2 h]
    simp only [Bool.and_false]
    by_cases h1 : Ci m.set i (m.files.getD i 0) f = true
    ·have h2 : Di f.body m.size = false := by
      cases c : Di f.body m.size
      ·rfl
      ·exact absurd (hiff.2 ⟨h1, c⟩) h
     rw [h1]
     unfold Hk
     simp only [h2]
     exact ih
    ·rw [if_neg h1]
     exact ih
  ·have h1 : Ci m.set i (m.files.getD i 0) f = false := by
    unfold Ci
    rw [beq_eq_false_iff_ne.2 hk]
    rfl
   rw [h1, beq_eq_false_iff_ne.2 hk]
   exact ih
def B8 (set b j : Nat) (f : FoundL) : Bool := f.kind == 82 && (f.set == set) && decide (f.body.length = 2 + b) && (CZ (f.body.take 2) == j)
def exL (l : List FoundL) (set b j : Nat) : Option (List UInt8) := (l.find? (B8 set b j)).map fun f => f.body.drop 2
theorem Oo (m : MainL) (f : FoundL) (j : Nat) (hj : j < 20) : (f.kind == 82 && A6 m f == some j) = B8 m.set m.size j f := by
 unfold A6 B8
 rw [Lg]
 cases f.kind == 82
 ·rfl
 ·simp only [Bool.true_and]
  by_cases h1 : f.set = m.set
  ·by_cases h2 : f.body.length = 2 + m.size
   ·have he := (Ky h2).1
    by_cases h3 : CZ (f.body.take 2) < 20
    ·rw [if_pos ⟨h1, by simp [h2, h3]⟩, he]
     simp [h1, h2]
    ·rw [if_neg (by simp [h3])]
     have : ¬ CZ (f.body.take 2) = j := by omega
     simp [this]
   ·rw [if_neg (by simp [h2])]
    simp [h2]
  ·rw [if_neg (by simp [h1])]
   simp [h1]
theorem Gh (m : MainL) (j : Nat) (hj : j < 20) (l : List FoundL) : (AM (A6 m) (l.filter (·.kind == 82)) j).map (fun f => Cb f.body m.size) = exL l m.set m.size j := by
 unfold AM exL
 rw [FU]
 have e : (fun f : FoundL => f.kind == 82 && A6 m f == some j) = B8 m.set m.size j := funext fun f => Oo m f j hj
 rw [e]
 cases h : l.find? (B8 m.set m.size j) with
 | none => rfl
 | some f =>
  have hf := List.find?_some h
  unfold B8 at hf
  simp only [Bool.and_eq_true, decide_eq_true_eq] at hf
  simp only [Option.map_some, Option.some.injEq]
  exact (Ky hf.1.2).2
theorem PD {m : MainL} {f : FoundL} {j : Nat} (h : A6 m f = some j) : j < 20 := by
 unfold A6 at h
 split at h
 ·rename_i hc
  cases h
  have := hc.2
  unfold FM at this
  simp only [Bool.and_eq_true, decide_eq_true_eq] at this
  exact this.2
 ·cases h
theorem O0 {m : MainL} {f : FoundL} {j : Nat} (h : AY m f = some j) : j < m.files.length := by
 unfold AY at h
 split at h
 ·rename_i hc
  cases h
  exact hc.2.2.1
 ·cases h
def Ls : DescL := ⟨[], 0, 0, []⟩
def Ap (f : FoundL) : Nat := CZ (f.body.take 2)
def Br (f : FoundL) : Nat := (f.body.getD 2 0).toNat
def Ev (f : FoundL) (i : Nat) : Nat := CZ ((f.body.drop (3 + 8 * i)).take 8)
def D8 (l : List FoundL) (f : FoundL) (i : Nat) : Option DescL := Bk l f.set i (Ev f i) (Ap f)
def Bt (l : List FoundL) (f : FoundL) (n : Nat) : List DescL := (List.range n).map fun i => (D8 l f i).getD Ls
def CN (l : List FoundL) (f : FoundL) (n : Nat) : Bool := (List.range n).all fun i => (D8 l f i).isSome
def C8 (ds : List DescL) : List Aj := ds.map fun d => (d.name, [])
def De (ds : List DescL) : Nat := (ds.flatMap DescL.slices).length
def LE (l : List FoundL) (f : FoundL) (j : Nat) : List UInt8 := (exL l f.set (Ap f) j).getD []
def Fw (l : List FoundL) (f : FoundL) : List (List UInt8) := (List.range 20).map (LE l f)
structure SetL where
 size : Nat
 files : List DescL
 extra : List (List UInt8)
def G8 (l : List FoundL) (f : FoundL) : Bool := CN l f (Br f) && !twiceL (C8 (Bt l f (Br f))) && decide (1 ≤ De (Bt l f (Br f))) && decide (De (Bt l f (Br f)) ≤ 60)
def EF (l : List FoundL) : SetL ⊕ Nat := match AV l with
 | none => .inr 3
 | some f => if G8 l f then .inl ⟨Ap f, Bt l f (Br f), Fw l f⟩ else .inr 4
theorem Mq (l : List FoundL) (f : FoundL) (n : Nat) : Bt l f (n + 1) = Bt l f n ++ [(D8 l f n).getD Ls] := by
 unfold Bt
 rw [List.range_succ, List.map_append]
 rfl
theorem GS (l : List FoundL) (f : FoundL) (n : Nat) : (Bt l f n).length = n := by simp [Bt]
theorem MM (ds : List DescL) (d : DescL) : C8 (ds ++ [d]) = C8 ds ++ [(d.name, [])] := by simp [C8]
theorem LQ (ds : List DescL) (d : DescL) : De (ds ++ [d]) = De ds + d.slices.length := by simp [De]
theorem NS {l : List FoundL} {f : FoundL} {i n : Nat} (hi : i < n) (h : D8 l f i = none) : CN l f n = false := by
 unfold CN
 rw [List.all_eq_false]
 exact ⟨i, List.mem_range.2 hi, by rw [h]; simp⟩
theorem KI {l : List FoundL} {f : FoundL} {n : Nat} : CN l f (n + 1) = (CN l f n && (D8 l f n).isSome) := by
 unfold CN
 rw [List.range_succ, List.all_append]
 simp
theorem Hp (l : List FoundL) (g : FoundL) (set b j : Nat) : exL (l ++ [g]) set b j = (exL l set b j).or (if B8 set b j g then some (g.body.drop 2) else none) := by
 unfold exL
 rw [List.find?_append, List.find?_cons, List.find?_nil]
 cases l.find? (B8 set b j) with
 | none => cases B8 set b j g <;> rfl
 | some x => rfl
theorem Kx {l : List FoundL} {set b j : Nat} {e : List UInt8} (h : exL l set b j = some e) : e.length = b := by
 unfold exL at h
 cases hf : l.find? (B8 set b j) with
 | none => rw [hf] at h; cases h
 | some f =>
  rw [hf] at h
  cases h
  have := List.find?_some hf
  unfold B8 at this
  simp only [Bool.and_eq_true, decide_eq_true_eq] at this
  rw [List.length_drop, this.1.2]
  omega
theorem KA (l : List FoundL) (f : FoundL) : (Fw l f).length = 20 := by simp [Fw]
theorem Qp {l : List FoundL} {f g : FoundL} (h : ¬ (g.kind = 82 ∧ g.set = f.set ∧ g.body.length = 2 + Ap f)) : Fw (l ++ [g]) f = Fw l f := by
 unfold Fw
 refine List.map_congr_left (fun j _ => ?_)
 unfold LE
 rw [Hp]
 have : B8 f.set (Ap f) j g = false := by
  cases hc : B8 f.set (Ap f) j g with
  | false => rfl
  | true =>
   unfold B8 at hc
   simp only [Bool.and_eq_true, decide_eq_true_eq, beq_iff_eq] at hc
   exact absurd ⟨hc.1.1.1, hc.1.1.2, hc.1.2⟩ h
 rw [this]
 simp
theorem M8 {l : List FoundL} {f g : FoundL} (h : 20 ≤ CZ (g.body.take 2) ∨ LE l f (CZ (g.body.take 2)) ≠ []) : Fw (l ++ [g]) f = Fw l f := by
 unfold Fw
 refine List.map_congr_left (fun j hj => ?_)
 have hj := List.mem_range.1 hj
 unfold LE
 rw [Hp]
 by_cases hc : B8 f.set (Ap f) j g = true
 ·have hn : CZ (g.body.take 2) = j := by
   unfold B8 at hc
   simp only [Bool.and_eq_true, decide_eq_true_eq, beq_iff_eq] at hc
   exact hc.2
  rcases h with h | h
  ·omega
  ·rw [hn] at h
   unfold LE at h
   cases he : exL l f.set (Ap f) j with
   | none => rw [he] at h; exact absurd rfl h
   | some x => rfl
 ·rw [if_neg hc, Option.or_none]
theorem QV {l : List FoundL} {f g : FoundL} (hb : 0 < Ap f) (h1 : g.kind = 82 ∧ g.set = f.set ∧ g.body.length = 2 + Ap f) (h2 : LE l f (CZ (g.body.take 2)) = []) : Fw (l ++ [g]) f = (Fw l f).set (CZ (g.body.take 2)) (g.body.drop 2) := by
 refine List.ext_getElem? (fun j => ?_)
 rw [List.getElem?_set, KA]
 unfold Fw
 rw [List.getElem?_map, List.getElem?_map]
 by_cases hj : j < 20
 ·rw [List.getElem?_range hj]
  simp only [Option.map_some]
  by_cases c : CZ (g.body.take 2) = j
  ·rw [if_pos c, c, if_pos hj]
   rw [c] at h2
   unfold LE at h2 ⊢
   rw [Hp]
   have hex : B8 f.set (Ap f) j g = true := by unfold B8; simp [h1.1, h1.2.1, h1.2.2, c]
   rw [hex]
   cases he : exL l f.set (Ap f) j with
   | none => simp
   | some x =>
    rw [he] at h2
    have := Kx he
    simp only [Option.getD_some] at h2
    rw [h2] at this
    simp at this
    omega
  ·rw [if_neg c]
   unfold LE
   rw [Hp]
   have hex : B8 f.set (Ap f) j g = false := by unfold B8; simp [c]
   rw [hex]
   simp
 ·rw [List.getElem?_eq_none (by simp; omega)]
  simp
  omega
def B0 (ds : List DescL) (svs : List Value) : List Value := (ds.zip svs).flatMap fun p => [.string (str p.1.name), .int .i64 (p.1.long : Int), .int .u64 (p.1.hash : Int), p.2]
theorem I3 (ds : List DescL) (svs : List Value) (h : svs.length = ds.length) (d : DescL) (v : Value) : B0 (ds ++ [d]) (svs ++ [v]) = B0 ds svs ++ [.string (str d.name), .int .i64 (d.long : Int), .int .u64 (d.hash : Int), v] := by
 unfold B0
 rw [List.zip_append h.symm, List.flatMap_append]
 rfl
def DescRows (w : World) (base : Nat) (ds : List DescL) (svs : List Value) : Prop := svs.length = ds.length ∧ ∀ (k : Nat) (d : DescL) (v : Value), ds[k]? = some d → svs[k]? = some v → w.ownsRow base 63 1 v d.slices.length (Cv d.slices)
theorem DescRows.nil (w : World) (base : Nat) : DescRows w base [] [] := ⟨rfl, fun k d v h => by simp at h⟩
theorem DescRows.map {w w' : World} {base : Nat} {ds : List DescL} {svs : List Value} (h : DescRows w base ds svs) (hm : ∀ v n xs, w.ownsRow base 63 1 v n xs → w'.ownsRow base 63 1 v n xs) : DescRows w' base ds svs := ⟨h.1, fun k d v h1 h2 => hm _ _ _ (h.2 k d v h1 h2)⟩
theorem DescRows.touch {w w' : World} {base : Nat} {ds : List DescL} {svs : List Value} (h : DescRows w base ds svs) {L : List Nat} (ht : Touch L w w') (hL : ∀ x ∈ L, x < base) : DescRows w' base ds svs := h.map (fun _ _ _ ho => Ac ho ht hL)
theorem DescRows.grown {w w' : World} {base b' : Nat} {ds : List DescL} {svs : List Value} (h : DescRows w base ds svs) {e : TypeId} {s n : Nat} {v : Value} {xs : List Value} (hr : w.ownsRow b' e s v n xs) (hg : w.grownBy w' v.ownBlock) (he : 63 ≠ e) : DescRows w' base ds svs := h.map (fun _ _ _ ho => ho.kept hg (Bl ho hr he))
structure LeftL where
 set : SetL
 slices : List (List UInt8)
 states : List Nat
 flags : List Bool
 lost : Nat
 extra : Nat
def BO (fs : List Aj) (d : DescL) : Nat := DP d.name d.long d.hash fs
def AE (ds : List DescL) : List Nat := ds.flatMap DescL.slices
def EY (fs : List Aj) (b : Nat) (hs : List Nat) : Nat := (hs.filter fun h => (AK fs b h).isNone).length
def exN (es : List (List UInt8)) : Nat := (es.filter fun e => decide (e ≠ [])).length
def CK (fs : List Aj) (b : Nat) (hs : List Nat) : List (List UInt8) := hs.map fun h => (AK fs b h).getD []
def CW (fs : List Aj) (b : Nat) (hs : List Nat) : List Bool := hs.map fun h => (AK fs b h).isSome
def Cs (fs : List Aj) (s : SetL) : LeftL := ⟨s, CK fs s.size (AE s.files), s.files.map (BO fs), CW fs s.size (AE s.files), EY fs s.size (AE s.files), exN s.extra⟩
def DV (fs : List Aj) (vs : List (List UInt8)) : Bool := decide (fs.length ≤ 12) && decide (vs.length ≤ 40) && fs.all (fun f => decide (f.2.length ≤ 400)) && vs.all (fun v => decide (v.length ≤ 4000))
def AG (fs : List Aj) (vs : List (List UInt8)) : LeftL ⊕ Nat := if DV fs vs then (match EF (As vs) with
 | .inr n => .inr n
 | .inl s => .inl (Cs fs s)) else .inr 1
theorem Oc (fs : List Aj) (b : Nat) (hs : List Nat) (h : Nat) : EY fs b (hs ++ [h]) = EY fs b hs + if (AK fs b h).isNone then 1 else 0 := by
 unfold EY
 rw [List.filter_append, List.length_append]
 cases hf : AK fs b h <;> simp [hf]
theorem QS (es : List (List UInt8)) (e : List UInt8) : exN (es ++ [e]) = exN es + if e = [] then 0 else 1 := by
 unfold exN
 rw [List.filter_append, List.length_append]
 by_cases h : e = [] <;> simp [h]
theorem Nx (fs : List Aj) (b : Nat) (hs : List Nat) : EY fs b hs ≤ hs.length := List.length_filter_le _ _
theorem Qj (es : List (List UInt8)) : exN es ≤ es.length := List.length_filter_le _ _
end Go.Proofs.YtonjphollmdicaaGreatDoor
