import Derived.Test.YtonjphollmdicaaLawLent
namespace Go.Proofs.Ytonjphollmdicaa
open Go.ChangeShapes Go.WideShapes Go.ChangeAt Go.RowKit

set_option maxRecDepth 100000 in
theorem lsameTexts_walk (l m : List (List UInt8)) (a b : Option Addr) (c d : Nat) (hl : l.length ≤ 1000000) (hm : m.length ≤ 1000000) (w : World) (ha : Rd w a (strV l)) (hb : Rd w b (strV m)) :
    Calls Try.prog 13 #[.slice a l.length c, .slice b m.length d] w fun e w' => e = .returned (.bool (l == m)) ∧ Below w.heap.size w w' := by
  by_cases hne : l.length = m.length
  · have hne' : ((l.length : Int) != (m.length : Int)) = false := by simp [hne]
    have HA := hid_of ha
    have HB := hid_of hb
    clear ha hb
    go_enter Try.func13, Try.ntmps13
    go_wp2_with fail
    go_loopw [5] (fun i wr => ∃ k : Nat, k ≤ l.length ∧ i = .int .i64 (k : Int) ∧ Below w.heap.size w wr ∧ Hid (l.take k = m.take k))
      (fun i _ => l.length - (intOf i).toNat)
    case atStart => exact ⟨0, by omega, rfl, Below.refl _ _, hid_of (by simp)⟩
    case round =>
      obtain ⟨k, hk, rfl, hbl, hd⟩ := hrel
      by_cases hlt : k < l.length
      · have hlt2 : k < m.length := by omega
        obtain ⟨b1, o1, rfl, hc1⟩ := (HA.out.later (Nat.le_refl _) hbl) k (.string (str l[k])) (by simp [strV, hlt])
        obtain ⟨b2, o2, rfl, hc2⟩ := (HB.out.later (Nat.le_refl _) hbl) k (.string (str m[k])) (by simp [strV, hlt2])
        have hyes : l[k] = m[k] → l.take (k + 1) = m.take (k + 1) := by
          intro e
          rw [take_snoc l k hlt, take_snoc m k hlt2, hd.out, e]
        have hno : l[k] ≠ m[k] → (l == m) = false := by
          intro e
          rw [beq_eq_false_iff_ne]
          intro e2
          subst e2
          exact e rfl
        have HY := hid_of hyes
        have HN := hid_of hno
        have HBL := hid_of hbl
        have g1 : (k : Int) < (l.length : Int) := by omega
        have g2 : (k : Int) < (m.length : Int) := by omega
        obtain ⟨x, hx⟩ : ∃ x, x = l[k] := ⟨_, rfl⟩
        obtain ⟨y, hy⟩ : ∃ x, x = m[k] := ⟨_, rfl⟩
        rw [← hx] at hc1 HY HN
        rw [← hy] at hc2 HY HN
        clear hyes hno hbl hd hx hy
        go_wp2_with fail
        go_quiet (fail)
        go_wp2_with fail
        · have he : (!(str x).toList == (str y).toList) = true := by assumption
          rw [str_toList, str_toList] at he
          go_ret
          rw [HN.out (by simpa using he)]
          exact ⟨rfl, rdrewN HBL.out _⟩
        · have he : (!(str x).toList == (str y).toList) = false := by assumption
          rw [str_toList, str_toList] at he
          exact ⟨⟨k + 1, by omega, by go_num, rdrewN HBL.out _, hid_of (HY.out (by simpa using he))⟩, by simp [intOf]; omega⟩
      · obtain rfl : k = l.length := by omega
        have e : (l == m) = true := by
          rw [beq_iff_eq]
          have := hd.out
          rw [List.take_length, hne, List.take_length] at this
          exact this
        have HBL := hid_of hbl
        clear hbl
        go_wp2_with fail
        go_ret
        rw [e]
        exact ⟨rfl, HBL.out⟩
  · have hne' : ((l.length : Int) != (m.length : Int)) = true := by simp; omega
    have e : (l == m) = false := by
      rw [beq_eq_false_iff_ne]
      intro e
      exact hne (by rw [e])
    go_enter Try.func13, Try.ntmps13
    go_wp2_with fail
    go_ret
    rw [e]
    exact ⟨rfl, Below.refl _ _⟩
end Go.Proofs.Ytonjphollmdicaa
