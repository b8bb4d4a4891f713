import Derived.Test.YtonjphollmdicaaRows
import Derived.Test.YtonjphollmdicaaMath
import Derived.WalkKit
import Derived.ProofKit
import Derived.OpenShut
import Derived.LoopTactic
import Derived.Laws.BitsAllLaws
import Derived.WalkLawsBesides
namespace Go.Proofs.Ytonjphollmdicaa
open Go.ChangeShapes Go.WideShapes Go.ChangeAt Go.RowKit

theorem tx_hi (a : Nat) (_ha : a < 65536) (h : (((a : Int) / 32768) == 1) = true) :
    bits BinOp.xor IntKind.u16 (IntKind.u16.wrap ((a : Int) * 2)) 4107 = ((Math.X a : Nat) : Int) := by
  have h1 : a / 32768 = 1 := by simp at h; omega
  have e : IntKind.u16.wrap ((a : Int) * 2) = (((2 * a) % 65536 : Nat) : Int) := by rw [IntKind.wrap_u16]; omega
  rw [e]
  have e2 := u16_xor_nat ((2 * a) % 65536) 4107 (Nat.mod_lt _ (by omega)) (by omega)
  rw [show ((4107 : Int)) = ((4107 : Nat) : Int) from rfl, e2]
  simp [Math.X, h1]

theorem tx_lo (a : Nat) (ha : a < 65536) (h : (((a : Int) / 32768) == 1) = false) :
    IntKind.u16.wrap ((a : Int) * 2) = ((Math.X a : Nat) : Int) := by
  have h1 : a / 32768 = 0 := by simp at h; omega
  have e : IntKind.u16.wrap ((a : Int) * 2) = (((2 * a) % 65536 : Nat) : Int) := by rw [IntKind.wrap_u16]; omega
  rw [e]
  simp [Math.X, h1]

theorem timesX_walk (a : Nat) (ha : a < 65536) (w : World) :
    Calls Try.prog 40 #[.int .u16 (a : Int)] w fun e w' => e = .returned (.int .u16 ((Math.X a : Nat) : Int)) ∧ w' = w := by
  go_enter Try.func40, Try.ntmps40
  go_wp2
  · go_ret
    rw [tx_hi a ha (by assumption)]
    exact ⟨rfl, rfl⟩
  · go_ret
    rw [tx_lo a ha (by assumption)]
    exact ⟨rfl, rfl⟩

theorem and1 (b : Nat) (hb : b < 65536) : bits BinOp.and IntKind.u16 (b : Int) 1 = ((b % 2 : Nat) : Int) := by
  have := u16_and_nat b 1 hb (by omega)
  rw [show ((1 : Int)) = ((1 : Nat) : Int) from rfl, this, Nat.and_one_is_mod]

theorem xor16 (a b : Nat) (ha : a < 65536) (hb : b < 65536) : bits BinOp.xor IntKind.u16 (a : Int) (b : Int) = ((a ^^^ b : Nat) : Int) := u16_xor_nat a b ha hb

theorem lin_step (n a b p : Nat) : p ^^^ Math.lin (Math.pows (n + 1) a) b = (p ^^^ (if b % 2 = 1 then a else 0)) ^^^ Math.lin (Math.pows n (Math.X a)) (b / 2) := by
  simp only [Math.pows, Math.lin]
  rw [Nat.xor_assoc]

theorem lin_zero (l : List Nat) : Math.lin l 0 = 0 := by
  have := Math.lin_xor l 0 0
  simp at this
  exact this

theorem hid_of {p : Prop} (h : p) : Hid p := h

theorem Times_walk (a b : Nat) (ha : a < 65536) (hb : b < 65536) (w : World) :
    Calls Try.prog 19 #[.int .u16 (a : Int), .int .u16 (b : Int)] w fun e w' => e = .returned (.int .u16 ((Math.mul a b : Nat) : Int)) ∧ w' = w := by
  go_enter Try.func19, Try.ntmps19
  go_wp2
  go_loop [0, 1, 5] (fun x y p => ∃ n a' b' p' : Nat, n ≤ 16 ∧ a' < 65536 ∧ b' < 2 ^ n ∧ p' < 65536 ∧ Hid (p' ^^^ Math.lin (Math.pows n a') b' = Math.mul a b) ∧ x = .int .u16 (a' : Int) ∧ y = .int .u16 (b' : Int) ∧ p = .int .u16 (p' : Int))
                    (fun _ y _ => (intOf y).toNat)
  case atStart => exact ⟨16, a, b, 0, by omega, ha, by omega, by omega, hid_of (by simp [Math.mul]), rfl, rfl, rfl⟩
  case round =>
    obtain ⟨n, a', b', p', hn, ha', hb', hp', hm, rfl, rfl, rfl⟩ := hrel
    have hb2 : b' < 65536 := Nat.lt_of_lt_of_le hb' (Nat.pow_le_pow_right (by omega) hn)
    have hand := and1 b' hb2
    have hxor := xor16 p' a' hp' ha'
    have hnext : 0 < b' → ∃ m, n = m + 1 ∧ b' / 2 < 2 ^ m := by
      intro h0
      cases n with
      | zero => simp at hb'; omega
      | succ m => exact ⟨m, rfl, by rw [Nat.pow_succ] at hb'; omega⟩
    have hstep : ∀ m, n = m + 1 → (p' ^^^ (if b' % 2 = 1 then a' else 0)) ^^^ Math.lin (Math.pows m (Math.X a')) (b' / 2) = Math.mul a b := by
      intro m h
      have := hm.out
      rw [h, lin_step] at this
      exact this
    have HN := hid_of hnext
    have HS := hid_of hstep
    clear hnext hstep
    go_wp2_with (go_at_call 40; refine (timesX_walk a' ha' w).mono ?_; rintro e w' ⟨rfl, rfl⟩)
    · have hb0 : 0 < b' := by assumption
      have hodd : ((b' : Int) % 2 == 1) = true := by assumption
      obtain ⟨m, hm1, hm2⟩ := HN.out hb0
      have h1 : b' % 2 = 1 := by simp at hodd; omega
      have hs := HS.out m hm1
      rw [if_pos h1] at hs
      refine ⟨⟨m, Math.X a', b' / 2, p' ^^^ a', by omega, Math.X_lt a', hm2, Nat.xor_lt_two_pow (n := 16) hp' ha', hid_of hs, rfl, by go_num, rfl⟩, ?_⟩
      simp [intOf]; omega
    · have hb0 : 0 < b' := by assumption
      have hodd : ((b' : Int) % 2 == 1) = false := by assumption
      obtain ⟨m, hm1, hm2⟩ := HN.out hb0
      have h1 : ¬ b' % 2 = 1 := by simp at hodd; omega
      have hs := HS.out m hm1
      rw [if_neg h1, Nat.xor_zero] at hs
      refine ⟨⟨m, Math.X a', b' / 2, p', by omega, Math.X_lt a', hm2, hp', hid_of hs, rfl, by go_num, rfl⟩, ?_⟩
      simp [intOf]; omega
    · go_ret
      have hb0 : b' = 0 := by omega
      have := hm.out
      rw [hb0, lin_zero, Nat.xor_zero] at this
      rw [this]
      exact ⟨rfl, rfl⟩

theorem ref_next {a b k a' p' : Nat} (hk : k < 16) (hm : p' ^^^ Math.lin (Math.pows (16 - k) a') (b / 2 ^ k) = Math.mul a b) :
    (p' ^^^ (if (b / 2 ^ k) % 2 = 1 then a' else 0)) ^^^ Math.lin (Math.pows (16 - (k + 1)) (Math.X a')) (b / 2 ^ (k + 1)) = Math.mul a b := by
  have e : 16 - k = (16 - (k + 1)) + 1 := by omega
  rw [e, lin_step, Nat.div_div_eq_div_mul, ← Nat.pow_succ] at hm
  exact hm

theorem x32_hi (a : Nat) (ha : a < 65536) (h : 65535 < 2 * (a : Int)) : bits BinOp.xor IntKind.u32 (2 * (a : Int)) 69643 = ((Math.X a : Nat) : Int) := by
  have h1 : a / 32768 = 1 := by omega
  have e := u32_xor_nat (2 * a) 69643 (by omega) (by omega)
  rw [show (2 * (a : Int)) = ((2 * a : Nat) : Int) from by omega, show ((69643 : Int)) = ((69643 : Nat) : Int) from rfl, e]
  congr 1
  have hr : (2 * a) % 65536 < 2 ^ 16 := Nat.mod_lt _ (by omega)
  have e1 : 2 * a = 65536 ^^^ (2 * a) % 65536 := by
    have h2 : (2 ^ 16 * 1 ||| (2 * a) % 65536) = 65536 ^^^ (2 * a) % 65536 := by
      apply Nat.eq_of_testBit_eq
      intro i
      have hp : (65536 : Nat) = 2 ^ 16 := rfl
      rw [hp]
      simp only [Nat.testBit_or, Nat.testBit_xor, Nat.mul_one, Nat.testBit_two_pow]
      by_cases hi : 16 = i
      · subst hi
        rw [Nat.testBit_lt_two_pow hr]
        rfl
      · simp [hi]
    have h3 := Nat.two_pow_add_eq_or_of_lt hr 1
    omega
  have e2 : (69643 : Nat) = 65536 ^^^ 4107 := by decide
  unfold Math.X
  simp only [h1]
  rw [e2]
  conv => lhs; rw [e1]
  rw [Math.xor4]
  simp

theorem x32_lo (a : Nat) (h : 2 * (a : Int) ≤ 65535) : 2 * (a : Int) = ((Math.X a : Nat) : Int) := by
  have h1 : a / 32768 = 0 := by omega
  unfold Math.X
  simp only [h1]
  simp
  omega

theorem bit_spelt (b k : Nat) : (((b : Int) / 2 ^ k).tmod 2 == 1) = decide ((b / 2 ^ k) % 2 = 1) := by
  have e : ((b : Int) / 2 ^ k) = ((b / 2 ^ k : Nat) : Int) := by simp
  rw [e, Int.tmod_eq_emod_of_nonneg (Int.natCast_nonneg _)]
  by_cases h : (b / 2 ^ k) % 2 = 1
  · simp only [h, decide_true]; simp only [beq_iff_eq]; omega
  · simp only [h, decide_false]; simp only [beq_eq_false_iff_ne]; omega

theorem refTimes_walk (a b : Nat) (ha : a < 65536) (_hb : b < 65536) (w : World) :
    Calls Try.prog 7 #[.int .u16 (a : Int), .int .u16 (b : Int)] w fun e w' => e = .returned (.int .u16 ((Math.mul a b : Nat) : Int)) ∧ w' = w := by
  go_enter Try.func7, Try.ntmps7
  go_wp2
  go_loop [5, 6, 7] (fun x p i => ∃ k a' p' : Nat, k ≤ 16 ∧ a' < 65536 ∧ p' < 65536 ∧ Hid (p' ^^^ Math.lin (Math.pows (16 - k) a') (b / 2 ^ k) = Math.mul a b) ∧ x = .int .u32 (a' : Int) ∧ p = .int .u32 (p' : Int) ∧ i = .int .i64 (k : Int))
                    (fun _ _ i => 16 - (intOf i).toNat)
  case atStart => exact ⟨0, a, 0, by omega, ha, by omega, hid_of (by simp [Math.mul]), by go_num, rfl, rfl⟩
  case round =>
    obtain ⟨k, a', p', hk, ha', hp', hm, rfl, rfl, rfl⟩ := hrel
    have hxor := u32_xor_nat p' a' (by omega) (by omega)
    have HX := hid_of hxor
    clear hxor
    have hpx : p' ^^^ a' < 65536 := Nat.xor_lt_two_pow (n := 16) hp' ha'
    have fin : k < 16 → ∀ x q : Int, x = ((Math.X a' : Nat) : Int) → (((((b : Int) / 2 ^ k).tmod 2 == 1) = true ∧ q = bits BinOp.xor IntKind.u32 (p' : Int) (a' : Int)) ∨ ((((b : Int) / 2 ^ k).tmod 2 == 1) = false ∧ q = (p' : Int))) →
        ((∃ k1 a1 p1 : Nat, k1 ≤ 16 ∧ a1 < 65536 ∧ p1 < 65536 ∧ Hid (p1 ^^^ Math.lin (Math.pows (16 - k1) a1) (b / 2 ^ k1) = Math.mul a b) ∧ Value.int IntKind.u32 x = .int .u32 (a1 : Int) ∧ Value.int IntKind.u32 q = .int .u32 (p1 : Int) ∧ Value.int IntKind.i64 ((k : Int) + 1) = .int .i64 (k1 : Int)) ∧
        16 - (intOf (Value.int IntKind.i64 ((k : Int) + 1))).toNat < 16 - (intOf (Value.int IntKind.i64 (k : Int))).toNat) := by
      intro hk16 x q hx hq
      have hn := ref_next hk16 hm.out
      refine ⟨⟨k + 1, Math.X a', p' ^^^ (if (b / 2 ^ k) % 2 = 1 then a' else 0), by omega, Math.X_lt a', ?_, hid_of hn, by rw [hx], ?_, by go_num⟩, ?_⟩
      · split
        · exact hpx
        · simpa using hp'
      · rcases hq with ⟨h, rfl⟩ | ⟨h, rfl⟩
        · rw [bit_spelt] at h
          rw [if_pos (of_decide_eq_true h), HX.out]
        · rw [bit_spelt] at h
          rw [if_neg (of_decide_eq_false h), Nat.xor_zero]
      · simp [intOf]; omega
    have FIN := hid_of fin
    clear fin
    go_wp2
    · exact FIN.out (by omega) _ _ (x32_hi a' ha' (by assumption)) (Or.inl ⟨by assumption, rfl⟩)
    · exact FIN.out (by omega) _ _ (x32_lo a' (by assumption)) (Or.inl ⟨by assumption, rfl⟩)
    · exact FIN.out (by omega) _ _ (x32_hi a' ha' (by assumption)) (Or.inr ⟨by assumption, rfl⟩)
    · exact FIN.out (by omega) _ _ (x32_lo a' (by assumption)) (Or.inr ⟨by assumption, rfl⟩)
    · have hk16 : k = 16 := by omega
      subst hk16
      have h := hm.out
      simp [Math.pows, Math.lin] at h
      subst h
      go_ret
      exact ⟨rfl, rfl⟩

theorem sTimes_walk (a b : Nat) (ha : a < 65536) (hb : b < 65536) (w : World) :
    Calls Try.prog 6 #[.int .u16 (a : Int), .int .u16 (b : Int)] w fun e w' => e = .returned (.int .u16 ((Math.mul a b : Nat) : Int)) ∧ w' = w := by
  go_enter Try.func6, Try.ntmps6
  go_wp2_with (go_at_call 19; refine (Times_walk a b ha hb w).mono ?_; rintro e w' ⟨rfl, rfl⟩)
  go_ret
  exact ⟨rfl, rfl⟩

end Go.Proofs.Ytonjphollmdicaa
