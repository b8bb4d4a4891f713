import Derived.Test.YtonjphollmdicaaGreatDoorRows
import Derived.WalkKit
import Derived.ProofKit
import Derived.OpenShut
import Derived.LoopTactic
import Derived.Laws.BitsAllLaws
import Derived.WalkLawsBesides
/-
  THE FIELD, IN PLAIN NUMBERS: no Go in sight.
-/
import Derived.KernelRfl
namespace Go.Proofs.YtonjphollmdicaaGreatDoor.Math

/-- a number times x -/
def X (a : Nat) : Nat := (2 * a) % 65536 ^^^ (if a / 32768 % 2 = 1 then 4107 else 0)

/-- the sum of those of a row that the bits of a number name -/
def lin : List Nat → Nat → Nat
  | [], _ => 0
  | t :: ts, y => (if y % 2 = 1 then t else 0) ^^^ lin ts (y / 2)

def pows : Nat → Nat → List Nat
  | 0, _ => []
  | n + 1, a => a :: pows n (X a)

def mul (a b : Nat) : Nat := lin (pows 16 a) b

theorem xor_div2 (a b : Nat) : (a ^^^ b) / 2 = a / 2 ^^^ b / 2 := by
  have := Nat.shiftRight_xor_distrib (a := a) (b := b) (i := 1)
  simpa [Nat.shiftRight_succ] using this

theorem xor_mod2 (a b : Nat) : (a ^^^ b) % 2 = (a % 2 + b % 2) % 2 := by
  have := Nat.xor_mod_two_pow (a := a) (b := b) (n := 1)
  simp at this
  rw [this]
  rcases Nat.mod_two_eq_zero_or_one a with h | h <;> rcases Nat.mod_two_eq_zero_or_one b with h' | h' <;> simp [h, h']

theorem pick_xor (t a b : Nat) : (if (a ^^^ b) % 2 = 1 then t else 0) = (if a % 2 = 1 then t else 0) ^^^ (if b % 2 = 1 then t else 0) := by
  rw [xor_mod2]
  rcases Nat.mod_two_eq_zero_or_one a with h | h <;> rcases Nat.mod_two_eq_zero_or_one b with h' | h' <;> simp [h, h']

theorem xor4 (a b c d : Nat) : (a ^^^ b) ^^^ (c ^^^ d) = (a ^^^ c) ^^^ (b ^^^ d) := by
  apply Nat.eq_of_testBit_eq
  intro i
  simp only [Nat.testBit_xor]
  cases a.testBit i <;> cases b.testBit i <;> cases c.testBit i <;> cases d.testBit i <;> rfl

theorem lin_xor (l : List Nat) : ∀ a b : Nat, lin l (a ^^^ b) = lin l a ^^^ lin l b := by
  induction l with
  | nil => intro a b; simp [lin]
  | cons t ts ih =>
    intro a b
    simp only [lin]
    rw [xor_div2, ih, pick_xor, xor4]

theorem pick_xor' (a b p : Nat) : (if p = 1 then a ^^^ b else 0) = (if p = 1 then a else 0) ^^^ (if p = 1 then b else 0) := by
  split <;> simp

theorem X_xor (a b : Nat) : X (a ^^^ b) = X a ^^^ X b := by
  unfold X
  have h1 : (2 * (a ^^^ b)) % 65536 = (2 * a) % 65536 ^^^ (2 * b) % 65536 := by
    have e : 2 * (a ^^^ b) = 2 * a ^^^ 2 * b := by
      have := Nat.shiftLeft_xor_distrib (a := a) (b := b) (i := 1)
      simp only [Nat.shiftLeft_eq, Nat.pow_one] at this
      rw [Nat.mul_comm 2, Nat.mul_comm 2 a, Nat.mul_comm 2 b]
      exact this
    rw [e]
    exact Nat.xor_mod_two_pow (n := 16)
  have h2 : (a ^^^ b) / 32768 = a / 32768 ^^^ b / 32768 := by
    have := Nat.shiftRight_xor_distrib (a := a) (b := b) (i := 15)
    simpa [Nat.shiftRight_eq_div_pow] using this
  rw [h1, h2, pick_xor, xor4]

theorem lin_pows_xor (n : Nat) : ∀ a b y : Nat, lin (pows n (a ^^^ b)) y = lin (pows n a) y ^^^ lin (pows n b) y := by
  induction n with
  | zero => intro a b y; simp [pows, lin]
  | succ n ih =>
    intro a b y
    simp only [pows, lin]
    rw [X_xor, ih, pick_xor', xor4]

theorem mul_xor_right (a b c : Nat) : mul a (b ^^^ c) = mul a b ^^^ mul a c := lin_xor _ _ _
theorem mul_xor_left (a b c : Nat) : mul (a ^^^ b) c = mul a c ^^^ mul b c := lin_pows_xor _ _ _ _

theorem X_zero : X 0 = 0 := by decide
theorem X_lt (a : Nat) : X a < 65536 := by
  unfold X
  apply Nat.xor_lt_two_pow (n := 16)
  · omega
  · split <;> omega

theorem lin_pows_X (n : Nat) : ∀ a y : Nat, lin (pows n (X a)) y = X (lin (pows n a) y) := by
  induction n with
  | zero => intro a y; simp [pows, lin, X_zero]
  | succ n ih =>
    intro a y
    simp only [pows, lin]
    rw [ih, X_xor]
    congr 1
    split <;> simp [X_zero]

theorem mul_X (a b : Nat) : mul (X a) b = X (mul a b) := lin_pows_X _ _ _

theorem lin_lt (l : List Nat) (h : ∀ t ∈ l, t < 65536) : ∀ y, lin l y < 65536 := by
  induction l with
  | nil => intro y; simp [lin]
  | cons t ts ih =>
    intro y
    simp only [lin]
    apply Nat.xor_lt_two_pow (n := 16)
    · have := h t (by simp)
      split <;> omega
    · exact ih (fun t ht => h t (by simp [ht])) _

theorem pows_lt (n : Nat) : ∀ a, a < 65536 → ∀ t ∈ pows n a, t < 65536 := by
  induction n with
  | zero => intro a _ t ht; simp [pows] at ht
  | succ n ih =>
    intro a ha t ht
    simp only [pows, List.mem_cons] at ht
    rcases ht with rfl | ht
    · exact ha
    · exact ih _ (X_lt a) t ht

theorem mul_lt {a : Nat} (ha : a < 65536) (b : Nat) : mul a b < 65536 := lin_lt _ (pows_lt 16 a ha) b

/-- two sums that agree at the sixteen bits agree -/
theorem ext16 {f g : Nat → Nat} (hf : ∀ a b, f (a ^^^ b) = f a ^^^ f b) (hg : ∀ a b, g (a ^^^ b) = g a ^^^ g b)
    (h : ∀ i, i < 16 → f (2 ^ i) = g (2 ^ i)) : ∀ a, a < 65536 → f a = g a := by
  have f0 : f 0 = 0 := by have := hf 0 0; simp at this; exact this
  have g0 : g 0 = 0 := by have := hg 0 0; simp at this; exact this
  have main : ∀ n, n ≤ 16 → ∀ a, a < 2 ^ n → f a = g a := by
    intro n
    induction n with
    | zero =>
      intro _ a ha
      have : a = 0 := by simpa using ha
      rw [this, f0, g0]
    | succ n ih =>
      intro hn a ha
      by_cases hb : a < 2 ^ n
      · exact ih (by omega) a hb
      · have hlt : a - 2 ^ n < 2 ^ n := by rw [Nat.pow_succ] at ha; omega
        have e : a = 2 ^ n ^^^ (a - 2 ^ n) := by
          have h1 := Nat.two_pow_add_eq_or_of_lt hlt 1
          have h2 : (2 ^ n * 1 ||| (a - 2 ^ n)) = 2 ^ n ^^^ (a - 2 ^ n) := by
            apply Nat.eq_of_testBit_eq
            intro i
            simp only [Nat.testBit_or, Nat.testBit_xor, Nat.mul_one, Nat.testBit_two_pow]
            by_cases hi : n = i
            · subst hi
              simp [Nat.testBit_lt_two_pow hlt]
            · simp [hi]
          omega
        rw [e, hf, hg, h n (by omega), ih (by omega) _ hlt]
  intro a ha
  exact main 16 (Nat.le_refl _) a ha

theorem mul_zero (a : Nat) : mul a 0 = 0 := by
  have := mul_xor_right a 0 0
  simp at this
  exact this
theorem zero_mul (a : Nat) : mul 0 a = 0 := by
  have := mul_xor_left 0 0 a
  simp at this
  exact this

theorem mul_comm {a b : Nat} (ha : a < 65536) (hb : b < 65536) : mul a b = mul b a := by
  refine ext16 (f := fun a => mul a b) (g := fun a => mul b a) (fun x y => mul_xor_left x y b) (fun x y => mul_xor_right b x y) ?_ a ha
  intro i hi
  refine ext16 (f := fun b => mul (2 ^ i) b) (g := fun b => mul b (2 ^ i)) (fun x y => mul_xor_right _ x y) (fun x y => mul_xor_left x y _) ?_ b hb
  have : ∀ i, i < 16 → ∀ j, j < 16 → mul (2 ^ i) (2 ^ j) = mul (2 ^ j) (2 ^ i) := by decide +kernel
  exact this i hi

theorem mul_one {a : Nat} (ha : a < 65536) : mul a 1 = a := by
  refine ext16 (f := fun a => mul a 1) (g := fun a => a) (fun x y => mul_xor_left x y 1) (fun _ _ => rfl) ?_ a ha
  decide +kernel

theorem one_mul {a : Nat} (ha : a < 65536) : mul 1 a = a := by
  rw [mul_comm (by omega) ha, mul_one ha]

/-- x to the power n, as a number -/
def xp : Nat → Nat
  | 0 => 1
  | n + 1 => X (xp n)

theorem mul_assoc {a b c : Nat} (ha : a < 65536) (hb : b < 65536) : mul (mul a b) c = mul a (mul b c) := by
  refine ext16 (f := fun a => mul (mul a b) c) (g := fun a => mul a (mul b c))
    (fun x y => by simp only [mul_xor_left]) (fun x y => mul_xor_left x y _) ?_ a ha
  have hx : ∀ i, i < 16 → 2 ^ i = xp i := by decide +kernel
  have key : ∀ i, mul (mul (xp i) b) c = mul (xp i) (mul b c) := by
    intro i
    induction i with
    | zero => simp only [xp]; rw [one_mul hb, one_mul (mul_lt hb c)]
    | succ i ih => simp only [xp, mul_X]; rw [ih]
  intro i hi
  show mul (mul (2 ^ i) b) c = mul (2 ^ i) (mul b c)
  rw [hx i hi]
  exact key i

/-! ### squares -/
def sq (a : Nat) : Nat := mul a a
def sqs : Nat → Nat → Nat
  | 0, a => a
  | n + 1, a => sqs n (sq a)

theorem sq_xor {a b : Nat} (ha : a < 65536) (hb : b < 65536) : sq (a ^^^ b) = sq a ^^^ sq b := by
  unfold sq
  rw [mul_xor_left, mul_xor_right, mul_xor_right, mul_comm hb ha]
  apply Nat.eq_of_testBit_eq
  intro i
  simp only [Nat.testBit_xor]
  cases (mul a a).testBit i <;> cases (mul a b).testBit i <;> cases (mul b b).testBit i <;> rfl

theorem sq_lt {a : Nat} (ha : a < 65536) : sq a < 65536 := mul_lt ha a

/-- the square of whatever number, cut to sixteen bits: a sum by itself -/
def sq' (a : Nat) : Nat := sq (a % 65536)
theorem sq'_xor (a b : Nat) : sq' (a ^^^ b) = sq' a ^^^ sq' b := by
  unfold sq'
  have : (a ^^^ b) % 65536 = a % 65536 ^^^ b % 65536 := Nat.xor_mod_two_pow (n := 16)
  rw [this, sq_xor (Nat.mod_lt _ (by omega)) (Nat.mod_lt _ (by omega))]
def sqs' : Nat → Nat → Nat
  | 0, a => a
  | n + 1, a => sqs' n (sq' a)
theorem sqs'_xor (n : Nat) : ∀ a b, sqs' n (a ^^^ b) = sqs' n a ^^^ sqs' n b := by
  induction n with
  | zero => intro a b; rfl
  | succ n ih => intro a b; simp only [sqs']; rw [sq'_xor, ih]
theorem sqs_eq (n : Nat) : ∀ a, a < 65536 → sqs n a = sqs' n a := by
  induction n with
  | zero => intro a _; rfl
  | succ n ih =>
    intro a ha
    simp only [sqs, sqs', sq', Nat.mod_eq_of_lt ha]
    exact ih _ (sq_lt ha)

theorem sqs16 {a : Nat} (ha : a < 65536) : sqs 16 a = a := by
  rw [sqs_eq 16 a ha]
  refine ext16 (f := sqs' 16) (g := fun a => a) (sqs'_xor 16) (fun _ _ => rfl) ?_ a ha
  decide +kernel

def back : List Nat := [350, 42420, 42422, 7412, 42418, 10272, 7420, 1328, 42402, 38610, 10240, 5068, 7356, 0, 1456, 21936]

/-- a number that is its own square is 0 or 1 -/
theorem own_square {e : Nat} (he : e < 65536) (h : sq e = e) : e = 0 ∨ e = 1 := by
  have key : lin back (sq' e ^^^ e) = e / 2 * 2 := by
    have hd : ∀ a : Nat, a / 2 * 2 = lin [0, 2, 4, 8, 16, 32, 64, 128, 256, 512, 1024, 2048, 4096, 8192, 16384, 32768] a ∨ 65536 ≤ a := by
      intro a
      by_cases ha : a < 65536
      · left
        have hs : ∀ a, a / 2 * 2 = (fun a => a / 2 * 2) a := fun _ => rfl
        refine ext16 (f := fun a => a / 2 * 2) (g := lin [0, 2, 4, 8, 16, 32, 64, 128, 256, 512, 1024, 2048, 4096, 8192, 16384, 32768]) ?_ (lin_xor _) (by decide +kernel) a ha
        intro x y
        have h1 := xor_div2 x y
        have h2 := Nat.shiftLeft_xor_distrib (a := x / 2) (b := y / 2) (i := 1)
        simp only [Nat.shiftLeft_eq, Nat.pow_one] at h2
        show (x ^^^ y) / 2 * 2 = x / 2 * 2 ^^^ y / 2 * 2
        rw [h1, h2]
      · right; omega
    rcases hd e with h1 | h1
    · rw [h1]
      refine ext16 (f := fun a => lin back (sq' a ^^^ a)) (g := lin [0, 2, 4, 8, 16, 32, 64, 128, 256, 512, 1024, 2048, 4096, 8192, 16384, 32768]) ?_ (lin_xor _) (by decide +kernel) e he
      intro x y
      show lin back (sq' (x ^^^ y) ^^^ (x ^^^ y)) = _
      rw [sq'_xor, xor4, lin_xor]
    · omega
  have h' : sq' e = e := by unfold sq'; rw [Nat.mod_eq_of_lt he, h]
  rw [h', Nat.xor_self] at key
  have z : lin back 0 = 0 := by decide
  rw [z] at key
  omega

/-- the 65534th power: by fifteen squares -/
def invGo : Nat → Nat → Nat → Nat
  | 0, _, n => n
  | k + 1, a, n => invGo k (sq a) (mul n (sq a))
def inv (a : Nat) : Nat := invGo 15 a 1

theorem invGo_lt (k : Nat) : ∀ a n, a < 65536 → n < 65536 → invGo k a n < 65536 := by
  induction k with
  | zero => intro a n _ hn; exact hn
  | succ k ih => intro a n ha hn; exact ih _ _ (sq_lt ha) (mul_lt hn _)
theorem inv_lt {a : Nat} (ha : a < 65536) : inv a < 65536 := invGo_lt 15 a 1 ha (by omega)

theorem invGo_mul (k : Nat) : ∀ a n m, a < 65536 → n < 65536 → m < 65536 → mul m (invGo k a n) = invGo k a (mul m n) := by
  induction k with
  | zero => intro a n m _ _ _; rfl
  | succ k ih =>
    intro a n m ha hn hm
    simp only [invGo]
    rw [ih _ _ _ (sq_lt ha) (mul_lt hn _) hm, mul_assoc hm hn]

/-- square upon square -/
theorem invGo_tele (k : Nat) : ∀ a, a < 65536 → mul (sq a) (invGo k a 1) = sqs (k + 1) a := by
  induction k with
  | zero =>
    intro a ha
    simp only [invGo, sqs]
    exact mul_one (sq_lt ha)
  | succ k ih =>
    intro a ha
    have hs := sq_lt ha
    have hg : invGo (k + 1) a 1 = mul (sq a) (invGo k (sq a) 1) := by
      simp only [invGo]
      rw [invGo_mul k _ _ _ hs (by omega) hs, mul_one hs, one_mul hs]
    rw [hg, ← mul_assoc hs hs]
    have := ih (sq a) hs
    simp only [sqs] at this ⊢
    exact this

theorem mul_inv {a : Nat} (ha : a < 65536) (h0 : a ≠ 0) : mul a (inv a) = 1 := by
  have hi := inv_lt ha
  have hlt : mul a (inv a) < 65536 := mul_lt ha _
  have h1 : mul a (mul a (inv a)) = a := by
    rw [← mul_assoc ha ha]
    have := invGo_tele 15 a ha
    rw [sqs16 ha] at this
    exact this
  have h2 : sq (mul a (inv a)) = mul a (inv a) := by
    show mul (mul a (inv a)) (mul a (inv a)) = mul a (inv a)
    rw [mul_comm hlt hlt, mul_assoc ha hi, mul_comm hi hlt, ← mul_assoc ha hlt, h1]
  rcases own_square hlt h2 with h | h
  · rw [h, mul_zero] at h1
    exact absurd h1.symm h0
  · exact h

theorem mul_ne_zero {a b : Nat} (ha : a < 65536) (hb : b < 65536) : mul a b ≠ 0 ↔ (a ≠ 0 ∧ b ≠ 0) := by
  constructor
  · intro h
    constructor
    · intro h0; subst h0; exact h (zero_mul b)
    · intro h0; subst h0; exact h (mul_zero a)
  · intro ⟨h0, h1⟩ h
    have hi := inv_lt ha
    have e : mul (inv a) (mul a b) = b := by
      rw [← mul_assoc hi ha, mul_comm hi ha, mul_inv ha h0, one_mul hb]
    rw [h, mul_zero] at e
    exact h1 e.symm

end Go.Proofs.YtonjphollmdicaaGreatDoor.Math
namespace Go.Proofs.YtonjphollmdicaaGreatDoor
open Go.ChangeShapes Go.WideShapes Go.ChangeAt Go.RowKit

theorem tx_hi (a : Nat) (_ha : a < 65536) (h : (((a : Int) / 32768) == 1) = true) :
    bits BinOp.xor IntKind.u16 (IntKind.u16.wrap ((a : Int) * 2)) 4107 = ((Math.X a : Nat) : Int) := by
  have h1 : a / 32768 = 1 := by simp at h; omega
  have e : IntKind.u16.wrap ((a : Int) * 2) = (((2 * a) % 65536 : Nat) : Int) := by rw [IntKind.wrap_u16]; omega
  rw [e]
  have e2 := u16_xor_nat ((2 * a) % 65536) 4107 (Nat.mod_lt _ (by omega)) (by omega)
  rw [show ((4107 : Int)) = ((4107 : Nat) : Int) from rfl, e2]
  simp [Math.X, h1]

theorem tx_lo (a : Nat) (ha : a < 65536) (h : (((a : Int) / 32768) == 1) = false) :
    IntKind.u16.wrap ((a : Int) * 2) = ((Math.X a : Nat) : Int) := by
  have h1 : a / 32768 = 0 := by simp at h; omega
  have e : IntKind.u16.wrap ((a : Int) * 2) = (((2 * a) % 65536 : Nat) : Int) := by rw [IntKind.wrap_u16]; omega
  rw [e]
  simp [Math.X, h1]

theorem timesX_walk (a : Nat) (ha : a < 65536) (w : World) :
    Calls Tryz.prog 93 #[.int .u16 (a : Int)] w fun e w' => e = .returned (.int .u16 ((Math.X a : Nat) : Int)) ∧ w' = w := by
  go_enter Tryz.func93, Tryz.ntmps93
  go_wp2
  · go_ret
    rw [tx_hi a ha (by assumption)]
    exact ⟨rfl, rfl⟩
  · go_ret
    rw [tx_lo a ha (by assumption)]
    exact ⟨rfl, rfl⟩

theorem and1 (b : Nat) (hb : b < 65536) : bits BinOp.and IntKind.u16 (b : Int) 1 = ((b % 2 : Nat) : Int) := by
  have := u16_and_nat b 1 hb (by omega)
  rw [show ((1 : Int)) = ((1 : Nat) : Int) from rfl, this, Nat.and_one_is_mod]

theorem xor16 (a b : Nat) (ha : a < 65536) (hb : b < 65536) : bits BinOp.xor IntKind.u16 (a : Int) (b : Int) = ((a ^^^ b : Nat) : Int) := u16_xor_nat a b ha hb

theorem lin_step (n a b p : Nat) : p ^^^ Math.lin (Math.pows (n + 1) a) b = (p ^^^ (if b % 2 = 1 then a else 0)) ^^^ Math.lin (Math.pows n (Math.X a)) (b / 2) := by
  simp only [Math.pows, Math.lin]
  rw [Nat.xor_assoc]

theorem lin_zero (l : List Nat) : Math.lin l 0 = 0 := by
  have := Math.lin_xor l 0 0
  simp at this
  exact this

theorem hid_of {p : Prop} (h : p) : Hid p := h

theorem Times_walk (a b : Nat) (ha : a < 65536) (hb : b < 65536) (w : World) :
    Calls Tryz.prog 60 #[.int .u16 (a : Int), .int .u16 (b : Int)] w fun e w' => e = .returned (.int .u16 ((Math.mul a b : Nat) : Int)) ∧ w' = w := by
  go_enter Tryz.func60, Tryz.ntmps60
  go_wp2
  go_loop [0, 1, 5] (fun x y p => ∃ n a' b' p' : Nat, n ≤ 16 ∧ a' < 65536 ∧ b' < 2 ^ n ∧ p' < 65536 ∧ Hid (p' ^^^ Math.lin (Math.pows n a') b' = Math.mul a b) ∧ x = .int .u16 (a' : Int) ∧ y = .int .u16 (b' : Int) ∧ p = .int .u16 (p' : Int))
                    (fun _ y _ => (intOf y).toNat)
  case atStart => exact ⟨16, a, b, 0, by omega, ha, by omega, by omega, hid_of (by simp [Math.mul]), rfl, rfl, rfl⟩
  case round =>
    obtain ⟨n, a', b', p', hn, ha', hb', hp', hm, rfl, rfl, rfl⟩ := hrel
    have hb2 : b' < 65536 := Nat.lt_of_lt_of_le hb' (Nat.pow_le_pow_right (by omega) hn)
    have hand := and1 b' hb2
    have hxor := xor16 p' a' hp' ha'
    have hnext : 0 < b' → ∃ m, n = m + 1 ∧ b' / 2 < 2 ^ m := by
      intro h0
      cases n with
      | zero => simp at hb'; omega
      | succ m => exact ⟨m, rfl, by rw [Nat.pow_succ] at hb'; omega⟩
    have hstep : ∀ m, n = m + 1 → (p' ^^^ (if b' % 2 = 1 then a' else 0)) ^^^ Math.lin (Math.pows m (Math.X a')) (b' / 2) = Math.mul a b := by
      intro m h
      have := hm.out
      rw [h, lin_step] at this
      exact this
    have HN := hid_of hnext
    have HS := hid_of hstep
    clear hnext hstep
    go_wp2_with (go_at_call 93; refine (timesX_walk a' ha' w).mono ?_; rintro e w' ⟨rfl, rfl⟩)
    · have hb0 : 0 < b' := by assumption
      have hodd : ((b' : Int) % 2 == 1) = true := by assumption
      obtain ⟨m, hm1, hm2⟩ := HN.out hb0
      have h1 : b' % 2 = 1 := by simp at hodd; omega
      have hs := HS.out m hm1
      rw [if_pos h1] at hs
      refine ⟨⟨m, Math.X a', b' / 2, p' ^^^ a', by omega, Math.X_lt a', hm2, Nat.xor_lt_two_pow (n := 16) hp' ha', hid_of hs, rfl, by go_num, rfl⟩, ?_⟩
      simp [intOf]; omega
    · have hb0 : 0 < b' := by assumption
      have hodd : ((b' : Int) % 2 == 1) = false := by assumption
      obtain ⟨m, hm1, hm2⟩ := HN.out hb0
      have h1 : ¬ b' % 2 = 1 := by simp at hodd; omega
      have hs := HS.out m hm1
      rw [if_neg h1, Nat.xor_zero] at hs
      refine ⟨⟨m, Math.X a', b' / 2, p', by omega, Math.X_lt a', hm2, hp', hid_of hs, rfl, by go_num, rfl⟩, ?_⟩
      simp [intOf]; omega
    · go_ret
      have hb0 : b' = 0 := by omega
      have := hm.out
      rw [hb0, lin_zero, Nat.xor_zero] at this
      rw [this]
      exact ⟨rfl, rfl⟩

end Go.Proofs.YtonjphollmdicaaGreatDoor
