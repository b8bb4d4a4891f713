import Derived.KernelRfl
import Derived.Test.YtonjphollmdicaaGreatDoorRows
import Derived.WalkKit
import Derived.ProofKit
import Derived.OpenShut
import Derived.LoopTactic
import Derived.Laws.BitsAllLaws
import Derived.WalkLawsBesides
import Derived.Maps.AppendAt
import Derived.Lib.AppendStr
import Derived.Lib.SlBytesConst
import Derived.Laws.IdiomStrings
import Derived.ArgAppend
set_option maxRecDepth 100000
set_option maxHeartbeats 4000000
set_option linter.unusedSimpArgs false
namespace Go.Proofs.YtonjphollmdicaaGreatDoor.Math
def X (a : Nat) : Nat := (2 * a) % 65536 ^^^ (if a / 32768 % 2 = 1 then 4107 else 0)
def lin : List Nat → Nat → Nat
 | [], _ => 0
 | t :: ts, y => (if y % 2 = 1 then t else 0) ^^^ lin ts (y / 2)
def pows : Nat → Nat → List Nat
 | 0, _ => []
 | n + 1, a => a :: pows n (X a)
def mul (a b : Nat) : Nat := lin (pows 16 a) b
theorem Np (a b : Nat) : (a ^^^ b) / 2 = a / 2 ^^^ b / 2 := by
 have := Nat.shiftRight_xor_distrib (a := a) (b := b) (i := 1)
 simpa [Nat.shiftRight_succ] using this
theorem QQ (a b : Nat) : (a ^^^ b) % 2 = (a % 2 + b % 2) % 2 := by
 have := Nat.xor_mod_two_pow (a := a) (b := b) (n := 1)
 simp at this
 rw [this]
 rcases Nat.mod_two_eq_zero_or_one a with h | h <;> rcases Nat.mod_two_eq_zero_or_one b with h' | h' <;> simp [h, h']
theorem Nz (t a b : Nat) : (if (a ^^^ b) % 2 = 1 then t else 0) = (if a % 2 = 1 then t else 0) ^^^ (if b % 2 = 1 then t else 0) := by
 rw [QQ]
 rcases Nat.mod_two_eq_zero_or_one a with h | h <;> rcases Nat.mod_two_eq_zero_or_one b with h' | h' <;> simp [h, h']
theorem xor4 (a b c d : Nat) : (a ^^^ b) ^^^ (c ^^^ d) = (a ^^^ c) ^^^ (b ^^^ d) := by
 apply Nat.eq_of_testBit_eq
 intro i
 simp only [Nat.testBit_xor]
 cases a.testBit i <;> cases b.testBit i <;> cases c.testBit i <;> cases d.testBit i <;> rfl
theorem lin_xor (l : List Nat) : ∀ a b : Nat, lin l (a ^^^ b) = lin l a ^^^ lin l b := by
 induction l with
 | nil => intro a b; simp [lin]
 | cons t ts ih =>
  intro a b
  simp only [lin]
  rw [Np, ih, Nz, xor4]
theorem Qg (a b p : Nat) : (if p = 1 then a ^^^ b else 0) = (if p = 1 then a else 0) ^^^ (if p = 1 then b else 0) := by
 split <;> simp
theorem Sv (a b : Nat) : X (a ^^^ b) = X a ^^^ X b := by
 unfold X
 have h1 : (2 * (a ^^^ b)) % 65536 = (2 * a) % 65536 ^^^ (2 * b) % 65536 := by
  have e : 2 * (a ^^^ b) = 2 * a ^^^ 2 * b := by
   have := Nat.shiftLeft_xor_distrib (a := a) (b := b) (i := 1)
   simp only [Nat.shiftLeft_eq, Nat.pow_one] at this
   rw [Nat.mul_comm 2, Nat.mul_comm 2 a, Nat.mul_comm 2 b]
   exact this
  rw [e]
  exact Nat.xor_mod_two_pow (n := 16)
 have h2 : (a ^^^ b) / 32768 = a / 32768 ^^^ b / 32768 := by
  have := Nat.shiftRight_xor_distrib (a := a) (b := b) (i := 15)
  simpa [Nat.shiftRight_eq_div_pow] using this
 rw [h1, h2, Nz, xor4]
theorem LE (n : Nat) : ∀ a b y : Nat, lin (pows n (a ^^^ b)) y = lin (pows n a) y ^^^ lin (pows n b) y := by
 induction n with
 | zero => intro a b y; simp [pows, lin]
 | succ n ih =>
  intro a b y
  simp only [pows, lin]
  rw [Sv, ih, Qg, xor4]
theorem CG (a b c : Nat) : mul a (b ^^^ c) = mul a b ^^^ mul a c := lin_xor _ _ _
theorem Cc (a b c : Nat) : mul (a ^^^ b) c = mul a c ^^^ mul b c := LE _ _ _ _
theorem RK : X 0 = 0 := by decide
theorem X_lt (a : Nat) : X a < 65536 := by
 unfold X
 apply Nat.xor_lt_two_pow (n := 16)
 ·omega
 ·split <;> omega
theorem NJ (n : Nat) : ∀ a y : Nat, lin (pows n (X a)) y = X (lin (pows n a) y) := by
 induction n with
 | zero => intro a y; simp [pows, lin, RK]
 | succ n ih =>
  intro a y
  simp only [pows, lin]
  rw [ih, Sv]
  congr 1
  split <;> simp [RK]
theorem S8 (a b : Nat) : mul (X a) b = X (mul a b) := NJ _ _ _
theorem SD (l : List Nat) (h : ∀ t ∈ l, t < 65536) : ∀ y, lin l y < 65536 := by
 induction l with
 | nil => intro y; simp [lin]
 | cons t ts ih =>
  intro y
  simp only [lin]
  apply Nat.xor_lt_two_pow (n := 16)
  ·have := h t (by simp)
   split <;> omega
  ·exact ih (fun t ht => h t (by simp [ht])) _
theorem RY (n : Nat) : ∀ a, a < 65536 → ∀ t ∈ pows n a, t < 65536 := by
 induction n with
 | zero => intro a _ t ht; simp [pows] at ht
 | succ n ih =>
  intro a ha t ht
  simp only [pows, List.mem_cons] at ht
  rcases ht with rfl | ht
  ·exact ha
  ·exact ih _ (X_lt a) t ht
theorem mul_lt {a : Nat} (ha : a < 65536) (b : Nat) : mul a b < 65536 := SD _ (RY 16 a ha) b
theorem Mp {f g : Nat → Nat} (hf : ∀ a b, f (a ^^^ b) = f a ^^^ f b) (hg : ∀ a b, g (a ^^^ b) = g a ^^^ g b)
  (h : ∀ i, i < 16 → f (2 ^ i) = g (2 ^ i)) : ∀ a, a < 65536 → f a = g a := by
 have f0 : f 0 = 0 := by have := hf 0 0; simp at this; exact this
 have g0 : g 0 = 0 := by have := hg 0 0; simp at this; exact this
 have main : ∀ n, n ≤ 16 → ∀ a, a < 2 ^ n → f a = g a := by
  intro n
  induction n with
  | zero =>
   intro _ a ha
   have : a = 0 := by simpa using ha
   rw [this, f0, g0]
  | succ n ih =>
   intro hn a ha
   by_cases hb : a < 2 ^ n
   ·exact ih (by omega) a hb
   ·have hlt : a - 2 ^ n < 2 ^ n := by rw [Nat.pow_succ] at ha; omega
    have e : a = 2 ^ n ^^^ (a - 2 ^ n) := by
     have h1 := Nat.two_pow_add_eq_or_of_lt hlt 1
     have h2 : (2 ^ n * 1 ||| (a - 2 ^ n)) = 2 ^ n ^^^ (a - 2 ^ n) := by
      apply Nat.eq_of_testBit_eq
      intro i
      simp only [Nat.testBit_or, Nat.testBit_xor, Nat.mul_one, Nat.testBit_two_pow]
      by_cases hi : n = i
      ·subst hi
       simp [Nat.testBit_lt_two_pow hlt]
      ·simp [hi]
     omega
    rw [e, hf, hg, h n (by omega), ih (by omega) _ hlt]
 intro a ha
 exact main 16 (Nat.le_refl _) a ha
theorem mul_zero (a : Nat) : mul a 0 = 0 := by
 have := CG a 0 0
 simp at this
 exact this
theorem zero_mul (a : Nat) : mul 0 a = 0 := by
 have := Cc 0 0 a
 simp at this
 exact this
theorem mul_comm {a b : Nat} (ha : a < 65536) (hb : b < 65536) : mul a b = mul b a := by
 refine Mp (f := fun a => mul a b) (g := fun a => mul b a) (fun x y => Cc x y b) (fun x y => CG b x y) ?_ a ha
 intro i hi
 refine Mp (f := fun b => mul (2 ^ i) b) (g := fun b => mul b (2 ^ i)) (fun x y => CG _ x y) (fun x y => Cc x y _) ?_ b hb
 have : ∀ i, i < 16 → ∀ j, j < 16 → mul (2 ^ i) (2 ^ j) = mul (2 ^ j) (2 ^ i) := by decide +kernel
 exact this i hi
theorem mul_one {a : Nat} (ha : a < 65536) : mul a 1 = a := by
 refine Mp (f := fun a => mul a 1) (g := fun a => a) (fun x y => Cc x y 1) (fun _ _ => rfl) ?_ a ha
 decide +kernel
theorem one_mul {a : Nat} (ha : a < 65536) : mul 1 a = a := by
 rw [mul_comm (by omega) ha, mul_one ha]
def xp : Nat → Nat
 | 0 => 1
 | n + 1 => X (xp n)
theorem mul_assoc {a b c : Nat} (ha : a < 65536) (hb : b < 65536) : mul (mul a b) c = mul a (mul b c) := by
 refine Mp (f := fun a => mul (mul a b) c) (g := fun a => mul a (mul b c))
  (fun x y => by simp only [Cc]) (fun x y => Cc x y _) ?_ a ha
 have hx : ∀ i, i < 16 → 2 ^ i = xp i := by decide +kernel
 have key : ∀ i, mul (mul (xp i) b) c = mul (xp i) (mul b c) := by
  intro i
  induction i with
  | zero => simp only [xp]; rw [one_mul hb, one_mul (mul_lt hb c)]
  | succ i ih => simp only [xp, S8]; rw [ih]
 intro i hi
 show mul (mul (2 ^ i) b) c = mul (2 ^ i) (mul b c)
 rw [hx i hi]
 exact key i
def sq (a : Nat) : Nat := mul a a
def sqs : Nat → Nat → Nat
 | 0, a => a
 | n + 1, a => sqs n (sq a)
theorem Su {a b : Nat} (ha : a < 65536) (hb : b < 65536) : sq (a ^^^ b) = sq a ^^^ sq b := by
 unfold sq
 rw [Cc, CG, CG, mul_comm hb ha]
 apply Nat.eq_of_testBit_eq
 intro i
 simp only [Nat.testBit_xor]
 cases (mul a a).testBit i <;> cases (mul a b).testBit i <;> cases (mul b b).testBit i <;> rfl
theorem sq_lt {a : Nat} (ha : a < 65536) : sq a < 65536 := mul_lt ha a
def sq' (a : Nat) : Nat := sq (a % 65536)
theorem OY (a b : Nat) : sq' (a ^^^ b) = sq' a ^^^ sq' b := by
 unfold sq'
 have : (a ^^^ b) % 65536 = a % 65536 ^^^ b % 65536 := Nat.xor_mod_two_pow (n := 16)
 rw [this, Su (Nat.mod_lt _ (by omega)) (Nat.mod_lt _ (by omega))]
def RH : Nat → Nat → Nat
 | 0, a => a
 | n + 1, a => RH n (sq' a)
theorem QH (n : Nat) : ∀ a b, RH n (a ^^^ b) = RH n a ^^^ RH n b := by
 induction n with
 | zero => intro a b; rfl
 | succ n ih => intro a b; simp only [RH]; rw [OY, ih]
theorem SE (n : Nat) : ∀ a, a < 65536 → sqs n a = RH n a := by
 induction n with
 | zero => intro a _; rfl
 | succ n ih =>
  intro a ha
  simp only [sqs, RH, sq', Nat.mod_eq_of_lt ha]
  exact ih _ (sq_lt ha)
theorem SY {a : Nat} (ha : a < 65536) : sqs 16 a = a := by
 rw [SE 16 a ha]
 refine Mp (f := RH 16) (g := fun a => a) (QH 16) (fun _ _ => rfl) ?_ a ha
 decide +kernel
def SQ : List Nat := [350, 42420, 42422, 7412, 42418, 10272, 7420, 1328, 42402, 38610, 10240, 5068, 7356, 0, 1456, 21936]
theorem OG {e : Nat} (he : e < 65536) (h : sq e = e) : e = 0 ∨ e = 1 := by
 have key : lin SQ (sq' e ^^^ e) = e / 2 * 2 := by
  have hd : ∀ a : Nat, a / 2 * 2 = lin [0, 2, 4, 8, 16, 32, 64, 128, 256, 512, 1024, 2048, 4096, 8192, 16384, 32768] a ∨ 65536 ≤ a := by
   intro a
   by_cases ha : a < 65536
   ·left
    have hs : ∀ a, a / 2 * 2 = (fun a => a / 2 * 2) a := fun _ => rfl
    refine Mp (f := fun a => a / 2 * 2) (g := lin [0, 2, 4, 8, 16, 32, 64, 128, 256, 512, 1024, 2048, 4096, 8192, 16384, 32768]) ?_ (lin_xor _) (by decide +kernel) a ha
    intro x y
    have h1 := Np x y
    have h2 := Nat.shiftLeft_xor_distrib (a := x / 2) (b := y / 2) (i := 1)
    simp only [Nat.shiftLeft_eq, Nat.pow_one] at h2
    show (x ^^^ y) / 2 * 2 = x / 2 * 2 ^^^ y / 2 * 2
    rw [h1, h2]
   ·right; omega
  rcases hd e with h1 | h1
  ·rw [h1]
   refine Mp (f := fun a => lin SQ (sq' a ^^^ a)) (g := lin [0, 2, 4, 8, 16, 32, 64, 128, 256, 512, 1024, 2048, 4096, 8192, 16384, 32768]) ?_ (lin_xor _) (by decide +kernel) e he
   intro x y
   show lin SQ (sq' (x ^^^ y) ^^^ (x ^^^ y)) = _
   rw [OY, xor4, lin_xor]
  ·omega
 have h' : sq' e = e := by unfold sq'; rw [Nat.mod_eq_of_lt he, h]
 rw [h', Nat.xor_self] at key
 have z : lin SQ 0 = 0 := by decide
 rw [z] at key
 omega
def invGo : Nat → Nat → Nat → Nat
 | 0, _, n => n
 | k + 1, a, n => invGo k (sq a) (mul n (sq a))
def inv (a : Nat) : Nat := invGo 15 a 1
theorem RB (k : Nat) : ∀ a n, a < 65536 → n < 65536 → invGo k a n < 65536 := by
 induction k with
 | zero => intro a n _ hn; exact hn
 | succ k ih => intro a n ha hn; exact ih _ _ (sq_lt ha) (mul_lt hn _)
theorem inv_lt {a : Nat} (ha : a < 65536) : inv a < 65536 := RB 15 a 1 ha (by omega)
theorem PG (k : Nat) : ∀ a n m, a < 65536 → n < 65536 → m < 65536 → mul m (invGo k a n) = invGo k a (mul m n) := by
 induction k with
 | zero => intro a n m _ _ _; rfl
 | succ k ih =>
  intro a n m ha hn hm
  simp only [invGo]
  rw [ih _ _ _ (sq_lt ha) (mul_lt hn _) hm, mul_assoc hm hn]
theorem OC (k : Nat) : ∀ a, a < 65536 → mul (sq a) (invGo k a 1) = sqs (k + 1) a := by
 induction k with
 | zero =>
  intro a ha
  simp only [invGo, sqs]
  exact mul_one (sq_lt ha)
 | succ k ih =>
  intro a ha
  have hs := sq_lt ha
  have hg : invGo (k + 1) a 1 = mul (sq a) (invGo k (sq a) 1) := by
   simp only [invGo]
   rw [PG k _ _ _ hs (by omega) hs, mul_one hs, one_mul hs]
  rw [hg, ← mul_assoc hs hs]
  have := ih (sq a) hs
  simp only [sqs] at this ⊢
  exact this
theorem mul_inv {a : Nat} (ha : a < 65536) (h0 : a ≠ 0) : mul a (inv a) = 1 := by
 have hi := inv_lt ha
 have hlt : mul a (inv a) < 65536 := mul_lt ha _
 have h1 : mul a (mul a (inv a)) = a := by
  rw [← mul_assoc ha ha]
  have := OC 15 a ha
  rw [SY ha] at this
  exact this
 have h2 : sq (mul a (inv a)) = mul a (inv a) := by
  show mul (mul a (inv a)) (mul a (inv a)) = mul a (inv a)
  rw [mul_comm hlt hlt, mul_assoc ha hi, mul_comm hi hlt, ← mul_assoc ha hlt, h1]
 rcases OG hlt h2 with h | h
 ·rw [h, mul_zero] at h1
  exact absurd h1.symm h0
 ·exact h
theorem MH {a b : Nat} (ha : a < 65536) (hb : b < 65536) : mul a b ≠ 0 ↔ (a ≠ 0 ∧ b ≠ 0) := by
 constructor
 ·intro h
  constructor
  ·intro h0; subst h0; exact h (zero_mul b)
  ·intro h0; subst h0; exact h (mul_zero a)
 ·intro ⟨h0, h1⟩ h
  have hi := inv_lt ha
  have e : mul (inv a) (mul a b) = b := by
   rw [← mul_assoc hi ha, mul_comm hi ha, mul_inv ha h0, one_mul hb]
  rw [h, mul_zero] at e
  exact h1 e.symm
end Go.Proofs.YtonjphollmdicaaGreatDoor.Math
namespace Go.Proofs.YtonjphollmdicaaGreatDoor
open Go.ChangeShapes Go.WideShapes Go.ChangeAt Go.RowKit
theorem Te (a : Nat) (_ha : a < 65536) (h : (((a : Int) / 32768) == 1) = true) :
    bits BinOp.xor IntKind.u16 (IntKind.u16.wrap ((a : Int) * 2)) 4107 = ((Math.X a : Nat) : Int) := by
  have h1 : a / 32768 = 1 := by simp at h; omega
  have e : IntKind.u16.wrap ((a : Int) * 2) = (((2 * a) % 65536 : Nat) : Int) := by rw [IntKind.wrap_u16]; omega
  rw [e]
  have e2 := u16_xor_nat ((2 * a) % 65536) 4107 (Nat.mod_lt _ (by omega)) (by omega)
  rw [show ((4107 : Int)) = ((4107 : Nat) : Int) from rfl, e2]
  simp [Math.X, h1]
theorem S9 (a : Nat) (ha : a < 65536) (h : (((a : Int) / 32768) == 1) = false) :
    IntKind.u16.wrap ((a : Int) * 2) = ((Math.X a : Nat) : Int) := by
  have h1 : a / 32768 = 0 := by simp at h; omega
  have e : IntKind.u16.wrap ((a : Int) * 2) = (((2 * a) % 65536 : Nat) : Int) := by rw [IntKind.wrap_u16]; omega
  rw [e]
  simp [Math.X, h1]
theorem LY (a : Nat) (ha : a < 65536) (w : World) :
    Calls Tryz.prog 93 #[.int .u16 (a : Int)] w fun e w' => e = .returned (.int .u16 ((Math.X a : Nat) : Int)) ∧ w' = w := by
  go_enter Tryz.func93, Tryz.ntmps93
  go_wp2
  · go_ret
    rw [Te a ha (by assumption)]
    exact ⟨rfl, rfl⟩
  · go_ret
    rw [S9 a ha (by assumption)]
    exact ⟨rfl, rfl⟩
theorem Tg (b : Nat) (hb : b < 65536) : bits BinOp.and IntKind.u16 (b : Int) 1 = ((b % 2 : Nat) : Int) := by
  have := u16_and_nat b 1 hb (by omega)
  rw [show ((1 : Int)) = ((1 : Nat) : Int) from rfl, this, Nat.and_one_is_mod]
theorem Oi (a b : Nat) (ha : a < 65536) (hb : b < 65536) : bits BinOp.xor IntKind.u16 (a : Int) (b : Int) = ((a ^^^ b : Nat) : Int) := u16_xor_nat a b ha hb
theorem Ni (n a b p : Nat) : p ^^^ Math.lin (Math.pows (n + 1) a) b = (p ^^^ (if b % 2 = 1 then a else 0)) ^^^ Math.lin (Math.pows n (Math.X a)) (b / 2) := by
  simp only [Math.pows, Math.lin]
  rw [Nat.xor_assoc]
theorem Rh (l : List Nat) : Math.lin l 0 = 0 := by
  have := Math.lin_xor l 0 0
  simp at this
  exact this
theorem Aa {p : Prop} (h : p) : Hid p := h
theorem CF (a b : Nat) (ha : a < 65536) (hb : b < 65536) (w : World) :
    Calls Tryz.prog 60 #[.int .u16 (a : Int), .int .u16 (b : Int)] w fun e w' => e = .returned (.int .u16 ((Math.mul a b : Nat) : Int)) ∧ w' = w := by
  go_enter Tryz.func60, Tryz.ntmps60
  go_wp2
  go_loop [0, 1, 5] (fun x y p => ∃ n a' b' p' : Nat, n ≤ 16 ∧ a' < 65536 ∧ b' < 2 ^ n ∧ p' < 65536 ∧ Hid (p' ^^^ Math.lin (Math.pows n a') b' = Math.mul a b) ∧ x = .int .u16 (a' : Int) ∧ y = .int .u16 (b' : Int) ∧ p = .int .u16 (p' : Int))
                    (fun _ y _ => (intOf y).toNat)
  case atStart => exact ⟨16, a, b, 0, by omega, ha, by omega, by omega, Aa (by simp [Math.mul]), rfl, rfl, rfl⟩
  case round =>
    obtain ⟨n, a', b', p', hn, ha', hb', hp', hm, rfl, rfl, rfl⟩ := hrel
    have hb2 : b' < 65536 := Nat.lt_of_lt_of_le hb' (Nat.pow_le_pow_right (by omega) hn)
    have hand := Tg b' hb2
    have hxor := Oi p' a' hp' ha'
    have hnext : 0 < b' → ∃ m, n = m + 1 ∧ b' / 2 < 2 ^ m := by
      intro h0
      cases n with
      | zero => simp at hb'; omega
      | succ m => exact ⟨m, rfl, by rw [Nat.pow_succ] at hb'; omega⟩
    have hstep : ∀ m, n = m + 1 → (p' ^^^ (if b' % 2 = 1 then a' else 0)) ^^^ Math.lin (Math.pows m (Math.X a')) (b' / 2) = Math.mul a b := by
      intro m h
      have := hm.out
      rw [h, Ni] at this
      exact this
    have HN := Aa hnext
    have HS := Aa hstep
    clear hnext hstep
    go_wp2_with (go_at_call 93; refine (LY a' ha' w).mono ?_; rintro e w' ⟨rfl, rfl⟩)
    · have hb0 : 0 < b' := by assumption
      have hodd : ((b' : Int) % 2 == 1) = true := by assumption
      obtain ⟨m, hm1, hm2⟩ := HN.out hb0
      have h1 : b' % 2 = 1 := by simp at hodd; omega
      have hs := HS.out m hm1
      rw [if_pos h1] at hs
      refine ⟨⟨m, Math.X a', b' / 2, p' ^^^ a', by omega, Math.X_lt a', hm2, Nat.xor_lt_two_pow (n := 16) hp' ha', Aa hs, rfl, by go_num, rfl⟩, ?_⟩
      simp [intOf]; omega
    · have hb0 : 0 < b' := by assumption
      have hodd : ((b' : Int) % 2 == 1) = false := by assumption
      obtain ⟨m, hm1, hm2⟩ := HN.out hb0
      have h1 : ¬ b' % 2 = 1 := by simp at hodd; omega
      have hs := HS.out m hm1
      rw [if_neg h1, Nat.xor_zero] at hs
      refine ⟨⟨m, Math.X a', b' / 2, p', by omega, Math.X_lt a', hm2, hp', Aa hs, rfl, by go_num, rfl⟩, ?_⟩
      simp [intOf]; omega
    · go_ret
      have hb0 : b' = 0 := by omega
      have := hm.out
      rw [hb0, Rh, Nat.xor_zero] at this
      rw [this]
      exact ⟨rfl, rfl⟩
theorem KK (a : Nat) (ha : a < 65536) (w : World) :
    Calls Tryz.prog 137 #[.int .u16 (a : Int)] w fun e w' => e = .returned (.int .u16 ((Math.inv a : Nat) : Int)) ∧ w' = w := by
  go_enter Tryz.func137, Tryz.ntmps137
  go_wp2
  go_loop [3, 4, 6] (fun x p i => ∃ k a' p' : Nat, k ≤ 15 ∧ a' < 65536 ∧ p' < 65536 ∧ Hid (Math.invGo (15 - k) a' p' = Math.inv a) ∧ x = .int .u16 (a' : Int) ∧ p = .int .u16 (p' : Int) ∧ i = .int .i64 (k : Int))
                    (fun _ _ i => 15 - (intOf i).toNat)
  case atStart => exact ⟨0, a, 1, by omega, ha, by omega, Aa rfl, rfl, rfl, rfl⟩
  case round =>
    obtain ⟨k, a', p', hk, ha', hp', hm, rfl, rfl, rfl⟩ := hrel
    by_cases hlt : k < 15
    · have hs : Math.mul a' a' < 65536 := Math.mul_lt ha' a'
      go_wp2_with fail
      refine (CF a' a' ha' ha' w).mono ?_
      rintro e w' ⟨rfl, rfl⟩
      go_wp2_with fail
      refine (CF p' (Math.mul a' a') hp' hs _).mono ?_
      rintro e w' ⟨rfl, rfl⟩
      go_wp2_with fail
      refine ⟨⟨k + 1, Math.sq a', Math.mul p' (Math.sq a'), by omega, Math.sq_lt ha', Math.mul_lt hp' _, Aa ?_, rfl, rfl, by go_num⟩, ?_⟩
      · have := hm.out
        rw [show 15 - k = (15 - (k + 1)) + 1 from by omega] at this
        exact this
      · simp [intOf]; omega
    · have hk15 : k = 15 := by omega
      subst hk15
      go_wp2_with fail
      go_ret
      have := hm.out
      simp only [Nat.sub_self, Math.invGo] at this
      rw [← this]
      exact ⟨rfl, rfl⟩
def P64 : Nat := 18446744073709551616
def DG (h : Nat) (c : UInt8) : Nat := ((h ^^^ c.toNat) * 1099511628211) % P64
def AC (l : List UInt8) : Nat := l.foldl DG 14695981039346656037
theorem FZ (h : Nat) (c : UInt8) : DG h c < P64 := Nat.mod_lt _ (by decide)
theorem FO (h : Nat) (hh : h < P64) (c : UInt8) :
    IntKind.u64.wrap (bits BinOp.xor IntKind.u64 (h : Int) (IntKind.u64.wrap (c.toNat : Int)) * 1099511628211) = ((DG h c : Nat) : Int) := by
  have hc : c.toNat < 256 := c.toNat_lt
  have e1 : IntKind.u64.wrap (c.toNat : Int) = (c.toNat : Int) := by rw [IntKind.wrap_u64]; omega
  have hh' : h < 18446744073709551616 := hh
  rw [e1, u64_xor_nat h c.toNat hh' (by omega), IntKind.wrap_u64]
  unfold DG P64
  omega
theorem Sl (s : ByteArray) (k : Nat) (h : k < s.size) : s.data.toList.drop k = s[k] :: s.data.toList.drop (k + 1) := by
  rw [List.drop_eq_getElem_cons (by simpa using h)]
  rfl
theorem Ix (s : ByteArray) (hs : s.size ≤ 1000000) (w : World) :
    Calls Tryz.prog 92 #[.string s] w fun e w' => e = .returned (.int .u64 ((AC s.data.toList : Nat) : Int)) ∧ w' = w := by
  go_enter Tryz.func92, Tryz.ntmps92
  go_wp2
  go_loop [3, 4, 7] (fun x p i => ∃ k h' : Nat, k ≤ s.size ∧ h' < P64 ∧ Hid ((s.data.toList.drop k).foldl DG h' = AC s.data.toList) ∧ x = .int .u64 (h' : Int) ∧ i = .int .i64 (k : Int))
                    (fun _ _ i => s.size - (intOf i).toNat)
  case atStart => exact ⟨0, 14695981039346656037, by omega, by decide, Aa rfl, rfl, rfl⟩
  case round =>
    obtain ⟨k, h', hk, hh', hm, rfl, rfl⟩ := hrel
    by_cases hlt : k < s.size
    · go_wp2
      refine ⟨⟨k + 1, DG h' s[k], by omega, FZ _ _, Aa ?_, by rw [FO h' hh'], by go_num⟩, ?_⟩
      · have := hm.out
        rw [Sl s k hlt, List.foldl_cons] at this
        exact this
      · simp [intOf]; omega
    · have hk2 : k = s.size := by omega
      subst hk2
      go_wp2
      go_ret
      have := hm.out
      rw [List.drop_eq_nil_of_le (by rw [Array.length_toList]; exact Nat.le_refl _)] at this
      simp only [List.foldl_nil] at this
      rw [← this]
      exact ⟨rfl, rfl⟩
def DD (n k : Nat) : UInt8 := UInt8.ofNat (n / 2 ^ (8 * k))
def Af (n : Nat) : Nat → List UInt8
  | 0 => []
  | k + 1 => DD n k :: Af n k
theorem Hz (n k : Nat) : (Af n k).length = k := by
  induction k with
  | zero => rfl
  | succ k ih => simp [Af, ih]
def Bw (l : List UInt8) : List Value := l.map fun b => Value.int .u8 b.toNat
theorem Tryz.info8 : (Tryz.prog.info? 5).map (fun i => (i.zero, i.size, i.bytes)) = some (some (.int .u8 0), 1, 1) := by kernel_rfl
theorem Ef (x m : Nat) : (x : Int) / 2 ^ (8 * m) % 256 = ((DD x m).toNat : Int) := by
  unfold DD
  simp
theorem DL (a b : List UInt8) : Bw (a ++ b) = Bw a ++ Bw b := by simp [Bw]
theorem Az {base : Nat} {w wr w1 : World} {v : Value} {e : TypeId} {sz n : Nat} {xs : List Value} {o : Obj} (hbl : Below base w wr) (hb : base ≤ wr.heap.size) (hown : wr.ownsRow base e sz v n xs)
    (hg : (wr.alloc o).grownBy w1 v.ownBlock) : Below base w w1 :=
  (hbl.alloc hb o).grown hg (by simp; omega) (fun k hk => (hown.lt k hk).1)
theorem AO (v : Value) (n : Nat) (xs : List UInt8) (x size : Nat) (base : Nat) (w : World) (hsize : size ≤ 8) (hn : n ≤ 1000000) (hbase : base ≤ w.heap.size)
    (hown : w.ownsRow base 5 1 v n (Bw xs)) :
    Calls Tryz.prog 125 #[v, .int .u64 (x : Int), .int .i64 (size : Int)] w fun e w' => ∃ v', e = .returned v' ∧ w'.ownsRow base 5 1 v' (n + size) (Bw (xs ++ Af x size)) ∧ Below base w w' := by
  obtain ⟨i0, hi, hz0, hz1, hz2⟩ := info_parts Tryz.info8
  go_enter Tryz.func125, Tryz.ntmps125
  go_wp2
  go_loopw [0, 7] (fun t i wr => ∃ (k : Nat) (ys : List UInt8), k ≤ size ∧ i = .int .i64 ((k : Int) - 1) ∧ wr.ownsRow base 5 1 t (n + (size - k)) (Bw (xs ++ ys)) ∧ Below base w wr ∧ Hid (ys ++ Af x k = Af x size))
    (fun _ i _ => (intOf i + 1).toNat)
  case atStart => exact ⟨size, [], by omega, by go_num, by simpa using hown, Below.refl _ _, Aa (by simp)⟩
  case round =>
    obtain ⟨k, ys, hk, rfl, hownr, hbl, hys⟩ := hrel
    have hsz := hbl.size
    by_cases hlt : 0 < k
    · obtain ⟨m, rfl⟩ : ∃ m, k = m + 1 := ⟨k - 1, by omega⟩
      go_wp2_with (at_builtin; refine wpList_append_own _ rfl _ _ 67 rfl base 5 i0 (.int .u8 0) 1 1 Tryz.underlying67 hi hz0 hz1 hz2 rfl (by decide) _ _ _ rfl (hownr.alloc _) ⟨wr.heap.size, 0, none⟩ 1 1 [.int .u8 ((x : Int) / 2 ^ (8 * m) % 256)] rfl rfl (cell_one_new _ _ _) ?c2 ?c3 ?c4 ?c5 ?_)
      case c2 => intro u hu; simp at hu; subst hu; rfl
      case c3 => unfold maxLen; omega
      case c4 => omega
      case c5 => simp; omega
      · intro v' w1 hown' hgrow _
        have hB := Az hbl (by omega) hownr hgrow
        have hown2 : w1.ownsRow base 5 1 v' (n + (size - m)) (Bw (xs ++ (ys ++ [DD x m]))) := by
          have e : n + (size - m) = n + (size - (m + 1)) + 1 := by omega
          rw [e, ← List.append_assoc, DL]
          rw [Ef] at hown'
          exact hown'
        clear hown' hgrow hownr hown
        go_wp2
        go_roundw
        case rel => exact ⟨m, ys ++ [DD x m], by omega, by go_num, hown2, hB, Aa (by have := hys.out; simp only [Af] at this; simpa using this)⟩
        case measure => simp [intOf]
    · obtain rfl : k = 0 := by omega
      go_wp2
      go_ret
      have := hys.out
      simp only [Af, List.append_nil] at this
      subst this
      exact ⟨_, rfl, by simpa using hownr, hbl⟩
def str (l : List UInt8) : ByteArray := ⟨l.toArray⟩
theorem De (l : List UInt8) : (str l).data.toList = l := by simp [str]
theorem Ae (l : List UInt8) : (str l).size = l.length := by simp [str, ByteArray.size]
theorem Cd {w : World} {base : Nat} {v : Value} {n : Nat} {l : List UInt8} (h : w.ownsRow base 5 1 v n (Bw l)) :
    (convert 67 9 v).run Tryz.prog w = .ok (.string (str l)) w := by
  have hn : l.length = n := by have := h.1; simpa [Bw] using this
  rcases h.2 with ⟨rfl, rfl⟩ | ⟨g, cap, cur, rfl, _, hg, _, _, _, htake⟩
  · have hl : l = [] := List.eq_nil_of_length_eq_zero hn
    subst hl
    exact run_convert_bytes_nil w 67 5 Tryz.underlying67 Tryz.underlying5 0 0 9 Tryz.underlying9
  · subst hn
    refine run_convert_bytes_back w 67 9 5 ⟨g, 0, none⟩ cap l Tryz.underlying67 Tryz.underlying5 Tryz.underlying9 ?_
    intro j hj
    exact h.cells (g := g) rfl j _ (by simp [Bw, List.getElem?_eq_getElem hj])
theorem Ad {w : World} {base base' : Nat} {e : TypeId} {sz : Nat} {v : Value} {n : Nat} {xs : List Value} (hb : base' ≤ base) (h : w.ownsRow base e sz v n xs) : w.ownsRow base' e sz v n xs := by
  refine ⟨h.1, ?_⟩
  rcases h.2 with h2 | ⟨g, cap, cur, hv, hg, r⟩
  · exact Or.inl h2
  · exact Or.inr ⟨g, cap, cur, hv, Nat.le_trans hb hg, r⟩
theorem Ao (n k : Nat) : (Af n k).length = k := Hz n k
theorem Cy {base : Nat} {w wr w1 : World} {v : Value} {e : TypeId} {sz n : Nat} {xs : List Value} (hbl : Below base w wr) (hb : base ≤ wr.heap.size) (hown : wr.ownsRow base e sz v n xs)
    (hg : wr.grownBy w1 v.ownBlock) : Below base w w1 :=
  hbl.grown hg hb (fun k hk => (hown.lt k hk).1)
theorem Fd (s : ByteArray) : Lib.strCells s = Bw s.data.toList := rfl
def BI (number : Nat) (slice : List UInt8) : List UInt8 := Af number 2 ++ slice
theorem Iq (a : List UInt8) (s : ByteArray) : str a ++ s = str (a ++ s.data.toList) := by
  apply ByteArray.ext
  simp [str]
theorem Jf (number : Nat) (s : ByteArray) (hn : number < 1000000) (hs : s.size ≤ 1000000) (w : World) :
    Calls Tryz.prog 102 #[.int .i64 (number : Int), .string s] w fun e w' => e = .returned (.string (str (BI number s.data.toList))) ∧ Below w.heap.size w w' := by
  go_enter Tryz.func102, Tryz.ntmps102
  go_wp2_with fail
  refine (AO _ 0 [] number 2 w.heap.size w (by omega) (by omega) (Nat.le_refl _) (World.ownsRow_nil _ _ _ _)).mono ?_
  rintro e w1 ⟨v', rfl, hown, hbl⟩
  have hc := Cd hown
  have hsz : (str (Af number 2)).size + s.size ≤ 9223372036854775807 := by rw [Ae, Ao]; omega
  go_wp2_with fail
  go_ret
  refine ⟨?_, hbl⟩
  show Ending.returned (.string (str (Af number 2) ++ s)) = _
  rw [Iq]
  rfl
def Ew (kind : UInt8) (set : Nat) (body : List UInt8) : List UInt8 := [83, 65, 76, kind] ++ Af set 8 ++ Af body.length 2 ++ body
def BD (kind : UInt8) (set : Nat) (body : List UInt8) : List UInt8 := Ew kind set body ++ Af (AC (Ew kind set body)) 8
theorem Fy (l : List UInt8) : AC l < P64 := by
  unfold AC
  have : ∀ (l : List UInt8) (h : Nat), h < P64 → l.foldl DG h < P64 := by
    intro l
    induction l with
    | nil => intro h hh; exact hh
    | cons c l ih => intro h _; exact ih _ (FZ _ _)
  exact this l _ (by decide)
theorem L8 (w : World) (o : Obj) : ∀ b, some (⟨w.heap.size, 0, none⟩ : Addr) = some b → ∀ j u, (Bw [83, 65, 76])[j]? = some u →
    ((w.alloc (.cells #[.int .u8 83, .int .u8 65, .int .u8 76] 5 (3, 4))).alloc o).cell? (b.add j) = some u := by
  intro b hb j u hu
  cases hb
  have hadd : (⟨w.heap.size, 0, none⟩ : Addr).add j = ⟨w.heap.size, j, none⟩ := by unfold Addr.add; split <;> simp_all
  rw [hadd]
  have h1 : ((w.alloc (.cells #[.int .u8 83, .int .u8 65, .int .u8 76] 5 (3, 4))).alloc o).heap[w.heap.size]? = some (.cells #[.int .u8 83, .int .u8 65, .int .u8 76] 5 (3, 4)) := by
    rw [Below.heap_alloc _ _ _ (by simp), heap_alloc_new]
  rw [cell_of_row _ w.heap.size j _ _ _ h1]
  rcases j with _ | _ | _ | j
  · simpa [Bw] using hu
  · simpa [Bw] using hu
  · simpa [Bw] using hu
  · simp [Bw] at hu
theorem PF (kind : UInt8) (set : Nat) (s : ByteArray) (hs : s.size ≤ 100000) (w : World) :
    Calls Tryz.prog 100 #[.int .u8 (kind.toNat : Int), .int .u64 (set : Int), .string s] w fun e w' => e = .returned (.string (str (BD kind set s.data.toList))) ∧ Below w.heap.size w w' := by
  obtain ⟨i0, hi, hz0, hz1, hz2⟩ := info_parts Tryz.info8
  have kc := fun (w : World) (C : Array Value) (n c : Nat) => Lib.run_convert_bytes_const (P := Tryz.prog) w 67 5 C n c Tryz.underlying67 Tryz.underlying5
  go_enter Tryz.func100, Tryz.ntmps100
  go_wp2_with (at_builtin; refine wpList_append_grows _ rfl (.tmp 9) (.tmp 11) 67 rfl 5 i0 (.int .u8 0) 1 1 Tryz.underlying67 hi hz0 hz1 hz2 rfl (by decide) (some ⟨w.heap.size, 0, none⟩) 3 3 (Bw [83, 65, 76]) rfl (by simp) rfl ?c1 ⟨w.heap.size + 1, 0, none⟩ 1 1 [.int .u8 (kind.toNat : Int)] rfl rfl ?c2 ?c3 (by omega) ?c4 (by omega) ?_)
  case c1 => exact L8 w _
  case c2 =>
    have := cell_one_new (w.alloc (.cells #[.int .u8 83, .int .u8 65, .int .u8 76] 5 (3, 4))) (.int .u8 (kind.toNat : Int)) 5
    simpa using this
  case c3 => intro u hu; simp at hu; subst hu; rfl
  case c4 => unfold maxLen; omega
  intro v1 w1 hown1 hg1
  have hb1 : Below w.heap.size w w1 := (((Below.refl _ w).alloc (Nat.le_refl _) _).alloc (by simp) _).grown hg1 (by simp; omega) (by simp)
  have hown1' : w1.ownsRow w.heap.size 5 1 v1 4 (Bw [83, 65, 76, kind]) := Ad (by omega) hown1
  clear hown1 hg1 kc
  have hsz1 := hb1.size
  go_wp2_with fail
  refine (AO v1 4 _ set 8 w.heap.size w1 (by omega) (by omega) (by omega) hown1').mono ?_
  rintro e w2 ⟨v2, rfl, hown2, hb2'⟩
  have hb2 := hb1.trans hb2'
  have hsz2 := hb2.size
  clear hown1' hb2' hb1 hsz1
  go_wp2_with fail
  refine (AO v2 12 _ s.size 2 w.heap.size w2 (by omega) (by omega) (by omega) hown2).mono ?_
  rintro e w3 ⟨v3, rfl, hown3, hb3'⟩
  have hb3 := hb2.trans hb3'
  have hsz3 := hb3.size
  clear hown2 hb3' hb2 hsz2
  go_wp2_with (at_builtin; refine Lib.wpList_append_own_string _ rfl (.tmp 21) (.tmp 22) 67 9 rfl w.heap.size 5 i0 Tryz.underlying67 Tryz.underlying9 hi hz0 hz1 hz2 v3 14 _ rfl hown3 s rfl ?c5 ?c6 ?c7 ?_)
  case c5 => unfold maxLen; omega
  case c6 => omega
  case c7 => omega
  intro v4 w4 hown4 hg4 _
  have hb4 := Cy hb3 hsz3 hown3 hg4
  rw [Fd, ← DL] at hown4
  have hsz4 := hb4.size
  have eh : [83, 65, 76, kind] ++ Af set 8 ++ Af s.size 2 ++ s.data.toList = Ew kind set s.data.toList := by
    unfold Ew
    rw [Array.length_toList]
    rfl
  have hown4' : w4.ownsRow w.heap.size 5 1 v4 (14 + s.size) (Bw (Ew kind set s.data.toList)) := by rw [← eh]; exact hown4
  clear hown4
  have hown4 := hown4'
  clear hown4' eh hown3 hg4 hb3 hsz3
  have hc4 := Cd hown4
  have hlen : (Ew kind set s.data.toList).length = 14 + s.size := by
    have := hown4.1
    simpa [Bw] using this
  have HL := Aa hlen
  clear hlen
  go_wp2_with fail
  refine (Ix (str (Ew kind set s.data.toList)) (by rw [Ae, HL.out]; omega) w4).mono ?_
  rintro e w5 ⟨rfl, rfl⟩
  rw [De]
  go_wp2_with fail
  refine (AO v4 (14 + s.size) _ (AC (Ew kind set s.data.toList)) 8 w.heap.size w5 (by omega) (by omega) (by omega) hown4).mono ?_
  rintro e w6 ⟨v6, rfl, hown6, hb6'⟩
  have hb6 := hb4.trans hb6'
  have hc6 := Cd hown6
  clear hown4 hown6 hb6' hb4 hc4
  go_wp2_with fail
  go_ret
  exact ⟨rfl, hb6⟩
theorem FR (l : List UInt8) (hl : l.length ≤ 1000000) (w : World) :
    Calls Tryz.prog 92 #[.string (str l)] w fun e w' => e = .returned (.int .u64 ((AC l : Nat) : Int)) ∧ w' = w := by
  have := Ix (str l) (by rw [Ae]; exact hl) w
  rw [De] at this
  exact this
theorem Me (number : Nat) (l : List UInt8) (hn : number < 1000000) (hl : l.length ≤ 1000000) (w : World) :
    Calls Tryz.prog 102 #[.int .i64 (number : Int), .string (str l)] w fun e w' => e = .returned (.string (str (BI number l))) ∧ Below w.heap.size w w' := by
  have := Jf number (str l) hn (by rw [Ae]; exact hl) w
  rw [De] at this
  exact this
theorem PU (kind : UInt8) (set : Nat) (l : List UInt8) (hl : l.length ≤ 100000) (w : World) :
    Calls Tryz.prog 100 #[.int .u8 (kind.toNat : Int), .int .u64 (set : Int), .string (str l)] w fun e w' => e = .returned (.string (str (BD kind set l))) ∧ Below w.heap.size w w' := by
  have := PF kind set (str l) (by rw [Ae]; exact hl) w
  rw [De] at this
  exact this
theorem PN (s : ByteArray) : s = str s.data.toList := by
  apply ByteArray.ext
  simp [str]
def Rd (w : World) (a : Option Addr) (xs : List Value) : Prop := ∀ k u, xs[k]? = some u → ∃ b off, a = some ⟨b, off, none⟩ ∧ w.cell? ⟨b, off + k, none⟩ = some u
theorem Rd.later {w w' : World} {a : Option Addr} {xs : List Value} (h : Rd w a xs) {B : Nat} (hB : w.heap.size ≤ B) (hb : Below B w w') : Rd w' a xs := by
  intro k u hk
  obtain ⟨b, off, rfl, hc⟩ := h k u hk
  refine ⟨b, off, rfl, ?_⟩
  rw [hb.cell (Nat.lt_of_lt_of_le (World.block_lt_of_cell? w _ hc) hB)]
  exact hc
theorem Aw {w : World} {base : Nat} {e : TypeId} {v : Value} {n : Nat} {xs : List Value} (h : w.ownsRow base e 1 v n xs) :
    ∃ a cap, v = .slice a n cap ∧ n ≤ cap ∧ cap ≤ maxLen ∧ Rd w a xs := by
  have hl : xs.length = n := by have := h.1; simpa using this
  rcases h.2 with ⟨rfl, rfl⟩ | ⟨g, cap, cur, rfl, _, hg, h1, h2, _, _⟩
  · have : xs = [] := List.eq_nil_of_length_eq_zero hl
    subst this
    exact ⟨none, 0, rfl, Nat.le_refl _, Nat.zero_le _, fun k u hk => by simp at hk⟩
  · refine ⟨_, cap, rfl, h1, h2, fun k u hk => ⟨g, 0, rfl, ?_⟩⟩
    have := h.cells (g := g) rfl k u hk
    have hadd : (⟨g, 0, none⟩ : Addr).add k = ⟨g, 0 + k, none⟩ := by unfold Addr.add; split <;> simp_all
    rw [hadd] at this
    exact this
theorem Ab {w w' : World} {base : Nat} {e : TypeId} {sz : Nat} {v : Value} {n : Nat} {xs : List Value} (h : w.ownsRow base e sz v n xs) {B : Nat} (hB : w.heap.size ≤ B) (hb : Below B w w') : w'.ownsRow base e sz v n xs := by
  refine ⟨h.1, ?_⟩
  rcases h.2 with h2 | ⟨g, cap, cur, hv, hg, hh, r⟩
  · exact Or.inl h2
  · exact Or.inr ⟨g, cap, cur, hv, hg, by rw [hb.block g (Nat.lt_of_lt_of_le (Array.getElem?_eq_some_iff.1 hh).1 hB)]; exact hh, r⟩
theorem Below.next {w w1 w2 : World} (h : Below w.heap.size w w1) (k : Below w1.heap.size w1 w2) : Below w.heap.size w w2 := h.trans (k.mono h.size)
end Go.Proofs.YtonjphollmdicaaGreatDoor
