import Derived.Test.YtonjphollmdicaaGreatDoorB00
import Derived.Test.YtonjphollmdicaaGreatDoorB02
import Derived.Test.YtonjphollmdicaaGreatDoorB05
import Derived.Deep.RegionWith
set_option maxRecDepth 100000
set_option maxHeartbeats 4000000
set_option linter.unusedSimpArgs false
namespace Go.Proofs.YtonjphollmdicaaGreatDoor
open Go.ChangeShapes Go.WideShapes Go.ChangeAt Go.RowKit
theorem Qz {a b k a' p' : Nat} (hk : k < 16) (hm : p' ^^^ Math.lin (Math.pows (16 - k) a') (b / 2 ^ k) = Math.mul a b) :
    (p' ^^^ (if (b / 2 ^ k) % 2 = 1 then a' else 0)) ^^^ Math.lin (Math.pows (16 - (k + 1)) (Math.X a')) (b / 2 ^ (k + 1)) = Math.mul a b := by
  have e : 16 - k = (16 - (k + 1)) + 1 := by omega
  rw [e, Nu, Nat.div_div_eq_div_mul, ← Nat.pow_succ] at hm
  exact hm
theorem RF (a : Nat) (ha : a < 65536) (h : 65535 < 2 * (a : Int)) : bits BinOp.xor IntKind.u32 (2 * (a : Int)) 69643 = ((Math.X a : Nat) : Int) := by
  have h1 : a / 32768 = 1 := by omega
  have e := u32_xor_nat (2 * a) 69643 (by omega) (by omega)
  rw [show (2 * (a : Int)) = ((2 * a : Nat) : Int) from by omega, show ((69643 : Int)) = ((69643 : Nat) : Int) from rfl, e]
  congr 1
  have hr : (2 * a) % 65536 < 2 ^ 16 := Nat.mod_lt _ (by omega)
  have e1 : 2 * a = 65536 ^^^ (2 * a) % 65536 := by
    have h2 : (2 ^ 16 * 1 ||| (2 * a) % 65536) = 65536 ^^^ (2 * a) % 65536 := by
      apply Nat.eq_of_testBit_eq
      intro i
      have hp : (65536 : Nat) = 2 ^ 16 := rfl
      rw [hp]
      simp only [Nat.testBit_or, Nat.testBit_xor, Nat.mul_one, Nat.testBit_two_pow]
      by_cases hi : 16 = i
      · subst hi
        rw [Nat.testBit_lt_two_pow hr]
        rfl
      · simp [hi]
    have h3 := Nat.two_pow_add_eq_or_of_lt hr 1
    omega
  have e2 : (69643 : Nat) = 65536 ^^^ 4107 := by decide
  unfold Math.X
  simp only [h1]
  rw [e2]
  conv => lhs; rw [e1]
  rw [Math.xor4]
  simp
theorem RB (a : Nat) (h : 2 * (a : Int) ≤ 65535) : 2 * (a : Int) = ((Math.X a : Nat) : Int) := by
  have h1 : a / 32768 = 0 := by omega
  unfold Math.X
  simp only [h1]
  simp
  omega
theorem LG (b k : Nat) : (((b : Int) / 2 ^ k).tmod 2 == 1) = decide ((b / 2 ^ k) % 2 = 1) := by
  have e : ((b : Int) / 2 ^ k) = ((b / 2 ^ k : Nat) : Int) := by simp
  rw [e, Int.tmod_eq_emod_of_nonneg (Int.natCast_nonneg _)]
  by_cases h : (b / 2 ^ k) % 2 = 1
  · simp only [h, decide_true]; simp only [beq_iff_eq]; omega
  · simp only [h, decide_false]; simp only [beq_eq_false_iff_ne]; omega
theorem CI (a b : Nat) (ha : a < 65536) (_hb : b < 65536) (w : World) :
    Calls Tryz.prog 53 #[.int .u16 (a : Int), .int .u16 (b : Int)] w fun e w' => e = .returned (.int .u16 ((Math.mul a b : Nat) : Int)) ∧ w' = w := by
  go_enter Tryz.func53, Tryz.ntmps53
  go_wp2
  go_loop [5, 6, 7] (fun x p i => ∃ k a' p' : Nat, k ≤ 16 ∧ a' < 65536 ∧ p' < 65536 ∧ Hid (p' ^^^ Math.lin (Math.pows (16 - k) a') (b / 2 ^ k) = Math.mul a b) ∧ x = .int .u32 (a' : Int) ∧ p = .int .u32 (p' : Int) ∧ i = .int .i64 (k : Int))
                    (fun _ _ i => 16 - (intOf i).toNat)
  case atStart => exact ⟨0, a, 0, by omega, ha, by omega, Aa (by simp [Math.mul]), by go_num, rfl, rfl⟩
  case round =>
    obtain ⟨k, a', p', hk, ha', hp', hm, rfl, rfl, rfl⟩ := hrel
    have hxor := u32_xor_nat p' a' (by omega) (by omega)
    have HX := Aa hxor
    clear hxor
    have hpx : p' ^^^ a' < 65536 := Nat.xor_lt_two_pow (n := 16) hp' ha'
    have fin : k < 16 → ∀ x q : Int, x = ((Math.X a' : Nat) : Int) → (((((b : Int) / 2 ^ k).tmod 2 == 1) = true ∧ q = bits BinOp.xor IntKind.u32 (p' : Int) (a' : Int)) ∨ ((((b : Int) / 2 ^ k).tmod 2 == 1) = false ∧ q = (p' : Int))) →
        ((∃ k1 a1 p1 : Nat, k1 ≤ 16 ∧ a1 < 65536 ∧ p1 < 65536 ∧ Hid (p1 ^^^ Math.lin (Math.pows (16 - k1) a1) (b / 2 ^ k1) = Math.mul a b) ∧ Value.int IntKind.u32 x = .int .u32 (a1 : Int) ∧ Value.int IntKind.u32 q = .int .u32 (p1 : Int) ∧ Value.int IntKind.i64 ((k : Int) + 1) = .int .i64 (k1 : Int)) ∧
        16 - (intOf (Value.int IntKind.i64 ((k : Int) + 1))).toNat < 16 - (intOf (Value.int IntKind.i64 (k : Int))).toNat) := by
      intro hk16 x q hx hq
      have hn := Qz hk16 hm.out
      refine ⟨⟨k + 1, Math.X a', p' ^^^ (if (b / 2 ^ k) % 2 = 1 then a' else 0), by omega, Math.X_lt a', ?_, Aa hn, by rw [hx], ?_, by go_num⟩, ?_⟩
      · split
        · exact hpx
        · simpa using hp'
      · rcases hq with ⟨h, rfl⟩ | ⟨h, rfl⟩
        · rw [LG] at h
          rw [if_pos (of_decide_eq_true h), HX.out]
        · rw [LG] at h
          rw [if_neg (of_decide_eq_false h), Nat.xor_zero]
      · simp [intOf]; omega
    have FIN := Aa fin
    clear fin
    go_wp2
    · exact FIN.out (by omega) _ _ (RF a' ha' (by assumption)) (Or.inl ⟨by assumption, rfl⟩)
    · exact FIN.out (by omega) _ _ (RB a' (by assumption)) (Or.inl ⟨by assumption, rfl⟩)
    · exact FIN.out (by omega) _ _ (RF a' ha' (by assumption)) (Or.inr ⟨by assumption, rfl⟩)
    · exact FIN.out (by omega) _ _ (RB a' (by assumption)) (Or.inr ⟨by assumption, rfl⟩)
    · have hk16 : k = 16 := by omega
      subst hk16
      have h := hm.out
      simp [Math.pows, Math.lin] at h
      subst h
      go_ret
      exact ⟨rfl, rfl⟩
theorem F9 (a b : Nat) (ha : a < 65536) (hb : b < 65536) (w : World) :
    Calls Tryz.prog 36 #[.int .u16 (a : Int), .int .u16 (b : Int)] w fun e w' => e = .returned (.int .u16 ((Math.mul a b : Nat) : Int)) ∧ w' = w := by
  go_enter Tryz.func36, Tryz.ntmps36
  go_wp2_with (go_at_call 60; refine (CG a b ha hb w).mono ?_; rintro e w' ⟨rfl, rfl⟩)
  go_ret
  exact ⟨rfl, rfl⟩
def Eo (w : World) (base B : Nat) (M : Nat → List Int) (e : Ending) (w' : World) : Prop :=
 e = .returned (.bool true) ∧ Below base w w' ∧ ∃ rs' T' M', BookI w' base B (· < w'.heap.size) rs' T' M' ∧ ∀ j, (M' j).length ≤ (M j).length + 4
section
variable {w w' W : World} {base B : Nat} {rs : Nat → Value} {T : Nat → List Value} {M : Nat → List Int}
theorem BookI.step_same (h : BookI w base B (· < w.heap.size) rs T M) (hb : Below w.heap.size w w') : Eo w base B M (.returned (.bool true)) w' :=
 ⟨rfl, hb.mono h.bas, rs, T, M, (h.later (fun _ hk => hk) hb).mono (fun _ hk => Nat.lt_of_lt_of_le hk hb.size) (fun _ hk => hk), fun _ => Nat.le_add_right _ _⟩
theorem Blk.same {K : Nat} {vs : List Value} (h : Blk w K vs) (e : w'.heap[K]? = w.heap[K]?) : Blk w' K vs := fun k u hk => by
 have h1 := h k u hk
 exact ⟨by rw [World.cell?_of_block (w := w) (a := ⟨K, k, none⟩) e]; exact h1.1, by rw [World.frozen?_of_block (w := w) (a := ⟨K, k, none⟩) e]; exact h1.2⟩
theorem NZ (h : BookI w base B (· < w.heap.size) rs T M) (a b : Nat) (ha : a < 65536) (hb : b < 65536) (u3 u4 u5 u6 u7 u8 : Value) :
  Calls Tryz.prog 34 #[.pointer (some ⟨B, 0, none⟩), .agg #[.int .i64 1, .int .u16 (a : Int), .int .u16 (b : Int), u3, u4, u5, u6, u7, u8]] w (Eo w base B M) := by
 have H := Aa h
 clear h
 go_enter Tryz.func34, Tryz.ntmps34
 go_wp2_with fail
 have HB := Aa (show Below w.heap.size w (w.alloc (.cells #[.int .i64 1, .int .u16 (a : Int), .int .u16 (b : Int), u3, u4, u5, u6, u7, u8] 82)) from (Below.refl _ _).alloc (Nat.le_refl _) _)
 refine (F9 a b ha hb _).mono ?_
 rintro e w' ⟨rfl, rfl⟩
 go_wp2_with fail
 refine (CI a b ha hb _).mono ?_
 rintro e w' ⟨rfl, rfl⟩
 go_wp2_with fail
 go_ret
 exact H.out.step_same HB.out
theorem Pf (h : BookI w base B (· < w.heap.size) rs T M) (kd : Int) (k1 : kd ≠ 1) (k2 : kd ≠ 2) (k3 : kd ≠ 3) (k4 : kd ≠ 4) (u1 u2 u3 u4 u5 u6 u7 u8 : Value) :
  Calls Tryz.prog 34 #[.pointer (some ⟨B, 0, none⟩), .agg #[.int .i64 kd, u1, u2, u3, u4, u5, u6, u7, u8]] w (Eo w base B M) := by
 have H := Aa h
 clear h
 have e1 : (kd == 1) = false := by simp [k1]
 have e2 : (kd == 2) = false := by simp [k2]
 have e3 : (kd == 3) = false := by simp [k3]
 have e4 : (kd == 4) = false := by simp [k4]
 have HB := Aa (show Below w.heap.size w (w.alloc (.cells #[.int .i64 kd, u1, u2, u3, u4, u5, u6, u7, u8] 82)) from (Below.refl _ _).alloc (Nat.le_refl _) _)
 go_enter Tryz.func34, Tryz.ntmps34
 go_wp2_with fail
 go_ret
 exact H.out.step_same HB.out
end
def Cq (pts : List Nat) (i : Nat) (p k : Nat) : Nat := if k = i then p else Math.mul p (pts.getD i 0 ^^^ pts.getD k 0)
def Mf (pts : List Nat) (i : Nat) : Nat := (List.range pts.length).foldl (Cq pts i) 1
theorem DI {a b : Nat} (ha : a < 65536) (hb : b < 65536) : a ^^^ b < 65536 := Nat.xor_lt_two_pow (n := 16) ha hb
theorem AO {l : List Nat} (h : ∀ x ∈ l, x < 65536) (i : Nat) : l.getD i 0 < 65536 := by
 rw [List.getD_eq_getElem?_getD]
 rcases Nat.lt_or_ge i l.length with hi | hi
 ·rw [List.getElem?_eq_getElem hi]; exact h _ (List.getElem_mem hi)
 ·rw [List.getElem?_eq_none hi]; decide
theorem MP {pts : List Nat} {i p k : Nat} (hp : p < 65536) : Cq pts i p k < 65536 := by
 unfold Cq
 split
 ·exact hp
 ·exact Math.mul_lt hp _
theorem JY {α : Type} (f : Nat → α → Nat) (hf : ∀ p k, p < 65536 → f p k < 65536) (l : List α) : ∀ p, p < 65536 → l.foldl f p < 65536 := by
 induction l with
 | nil => intro p hp; exact hp
 | cons x l ih => intro p hp; exact ih _ (hf _ _ hp)
theorem Nh (pts : List Nat) (i : Nat) : Mf pts i < 65536 := JY _ (fun _ _ h => MP h) _ _ (by decide)
theorem Dr {r : List Nat} {w : World} {a : Option Addr} (h : Rd w a (A8 r)) (k : Nat) (hk : k < r.length) : ∃ b off, a = some ⟨b, off, none⟩ ∧ w.cell? ⟨b, off + k, none⟩ = some (.int .u16 ((r.getD k 0 : Nat) : Int)) := by
 refine h k _ ?_
 simp [A8, hk]
theorem Ho (pts : List Nat) (i : Nat) (a : Option Addr) (cap : Nat) (hn : pts.length ≤ 1000) (hi : i < pts.length) (hp : ∀ x ∈ pts, x < 65536) (w : World) (hrd : Rd w a (A8 pts)) :
  Calls Tryz.prog 138 #[.slice a pts.length cap, .int .i64 (i : Int)] w fun e w' => e = .returned (.int .u16 ((Mf pts i : Nat) : Int)) ∧ w' = w := by
 obtain ⟨b, off, rfl, hci⟩ := Dr hrd i hi
 have hpi := AO hp i
 obtain ⟨pi, hpie⟩ : ∃ x, x = pts.getD i 0 := ⟨_, rfl⟩
 rw [← hpie] at hci hpi
 have HPI := Aa hpie
 clear hpie
 go_enter Tryz.func138, Tryz.ntmps138
 go_wp2
 go_loop [5, 6, 7, 10] (fun p _ _ j => ∃ k p' : Nat, k ≤ pts.length ∧ p' < 65536 ∧ p = .int .u16 (p' : Int) ∧ j = .int .i64 (k : Int) ∧ Hid (p' = (List.range k).foldl (Cq pts i) 1))
  (fun _ _ _ j => pts.length - (intOf j).toNat)
 case atStart => exact ⟨0, 1, by omega, by omega, rfl, rfl, Aa rfl⟩
 case round =>
  obtain ⟨k, p', hk, hp', rfl, rfl, hd⟩ := hrel
  by_cases hlt : k < pts.length
  ·obtain ⟨b', off', e, hck⟩ := Dr hrd k hlt
   cases e
   have hpk := AO hp k
   obtain ⟨pk, hpke⟩ : ∃ x, x = pts.getD k 0 := ⟨_, rfl⟩
   rw [← hpke] at hck hpk
   have HPK := Aa hpke
   clear hpke
   have hx := ON pi pk hpi hpk
   have hnext : Cq pts i p' k = (List.range (k + 1)).foldl (Cq pts i) 1 := by
    rw [List.range_succ, List.foldl_append, ← hd.out]; rfl
   have HN := Aa hnext
   clear hnext
   by_cases hki : k = i
   ·have e1 : ((k : Int) == (i : Int)) = true := by simp; omega
    have e2 : ((k : Int) != (i : Int)) = false := by simp; omega
    have h3 : Cq pts i p' k = p' := by unfold Cq; rw [if_pos hki]
    have H3 := Aa h3
    have HK := Aa hki
    clear h3 hki
    go_wp2_with fail
    refine ⟨⟨k + 1, p', by omega, hp', rfl, by go_num, Aa ?_⟩, by simp [intOf]; omega⟩
    rw [← HN.out, H3.out]
   ·have e2 : ((k : Int) != (i : Int)) = true := by simp; omega
    have h3 : Cq pts i p' k = Math.mul p' (pi ^^^ pk) := by unfold Cq; rw [if_neg hki, ← HPI.out, ← HPK.out]
    have H3 := Aa h3
    have HK := Aa hki
    clear h3 hki
    go_wp2_with fail
    refine (CG p' (pi ^^^ pk) hp' (DI hpi hpk) _).mono ?_
    rintro e w' ⟨rfl, rfl⟩
    go_wp2_with fail
    refine ⟨⟨k + 1, Math.mul p' (pi ^^^ pk), by omega, Math.mul_lt hp' _, rfl, by go_num, Aa ?_⟩, by simp [intOf]; omega⟩
    rw [← HN.out, H3.out]
  ·obtain rfl : k = pts.length := by omega
   go_wp2
   go_ret
   refine ⟨?_, rfl⟩
   have := hd.out
   rw [this]
   rfl
def Eg (pts : List Nat) (t i : Nat) : Nat := (pts.take i).foldl (fun a p => Math.mul a (t ^^^ p)) 1
def Dq (pts : List Nat) (t i : Nat) : Nat := (pts.drop i).foldr (fun p a => Math.mul a (t ^^^ p)) 1
def B9 (pts ss : List Nat) (t i : Nat) : Nat := Math.mul (ss.getD i 0) (Eg pts t i)
def CB (pts ss : List Nat) (t i : Nat) : Nat := Math.mul (B9 pts ss t i) (Dq pts t (i + 1))
def Bb (pts ss : List Nat) (t : Nat) : List Nat := (List.range pts.length).map (CB pts ss t)
def Bx (n k : Nat) (f g : Nat → Nat) : List Nat := (List.range n).map fun j => if j < k then f j else g j
theorem Bu (n k : Nat) (f g : Nat → Nat) : (Bx n k f g).length = n := by simp [Bx]
theorem EA (n k : Nat) (f g : Nat → Nat) (j : Nat) (h : j < n) : (Bx n k f g).getD j 0 = if j < k then f j else g j := by
 simp [Bx, h]
theorem FA (n k : Nat) (f g : Nat → Nat) : (Bx n k f g).set k (f k) = Bx n (k + 1) f g := by
 apply List.ext_getElem
 ·simp [Bx]
 ·intro j h1 h2
  simp only [Bx, List.getElem_set, List.getElem_map, List.getElem_range]
  by_cases hj : k = j
  ·subst hj; simp
  ·rw [if_neg hj]
   by_cases hl : j < k
   ·rw [if_pos hl, if_pos (by omega)]
   ·rw [if_neg hl, if_neg (by omega)]
theorem NQ (n k : Nat) (f g : Nat → Nat) : (Bx n (k + 1) f g).set k (g k) = Bx n k f g := by
 apply List.ext_getElem
 ·simp [Bx]
 ·intro j h1 h2
  simp only [Bx, List.getElem_set, List.getElem_map, List.getElem_range]
  by_cases hj : k = j
  ·subst hj; simp
  ·rw [if_neg hj]
   by_cases hl : j < k
   ·rw [if_pos hl, if_pos (by omega)]
   ·rw [if_neg hl, if_neg (by omega)]
theorem Dn (n : Nat) (f g : Nat → Nat) : Bx n 0 f g = (List.range n).map g := by simp [Bx]
theorem Do (n : Nat) (f g : Nat → Nat) : Bx n n f g = (List.range n).map f := by
 apply List.map_congr_left
 intro j hj
 rw [if_pos (by simpa using hj)]
theorem Ol (l : List Nat) : (List.range l.length).map (fun j => l.getD j 0) = l := by
 apply List.ext_getElem
 ·simp
 ·intro j h1 h2
  simp [List.getElem?_eq_getElem h2]
theorem Ph (pts : List Nat) (t i : Nat) : Eg pts t i < 65536 := JY _ (fun _ _ h => Math.mul_lt h _) _ _ (by decide)
theorem Mu (pts : List Nat) (t i : Nat) (h : i < pts.length) : Eg pts t (i + 1) = Math.mul (Eg pts t i) (t ^^^ pts.getD i 0) := by
 unfold Eg
 rw [Ao pts i h, List.foldl_append]
 simp [List.getElem?_eq_getElem h]
theorem NV (pts : List Nat) (t i : Nat) : Dq pts t i < 65536 := by
 unfold Dq
 induction pts.drop i with
 | nil => exact (by decide : (1 : Nat) < 65536)
 | cons x l ih => exact Math.mul_lt ih _
theorem Ln (pts : List Nat) (t i : Nat) (h : i < pts.length) : Dq pts t i = Math.mul (Dq pts t (i + 1)) (t ^^^ pts.getD i 0) := by
 unfold Dq
 rw [List.drop_eq_getElem_cons h, List.foldr_cons]
 simp [List.getElem?_eq_getElem h]
theorem Ma (pts : List Nat) (t : Nat) : Dq pts t pts.length = 1 := by simp [Dq]
theorem GV (pts ss : List Nat) (t : Nat) (a1 a2 : Option Addr) (c1 c2 : Nat) (hn : pts.length ≤ 1000) (h0 : 0 < pts.length) (hss : ss.length = pts.length) (hp : ∀ x ∈ pts, x < 65536) (hs : ∀ x ∈ ss, x < 65536) (ht : t < 65536)
  (w : World) (hrd1 : Rd w a1 (A8 pts)) (hrd2 : Rd w a2 (A8 ss)) :
  Calls Tryz.prog 120 #[.agg #[.slice a1 pts.length c1, .slice a2 pts.length c2], .int .u16 (t : Int)] w fun e w' => ∃ v', e = .returned v' ∧ w'.ownsRow w.heap.size 80 1 v' pts.length (A8 (Bb pts ss t)) ∧ Below w.heap.size w w' := by
 obtain ⟨i0, hi, hz0, hz1, hz2⟩ := info_parts Tryz.info16
 obtain ⟨b2, off2, rfl, hc20⟩ := Dr hrd2 0 (by omega)
 have hlow : Below w.heap.size w (w.alloc (.cells #[.slice a1 pts.length c1, .slice (some ⟨b2, off2, none⟩) pts.length c2] 201)) := (Below.refl _ _).alloc (Nat.le_refl _) _
 have hbox : (w.alloc (.cells #[.slice a1 pts.length c1, .slice (some ⟨b2, off2, none⟩) pts.length c2] 201)).cell? ⟨w.heap.size, 0, none⟩ = some (.slice a1 pts.length c1) := by simp
 obtain ⟨W0, hW0⟩ : ∃ W0, W0 = w.alloc (.cells #[.slice a1 pts.length c1, .slice (some ⟨b2, off2, none⟩) pts.length c2] 201) := ⟨_, rfl⟩
 rw [← hW0] at hlow hbox
 have hs0 : W0.heap.size = w.heap.size + 1 := by rw [hW0]; simp
 have HW := Aa hW0
 have HB := Aa hbox
 have HS := Aa hs0
 clear hbox hs0
 have hnews : ∀ j u, (A8 ss)[j]? = some u → (W0.alloc (.cells #[] 80)).cell? ((⟨b2, off2, none⟩ : Addr).add j) = some u := by
  intro j u hj
  obtain ⟨b', off', e, hc⟩ := (hrd2.later (Nat.le_refl _) (hlow.alloc (by rw [HS.out]; omega) (.cells #[] 80))) j u hj
  cases e
  have hadd : (⟨b2, off2, none⟩ : Addr).add j = ⟨b2, off2 + j, none⟩ := by unfold Addr.add; split <;> simp_all
  rw [hadd]
  exact hc
 have HNEWS := Aa hnews
 have HRD2 := Aa hrd2
 clear hnews hrd2 hc20
 rw [hW0] at HNEWS
 clear hW0
 go_enter Tryz.func120, Tryz.ntmps120
 go_wp2_with (at_builtin; refine wpList_append_grows _ rfl (.tmp 10) (.tmp 12) 121 rfl 80 i0 (.int .u16 0) 1 2 Tryz.underlying121 hi hz0 hz1 hz2 rfl (by decide) (some ⟨w.heap.size + 1, 0, none⟩) 0 0 [] rfl (by simp) rfl ?c1 ⟨b2, off2, none⟩ pts.length c2 (A8 ss) rfl ?c2 ?c3 ?c4 ?c5 ?c6 ?c7 ?_)
 case c1 => intro b _ j u hu; simp at hu
 case c2 => simp [A8, hss]
 case c3 => exact HNEWS.out
 case c4 => intro u hu; simp only [A8, List.mem_map] at hu; obtain ⟨c, _, rfl⟩ := hu; rfl
 case c5 => omega
 case c6 => unfold maxLen; omega
 case c7 => omega
 intro v1 w1 hown1 hg1
 rw [← HW.out] at hg1
 have hb1 : Below (w.heap.size + 1) W0 w1 := ((Below.refl _ W0).alloc (by rw [HS.out]; omega) _).grown hg1 (by simp; rw [HS.out]; omega) (by simp)
 have hown1' : w1.ownsRow (w.heap.size + 1) 80 1 v1 pts.length (A8 ss) := by
  have := Ad (base' := w.heap.size + 1) (by omega) hown1
  simpa using this
 obtain ⟨g, cap', hv, hgb⟩ : ∃ g cap', v1 = .slice (some ⟨g, 0, none⟩) pts.length cap' ∧ w.heap.size + 1 ≤ g := by
  rcases hown1'.2 with ⟨_, h⟩ | ⟨g, cap', cur, hv, hgb, _⟩
  ·omega
  ·exact ⟨g, cap', hv, hgb⟩
 rw [hv] at hown1' ⊢
 clear hown1 hg1 HNEWS hv
 have hfirst : A8 ss = A8 (Bx pts.length 0 (B9 pts ss t) (fun j => ss.getD j 0)) := by rw [Dn, ← hss, Ol]
 rw [hfirst] at hown1'
 have HA0 := Aa hown1'
 clear hfirst hown1'
 go_wp2_with fail
 go_loopw [6, 7, 16] (fun x _ i wr => ∃ k : Nat, k ≤ pts.length ∧ i = .int .i64 (k : Int) ∧ x = .int .u16 ((Eg pts t k : Nat) : Int) ∧ wr.ownsRow (w.heap.size + 1) 80 1 (.slice (some ⟨g, 0, none⟩) pts.length cap') pts.length (A8 (Bx pts.length k (B9 pts ss t) (fun j => ss.getD j 0))) ∧ Below (w.heap.size + 1) W0 wr)
  (fun _ _ i _ => pts.length - (intOf i).toNat)
 case atStart => exact ⟨0, by omega, rfl, rfl, HA0.out, hb1⟩
 case round =>
  clear HA0 hb1
  obtain ⟨k, hk, rfl, rfl, hownr, hbl⟩ := hrel
  by_cases hlt : k < pts.length
  ·obtain ⟨b1, off1, rfl, hp0⟩ := Dr hrd1 k hlt
   have hpb := World.block_lt_of_cell? w _ hp0
   have hcp0 : wr.cell? ⟨b1, off1 + k, none⟩ = some (.int .u16 ((pts.getD k 0 : Nat) : Int)) := by
    rw [(hlow.trans (hbl.mono (by omega))).cell hpb]; exact hp0
   have hbx0 : wr.cell? ⟨w.heap.size, 0, none⟩ = some (.slice (some ⟨b1, off1, none⟩) pts.length c1) := by rw [hbl.cell (by simp)]; exact HB.out
   have hck0 : wr.cell? ⟨g, k, none⟩ = some (.int .u16 ((ss.getD k 0 : Nat) : Int)) := by
    rw [hownr.cellAt k (by omega)]
    have := EA pts.length k (B9 pts ss t) (fun j => ss.getD j 0) k hlt
    rw [if_neg (by omega)] at this
    rw [← this]
    simp [A8, Bu, hlt]
   have hfz := hownr.frozenAt k
   have hst := (hownr.stored k (.int .u16 ((B9 pts ss t k : Nat) : Int))).1
   have hown' : (wr.setCell ⟨g, k, none⟩ (.int .u16 ((B9 pts ss t k : Nat) : Int))).ownsRow (w.heap.size + 1) 80 1 (.slice (some ⟨g, 0, none⟩) pts.length cap') pts.length (A8 (Bx pts.length (k + 1) (B9 pts ss t) (fun j => ss.getD j 0))) := by
    rw [← FA]
    have e : A8 ((Bx pts.length k (B9 pts ss t) (fun j => ss.getD j 0)).set k (B9 pts ss t k)) = (A8 (Bx pts.length k (B9 pts ss t) (fun j => ss.getD j 0))).set k (.int .u16 ((B9 pts ss t k : Nat) : Int)) := by simp [A8, List.map_set]
    rw [e]; exact hst
   have hB' := hbl.setCell (p := ⟨g, k, none⟩) hgb (.int .u16 ((B9 pts ss t k : Nat) : Int))
   have hbx1 : (wr.setCell ⟨g, k, none⟩ (.int .u16 ((B9 pts ss t k : Nat) : Int))).cell? ⟨w.heap.size, 0, none⟩ = some (.slice (some ⟨b1, off1, none⟩) pts.length c1) := by
    rw [hB'.cell (by simp)]; exact HB.out
   have hcp1 : (wr.setCell ⟨g, k, none⟩ (.int .u16 ((B9 pts ss t k : Nat) : Int))).cell? ⟨b1, off1 + k, none⟩ = some (.int .u16 ((pts.getD k 0 : Nat) : Int)) := by
    rw [(hlow.trans (hB'.mono (by omega))).cell hpb]; exact hp0
   have hsucc := Mu pts t k hlt
   have hal := Ph pts t k
   have hsl := AO hs k
   have hpl := AO hp k
   have hfe : B9 pts ss t k = Math.mul (ss.getD k 0) (Eg pts t k) := rfl
   have HO := Aa hown'
   have HBB := Aa hB'
   have HR1 := Aa hrd1
   rw [hfe] at hbx1 hcp1 HO HBB
   rw [← hfe] at HO HBB
   clear hst hown' hB' hownr hp0 hrd1
   obtain ⟨pk, hpk⟩ : ∃ x, x = pts.getD k 0 := ⟨_, rfl⟩
   obtain ⟨sk, hsk⟩ : ∃ x, x = ss.getD k 0 := ⟨_, rfl⟩
   obtain ⟨ak, hak⟩ : ∃ x, x = Eg pts t k := ⟨_, rfl⟩
   rw [← hpk] at hcp0 hcp1 hpl hsucc
   rw [← hsk] at hck0 hsl hbx1 hcp1 hfe
   rw [← hak] at hal hsucc hbx1 hcp1 hfe ⊢
   have hx := ON t pk ht hpl
   have HF := Aa hfe
   have HSU := Aa hsucc
   clear hpk hsk hak hfe hsucc
   go_wp2_with fail
   refine (CG sk ak hsl hal _).mono ?_
   rintro e w' ⟨rfl, rfl⟩
   go_wp2_with fail
   refine (CG ak (t ^^^ pk) hal (DI ht hpl) _).mono ?_
   rintro e w'' ⟨rfl, rfl⟩
   go_wp2_with fail
   rw [← HSU.out, ← HF.out]
   go_roundw
   case rel => exact ⟨k + 1, by omega, by go_num, rfl, HO.out, HBB.out⟩
   case measure => simp [intOf]; omega
  ·obtain rfl : k = pts.length := by omega
   have hpart : Bx pts.length pts.length (B9 pts ss t) (fun j => ss.getD j 0) = Bx pts.length pts.length (B9 pts ss t) (CB pts ss t) := by rw [Do, Do]
   rw [hpart] at hownr
   have HA1 := Aa hownr
   clear hownr hpart
   obtain ⟨an, han⟩ : ∃ x, x = Eg pts t pts.length := ⟨_, rfl⟩
   rw [← han]
   clear han
   go_wp2_with fail
   have hb2 := hbl
   go_loopw [8, 9] (fun x i wr => ∃ k : Nat, k ≤ pts.length ∧ i = .int .i64 ((k : Int) - 1) ∧ x = .int .u16 ((Dq pts t k : Nat) : Int) ∧ wr.ownsRow (w.heap.size + 1) 80 1 (.slice (some ⟨g, 0, none⟩) pts.length cap') pts.length (A8 (Bx pts.length k (B9 pts ss t) (CB pts ss t))) ∧ Below (w.heap.size + 1) W0 wr)
    (fun _ i _ => (intOf i + 1).toNat)
   case atStart => exact ⟨pts.length, by omega, by go_num, by rw [Ma]; rfl, HA1.out, hb2⟩
   case round =>
    clear HA1 hb2 hbl
    obtain ⟨k, hk, rfl, rfl, hownr, hbl⟩ := hrel
    by_cases hlt : 0 < k
    ·obtain ⟨m, rfl⟩ : ∃ m, k = m + 1 := ⟨k - 1, by omega⟩
     have hml : m < pts.length := by omega
     obtain ⟨b1, off1, rfl, hp0⟩ := Dr hrd1 m hml
     have hpb := World.block_lt_of_cell? w _ hp0
     have hck0 : wr.cell? ⟨g, m, none⟩ = some (.int .u16 ((B9 pts ss t m : Nat) : Int)) := by
      rw [hownr.cellAt m (by omega)]
      have := EA pts.length (m + 1) (B9 pts ss t) (CB pts ss t) m hml
      rw [if_pos (by omega)] at this
      rw [← this]
      simp [A8, Bu, hml]
     have hfz := hownr.frozenAt m
     have hst := (hownr.stored m (.int .u16 ((CB pts ss t m : Nat) : Int))).1
     have hown' : (wr.setCell ⟨g, m, none⟩ (.int .u16 ((CB pts ss t m : Nat) : Int))).ownsRow (w.heap.size + 1) 80 1 (.slice (some ⟨g, 0, none⟩) pts.length cap') pts.length (A8 (Bx pts.length m (B9 pts ss t) (CB pts ss t))) := by
      rw [← NQ]
      have e : A8 ((Bx pts.length (m + 1) (B9 pts ss t) (CB pts ss t)).set m (CB pts ss t m)) = (A8 (Bx pts.length (m + 1) (B9 pts ss t) (CB pts ss t))).set m (.int .u16 ((CB pts ss t m : Nat) : Int)) := by simp [A8, List.map_set]
      rw [e]; exact hst
     have hB' := hbl.setCell (p := ⟨g, m, none⟩) hgb (.int .u16 ((CB pts ss t m : Nat) : Int))
     have hbx1 : (wr.setCell ⟨g, m, none⟩ (.int .u16 ((CB pts ss t m : Nat) : Int))).cell? ⟨w.heap.size, 0, none⟩ = some (.slice (some ⟨b1, off1, none⟩) pts.length c1) := by
      rw [hB'.cell (by simp)]; exact HB.out
     have hcp1 : (wr.setCell ⟨g, m, none⟩ (.int .u16 ((CB pts ss t m : Nat) : Int))).cell? ⟨b1, off1 + m, none⟩ = some (.int .u16 ((pts.getD m 0 : Nat) : Int)) := by
      rw [(hlow.trans (hB'.mono (by omega))).cell hpb]; exact hp0
     have hsucc := Ln pts t m hml
     have hal := NV pts t (m + 1)
     have hfl : B9 pts ss t m < 65536 := Math.mul_lt (AO hs m) _
     have hpl := AO hp m
     have hfe : CB pts ss t m = Math.mul (B9 pts ss t m) (Dq pts t (m + 1)) := rfl
     have HO := Aa hown'
     have HBB := Aa hB'
     have HR1 := Aa hrd1
     rw [hfe] at hbx1 hcp1
     clear hst hown' hB' hownr hp0 hrd1
     obtain ⟨pk, hpk⟩ : ∃ x, x = pts.getD m 0 := ⟨_, rfl⟩
     obtain ⟨sk, hsk⟩ : ∃ x, x = B9 pts ss t m := ⟨_, rfl⟩
     obtain ⟨ak, hak⟩ : ∃ x, x = Dq pts t (m + 1) := ⟨_, rfl⟩
     rw [← hpk] at hcp1 hpl hsucc
     rw [← hsk] at hck0 hfl hbx1 hcp1 hfe
     rw [← hak] at hal hsucc hbx1 hcp1 hfe ⊢
     have hx := ON t pk ht hpl
     have HF := Aa hfe
     have HSU := Aa hsucc
     clear hpk hsk hak hfe hsucc
     go_wp2_with fail
     refine (CG sk ak hfl hal _).mono ?_
     rintro e w' ⟨rfl, rfl⟩
     go_wp2_with fail
     refine (CG ak (t ^^^ pk) hal (DI ht hpl) _).mono ?_
     rintro e w'' ⟨rfl, rfl⟩
     go_wp2_with fail
     rw [← HSU.out, ← HF.out]
     go_roundw
     case rel => exact ⟨m, by omega, by go_num, rfl, HO.out, HBB.out⟩
     case measure => simp [intOf]
    ·obtain rfl : k = 0 := by omega
     have hres : wr.ownsRow w.heap.size 80 1 (.slice (some ⟨g, 0, none⟩) pts.length cap') pts.length (A8 (Bb pts ss t)) := by
      rw [Dn] at hownr
      exact Ad (by omega) hownr
     have hfin := hlow.trans (hbl.mono (by omega))
     obtain ⟨bn, hbn⟩ : ∃ x, x = Dq pts t 0 := ⟨_, rfl⟩
     rw [← hbn]
     clear hbn hownr
     go_wp2_with fail
     go_ret
     exact ⟨_, rfl, hres, hfin⟩
def RdRows (w : World) (a : Option Addr) (rows : List (List Nat)) : Prop :=
 ∀ k r, rows[k]? = some r → ∃ b off a' cap', a = some ⟨b, off, none⟩ ∧ w.cell? ⟨b, off + k, none⟩ = some (.slice a' r.length cap') ∧ Rd w a' (A8 r)
theorem RdRows.later {w w' : World} {a : Option Addr} {rows : List (List Nat)} (h : RdRows w a rows) {B : Nat} (hB : w.heap.size ≤ B) (hb : Below B w w') : RdRows w' a rows := by
 intro k r hk
 obtain ⟨b, off, a', cap', rfl, hc, hr⟩ := h k r hk
 refine ⟨b, off, a', cap', rfl, ?_, hr.later hB hb⟩
 rw [hb.cell (Nat.lt_of_lt_of_le (World.block_lt_of_cell? w _ hc) hB)]
 exact hc
def FH (rows : List (List Nat)) (ws : List Nat) (k p : Nat) : Nat := (List.range k).foldl (fun acc j => acc ^^^ Math.mul (ws.getD j 0) ((rows.getD j []).getD p 0)) 0
def Jx (rows : List (List Nat)) (ws : List Nat) (width : Nat) : List Nat := (List.range width).map (FH rows ws rows.length)
theorem Lq (rows : List (List Nat)) (ws : List Nat) (k p : Nat) : FH rows ws (k + 1) p = FH rows ws k p ^^^ Math.mul (ws.getD k 0) ((rows.getD k []).getD p 0) := by
 unfold FH
 rw [List.range_succ, List.foldl_append]
 rfl
theorem Kb {rows : List (List Nat)} {ws : List Nat} (hw : ∀ x ∈ ws, x < 65536) (k p : Nat) : FH rows ws k p < 65536 := by
 unfold FH
 exact JY _ (fun _ _ h => DI h (Math.mul_lt (AO hw _) _)) _ _ (by decide)
theorem Nl (rows : List (List Nat)) (ws : List Nat) (width : Nat) (a1 a2 : Option Addr) (c1 c2 : Nat) (hn : rows.length ≤ 1000) (hws : ws.length = rows.length) (hwd : width ≤ 1000) (hr : ∀ r ∈ rows, r.length = width ∧ ∀ x ∈ r, x < 65536) (hw : ∀ x ∈ ws, x < 65536)
  (w : World) (hrd1 : RdRows w a1 rows) (hrd2 : Rd w a2 (A8 ws)) :
  Calls Tryz.prog 121 #[.slice a1 rows.length c1, .slice a2 rows.length c2, .int .i64 (width : Int)] w fun e w' => ∃ v', e = .returned v' ∧ w'.ownsRow w.heap.size 80 1 v' width (A8 (Jx rows ws width)) ∧ Below w.heap.size w w' := by
 obtain ⟨i0, hi, hz0, hz1, hz2⟩ := info_parts Tryz.info16
 go_enter Tryz.func121, Tryz.ntmps121
 go_wp2_with (at_make; refine wpList_make_full _ rfl _ _ 167 rfl w.heap.size 80 i0 (.int .u16 0) 1 Tryz.underlying167 hi hz0 hz1 .i64 .i64 _ _ width rfl rfl rfl rfl ?c1 ?c2 (Nat.le_refl _) ?_)
 case c1 => rw [hz2]; omega
 case c2 => unfold maxLen; omega
 intro w1 hown1 hg1
 have hb1 : Below w.heap.size w w1 := (Below.refl _ w).grown hg1 (Nat.le_refl _) (by simp)
 have hown1' : w1.ownsRow w.heap.size 80 1 (.slice (some ⟨w.heap.size, 0, none⟩) width width) width (A8 ((List.range width).map (FH rows ws 0))) := by
  have e : (List.range width).map (FH rows ws 0) = List.replicate width 0 := by
   apply List.ext_getElem
   ·simp
   ·intro j h1 h2; simp [FH]
  rw [e]
  simpa [A8, toList_madeCells_one] using hown1
 clear hg1 hown1
 go_wp2_with fail
 go_loopw [8, 9, 10, 15] (fun _ _ _ i wr => ∃ k : Nat, k ≤ rows.length ∧ i = .int .i64 (k : Int) ∧ wr.ownsRow w.heap.size 80 1 (.slice (some ⟨w.heap.size, 0, none⟩) width width) width (A8 ((List.range width).map (FH rows ws k))) ∧ Below w.heap.size w wr)
  (fun _ _ _ i _ => rows.length - (intOf i).toNat)
 case atStart => exact ⟨0, by omega, rfl, hown1', hb1⟩
 case round =>
  clear hown1' hb1
  obtain ⟨k, hk, rfl, hownr, hbl⟩ := hrel
  by_cases hlt : k < rows.length
  ·obtain ⟨b1, off1, a3, c3, rfl, hcr0, hrow⟩ := hrd1 k rows[k] (List.getElem?_eq_getElem hlt)
   have hcr : wr.cell? ⟨b1, off1 + k, none⟩ = some (.slice a3 width c3) := by
    rw [hbl.cell (World.block_lt_of_cell? w _ hcr0), hcr0, (hr rows[k] (List.getElem_mem hlt)).1]
   have hrl := (hr rows[k] (List.getElem_mem hlt)).1
   have hrx := (hr rows[k] (List.getElem_mem hlt)).2
   have hpart : (List.range width).map (FH rows ws k) = Bx width 0 (FH rows ws (k + 1)) (FH rows ws k) := by rw [Dn]
   rw [hpart] at hownr
   have HA := Aa hownr
   have HBL := Aa hbl
   have HR1 := Aa hrd1
   clear hownr hpart hcr0 hrd1
   obtain ⟨wo, hwo⟩ : ∃ x, x = wr := ⟨_, rfl⟩
   subst hwo
   go_wp2_with fail
   go_loopw [10, 22] (fun _ i wr => ∃ q : Nat, q ≤ width ∧ i = .int .i64 (q : Int) ∧ wr.ownsRow w.heap.size 80 1 (.slice (some ⟨w.heap.size, 0, none⟩) width width) width (A8 (Bx width q (FH rows ws (k + 1)) (FH rows ws k))) ∧ Below w.heap.size w wr)
    (fun _ i _ => width - (intOf i).toNat)
   case atStart => exact ⟨0, by omega, rfl, HA.out, HBL.out⟩
   case round =>
    clear HA HBL hbl hcr
    obtain ⟨q, hq, rfl, hownr, hbl⟩ := hrel
    by_cases hql : q < width
    ·obtain ⟨b2, off2, rfl, hcw0⟩ := Dr hrd2 k (by omega)
     obtain ⟨b3, off3, rfl, hcq0⟩ := Dr hrow q (by omega)
     have hcw : wr.cell? ⟨b2, off2 + k, none⟩ = some (.int .u16 ((ws.getD k 0 : Nat) : Int)) := by
      rw [hbl.cell (World.block_lt_of_cell? w _ hcw0)]; exact hcw0
     have hcq : wr.cell? ⟨b3, off3 + q, none⟩ = some (.int .u16 ((rows[k].getD q 0 : Nat) : Int)) := by
      rw [hbl.cell (World.block_lt_of_cell? w _ hcq0)]; exact hcq0
     have hcs : wr.cell? ⟨w.heap.size, q, none⟩ = some (.int .u16 ((FH rows ws k q : Nat) : Int)) := by
      rw [hownr.cellAt q (by omega)]
      have := EA width q (FH rows ws (k + 1)) (FH rows ws k) q hql
      rw [if_neg (by omega)] at this
      rw [← this]
      simp [A8, Bu, hql]
     have hfz := hownr.frozenAt q
     have hst := (hownr.stored q (.int .u16 ((FH rows ws (k + 1) q : Nat) : Int))).1
     have hown' : (wr.setCell ⟨w.heap.size, q, none⟩ (.int .u16 ((FH rows ws (k + 1) q : Nat) : Int))).ownsRow w.heap.size 80 1 (.slice (some ⟨w.heap.size, 0, none⟩) width width) width (A8 (Bx width (q + 1) (FH rows ws (k + 1)) (FH rows ws k))) := by
      rw [← FA]
      have e : A8 ((Bx width q (FH rows ws (k + 1)) (FH rows ws k)).set q (FH rows ws (k + 1) q)) = (A8 (Bx width q (FH rows ws (k + 1)) (FH rows ws k))).set q (.int .u16 ((FH rows ws (k + 1) q : Nat) : Int)) := by simp [A8, List.map_set]
      rw [e]; exact hst
     have hB' := hbl.setCell (p := ⟨w.heap.size, q, none⟩) (Nat.le_refl _) (.int .u16 ((FH rows ws (k + 1) q : Nat) : Int))
     have hsucc : FH rows ws (k + 1) q = FH rows ws k q ^^^ Math.mul (ws.getD k 0) (rows[k].getD q 0) := by
      rw [Lq]
      have e : rows.getD k [] = rows[k] := by simp [hlt]
      rw [e]
     have hal := Kb (rows := rows) hw k q
     have hwl := AO hw k
     have hxl := AO hrx q
     have HO := Aa hown'
     have HBB := Aa hB'
     have HOR := Aa hownr
     clear hst hown' hB' hownr hcw0 hcq0
     obtain ⟨wk, hwk⟩ : ∃ x, x = ws.getD k 0 := ⟨_, rfl⟩
     obtain ⟨xq, hxq⟩ : ∃ x, x = rows[k].getD q 0 := ⟨_, rfl⟩
     obtain ⟨aq, haq⟩ : ∃ x, x = FH rows ws k q := ⟨_, rfl⟩
     rw [← hwk] at hcw hwl hsucc
     rw [← hxq] at hcq hxl hsucc
     rw [← haq] at hcs hal hsucc
     have hml : Math.mul wk xq < 65536 := Math.mul_lt hwl _
     have hx := ON aq (Math.mul wk xq) hal hml
     have HSU := Aa hsucc
     have HRD2 := Aa hrd2
     have HROW := Aa hrow
     clear hwk hxq haq hsucc hrd2 hrow
     go_wp2_with fail
     go_region_with (go_at_call 60; refine (CG wk xq hwl hxl _).mono ?_; rintro e w' ⟨rfl, rfl⟩)
     all_goals
      rw [← HSU.out]
      go_wp2_with fail
      go_roundw
      case rel => exact ⟨q + 1, by omega, by go_num, HO.out.drew, HBB.out.drew⟩
      case measure => simp [intOf]; omega
    ·obtain rfl : q = width := by omega
     rw [Do] at hownr
     go_wp2_with fail
     go_roundw
     case rel => exact ⟨k + 1, by omega, by go_num, hownr, hbl⟩
     case measure => simp [intOf]; omega
  ·obtain rfl : k = rows.length := by omega
   go_wp2_with fail
   go_ret
   exact ⟨_, rfl, hownr, hbl⟩
end Go.Proofs.YtonjphollmdicaaGreatDoor
