import Derived.Test.YtonjphollmdicaaGreatDoorB02
import Derived.Test.YtonjphollmdicaaGreatDoorB06
import Derived.Test.YtonjphollmdicaaGreatDoorB08
import Derived.Test.YtonjphollmdicaaGreatDoorB09
import Derived.Test.YtonjphollmdicaaGreatDoorB10
import Derived.Deep.RegionHeld
import Derived.Deep.RegionHeldLaw
import Derived.Deep.RegionHeld3
namespace Go.Proofs.YtonjphollmdicaaGreatDoor
open Go.ChangeShapes Go.WideShapes Go.ChangeAt Go.RowKit

theorem numStep_spelt (n : Nat) (b : UInt8) : IntKind.u64.wrap (IntKind.u64.wrap ((n : Int) * 256) + IntKind.u64.wrap (b.toNat : Int)) = ((numStep n b : Nat) : Int) := by
  have hb := b.toNat_lt
  unfold numStep P64
  rw [IntKind.wrap_u64, IntKind.wrap_u64, IntKind.wrap_u64]
  omega

theorem rnumber_walk (l : List UInt8) (hl : l.length ≤ 1000000) (w : World) :
    Calls Tryz.prog 87 #[.string (str l)] w fun e w' => e = .returned (.int .u64 ((numL l : Nat) : Int)) ∧ w' = w := by
  have hs : (str l).size = l.length := str_size l
  go_enter Tryz.func87, Tryz.ntmps87
  go_wp2
  go_loop [3, 4] (fun x i => ∃ k h' : Nat, k ≤ l.length ∧ h' < P64 ∧ Hid ((l.drop k).foldl numStep h' = numL l) ∧ x = .int .u64 (h' : Int) ∧ i = .int .i64 (k : Int))
                    (fun _ i => l.length - (intOf i).toNat)
  case atStart => exact ⟨0, 0, by omega, by decide, hid_of rfl, rfl, rfl⟩
  case round =>
    obtain ⟨k, h', hk, hh', hm, rfl, rfl⟩ := hrel
    by_cases hlt : k < l.length
    · have hix := index_str l k (k : Int) rfl hlt
      have hsp := numStep_spelt h' l[k]
      have hg : l[k]?.getD 0 = l[k] := by simp [hlt]
      rw [hg] at hix
      obtain ⟨b, hb⟩ : ∃ b, b = l[k] := ⟨_, rfl⟩
      rw [← hb] at hix hsp
      have HB := hid_of hb
      clear hb hg
      go_wp2
      refine ⟨⟨k + 1, numStep h' b, by omega, numStep_lt _ _, hid_of ?_, by first | rw [hsp] | rfl, by go_num⟩, ?_⟩
      · have := hm.out
        rw [List.drop_eq_getElem_cons hlt, List.foldl_cons, ← HB.out] at this
        exact this
      · simp [intOf]; omega
    · have hk2 : k = l.length := by omega
      subst hk2
      go_wp2
      go_ret
      have := hm.out
      rw [List.drop_eq_nil_of_le (Nat.le_refl _)] at this
      simp only [List.foldl_nil] at this
      rw [← this]
      exact ⟨rfl, rfl⟩

def foundV (f : FoundL) : Value := .agg #[.int .u8 (f.kind.toNat : Int), .int .u64 (f.set : Int), .string (str f.body)]
def noFound : FoundL := ⟨0, 0, []⟩
/-- what 'right' answers -/
def rightV (s : List UInt8) : Value := match rightL s with
  | some (f, n) => .tuple #[foundV f, .int .i64 (n : Int)]
  | none => .tuple #[foundV noFound, .int .i64 0]

theorem rightV_none {s : List UInt8} (h : isRight s = false) : rightV s = .tuple #[foundV noFound, .int .i64 0] := by
  unfold rightV rightL
  rw [h]
  rfl

set_option maxRecDepth 100000 in
set_option maxHeartbeats 2000000 in
theorem right_no1 (l : List UInt8) (m k : Nat) (hm : m ≤ 1000000) (hss : (str l).size = m) (h : m < k + 22) (hk : k ≤ m) (w : World) :
    Calls Tryz.prog 114 #[.string (str l), .int .i64 (k : Int)] w fun e w' => e = .returned (.tuple #[.agg #[.int .u8 0, .int .u64 0, .string ⟨#[]⟩], .int .i64 0]) ∧ Below w.heap.size w w' := by
  have a1 : (m : Int) < (k : Int) + 22 := by omega
  have w3 : IntKind.i64.wrap ((k : Int) + 3) = (k : Int) + 3 := by rw [IntKind.wrap_i64]; omega
  have w22 : IntKind.i64.wrap ((k : Int) + 22) = (k : Int) + 22 := by rw [IntKind.wrap_i64]; omega
  go_enter Tryz.func114, Tryz.ntmps114
  go_wp2_with fail
  refine bodyPost_ret (v := .tuple #[.agg #[.int .u8 0, .int .u64 0, .string ⟨#[]⟩], .int .i64 0]) (by simp [results, Tryz.results114, go_sem]) rfl ?_
  exact ⟨rfl, (Below.refl _ _).alloc (Nat.le_refl _) _⟩

set_option maxRecDepth 100000 in
set_option maxHeartbeats 2000000 in
theorem right_no2 (l : List UInt8) (m k : Nat) (hm : m ≤ 1000000) (hss : (str l).size = m) (hkm : k + 22 ≤ m) (s3 : List UInt8) (ex3 : (str l).extract k (k + 3) = str s3) (h : s3 ≠ [83, 65, 76]) (w : World) :
    Calls Tryz.prog 114 #[.string (str l), .int .i64 (k : Int)] w fun e w' => e = .returned (.tuple #[.agg #[.int .u8 0, .int .u64 0, .string ⟨#[]⟩], .int .i64 0]) ∧ Below w.heap.size w w' := by
  have htl : ((str s3).toList == [83, 65, 76]) = false := by rw [str_toList, beq_eq_false_iff_ne]; exact h
  have a1 : ¬ ((m : Int) < (k : Int) + 22) := by omega
  have w3 : IntKind.i64.wrap ((k : Int) + 3) = (k : Int) + 3 := by rw [IntKind.wrap_i64]; omega
  have w22 : IntKind.i64.wrap ((k : Int) + 22) = (k : Int) + 22 := by rw [IntKind.wrap_i64]; omega
  clear h
  go_enter Tryz.func114, Tryz.ntmps114
  go_wp2_with fail
  refine bodyPost_ret (v := .tuple #[.agg #[.int .u8 0, .int .u64 0, .string ⟨#[]⟩], .int .i64 0]) (by simp [results, Tryz.results114, go_sem]) rfl ?_
  exact ⟨rfl, (Below.refl _ _).alloc (Nat.le_refl _) _⟩

set_option maxRecDepth 100000 in
set_option maxHeartbeats 2000000 in
theorem right_no3 (l : List UInt8) (m k : Nat) (hm : m ≤ 1000000) (hss : (str l).size = m) (hkm : k + 22 ≤ m) (kd : UInt8) (hkd : kindL kd = false) (ex3 : (str l).extract k (k + 3) = str [83, 65, 76]) (ix3 : ∀ W : World, (Instr.index 9 (.string (str l)) (.int .i64 ((k : Int) + 3))).run Tryz.prog W = .ok (.int .u8 (kd.toNat : Int)) W) (w : World) :
    Calls Tryz.prog 114 #[.string (str l), .int .i64 (k : Int)] w fun e w' => e = .returned (.tuple #[.agg #[.int .u8 0, .int .u64 0, .string ⟨#[]⟩], .int .i64 0]) ∧ Below w.heap.size w w' := by
  have htl : ((str [83, 65, 76]).toList == [83, 65, 76]) = true := by rw [str_toList]; rfl
  have a1 : ¬ ((m : Int) < (k : Int) + 22) := by omega
  have w3 : IntKind.i64.wrap ((k : Int) + 3) = (k : Int) + 3 := by rw [IntKind.wrap_i64]; omega
  have w22 : IntKind.i64.wrap ((k : Int) + 22) = (k : Int) + 22 := by rw [IntKind.wrap_i64]; omega
  have hne : ∀ c : UInt8, kd ≠ c → ((kd.toNat : Int) != (c.toNat : Int)) = true := by
    intro c hc
    simp only [bne_iff_ne, ne_eq, Int.natCast_inj]
    intro e
    exact hc (UInt8.toNat_inj.1 e)
  unfold kindL at hkd
  simp only [Bool.or_eq_false_iff, beq_eq_false_iff_ne] at hkd
  have q1 : ((kd.toNat : Int) != 77) = true := hne 77 hkd.1.1
  have q2 : ((kd.toNat : Int) != 70) = true := hne 70 hkd.1.2
  have q3 : ((kd.toNat : Int) != 82) = true := hne 82 hkd.2
  clear hne hkd
  go_enter Tryz.func114, Tryz.ntmps114
  go_wp2_with fail
  refine bodyPost_ret (v := .tuple #[.agg #[.int .u8 0, .int .u64 0, .string ⟨#[]⟩], .int .i64 0]) (by simp [results, Tryz.results114, go_sem]) rfl ?_
  exact ⟨rfl, (Below.refl _ _).alloc (Nat.le_refl _) _⟩

set_option maxRecDepth 100000 in
set_option maxHeartbeats 2000000 in
theorem right_no4 (l : List UInt8) (m k : Nat) (hm : m ≤ 1000000) (hss : (str l).size = m) (hkm : k + 22 ≤ m) (n : Nat) (hn : n < 65536) (h : m < k + 22 + n) (kd : UInt8) (hkd : kd = 77 ∨ kd = 70 ∨ kd = 82) (ex3 : (str l).extract k (k + 3) = str [83, 65, 76]) (ix3 : ∀ W : World, (Instr.index 9 (.string (str l)) (.int .i64 ((k : Int) + 3))).run Tryz.prog W = .ok (.int .u8 (kd.toNat : Int)) W) (s12 : List UInt8) (ex12 : (str l).extract (k + 12) (k + 14) = str s12) (w : World) (hN : Hid (∀ W : World, Calls Tryz.prog 87 #[.string (str s12)] W fun e w' => e = .returned (.int .u64 (n : Int)) ∧ w' = W)) :
    Calls Tryz.prog 114 #[.string (str l), .int .i64 (k : Int)] w fun e w' => e = .returned (.tuple #[.agg #[.int .u8 0, .int .u64 0, .string ⟨#[]⟩], .int .i64 0]) ∧ Below w.heap.size w w' := by
  have htl : ((str [83, 65, 76]).toList == [83, 65, 76]) = true := by rw [str_toList]; rfl
  have a1 : ¬ ((m : Int) < (k : Int) + 22) := by omega
  have a2 : (m : Int) < (k : Int) + 22 + (n : Int) := by omega
  have w3 : IntKind.i64.wrap ((k : Int) + 3) = (k : Int) + 3 := by rw [IntKind.wrap_i64]; omega
  have w4 : IntKind.i64.wrap ((k : Int) + 4) = (k : Int) + 4 := by rw [IntKind.wrap_i64]; omega
  have w12 : IntKind.i64.wrap ((k : Int) + 12) = (k : Int) + 12 := by rw [IntKind.wrap_i64]; omega
  have w14 : IntKind.i64.wrap ((k : Int) + 14) = (k : Int) + 14 := by rw [IntKind.wrap_i64]; omega
  have w22 : IntKind.i64.wrap ((k : Int) + 22) = (k : Int) + 22 := by rw [IntKind.wrap_i64]; omega
  have wn : IntKind.i64.wrap (n : Int) = (n : Int) := by rw [IntKind.wrap_i64]; omega
  have w22n : IntKind.i64.wrap ((k : Int) + 22 + (n : Int)) = (k : Int) + 22 + (n : Int) := by rw [IntKind.wrap_i64]; omega
  clear h
  rcases hkd with rfl | rfl | rfl
  all_goals
    go_enter Tryz.func114, Tryz.ntmps114
    go_wp2_with fail
    refine (hN.out _).mono ?_
    rintro e w' ⟨rfl, hw'⟩
    subst hw'
    go_wp2_with fail
    refine bodyPost_ret (v := .tuple #[.agg #[.int .u8 0, .int .u64 0, .string ⟨#[]⟩], .int .i64 0]) (by simp [results, Tryz.results114, go_sem]) rfl ?_
    exact ⟨rfl, (Below.refl _ _).alloc (Nat.le_refl _) _⟩

set_option maxRecDepth 100000 in
set_option maxHeartbeats 2000000 in
theorem right_no5 (l : List UInt8) (m k : Nat) (hm : m ≤ 1000000) (hss : (str l).size = m) (n h1 h2 : Nat) (hkm : k + 22 + n ≤ m) (hne : h1 ≠ h2) (kd : UInt8) (hkd : kd = 77 ∨ kd = 70 ∨ kd = 82) (ex3 : (str l).extract k (k + 3) = str [83, 65, 76]) (ix3 : ∀ W : World, (Instr.index 9 (.string (str l)) (.int .i64 ((k : Int) + 3))).run Tryz.prog W = .ok (.int .u8 (kd.toNat : Int)) W) (s12 t1 t2 : List UInt8) (ex12 : (str l).extract (k + 12) (k + 14) = str s12) (ex14 : (str l).extract k (k + 14 + n) = str t1) (ex22 : (str l).extract (k + 14 + n) (k + 22 + n) = str t2) (w : World) (hN : Hid (∀ W : World, Calls Tryz.prog 87 #[.string (str s12)] W fun e w' => e = .returned (.int .u64 (n : Int)) ∧ w' = W)) (hH : Hid (∀ W : World, Calls Tryz.prog 49 #[.string (str t1)] W fun e w' => e = .returned (.int .u64 (h1 : Int)) ∧ w' = W)) (hM : Hid (∀ W : World, Calls Tryz.prog 87 #[.string (str t2)] W fun e w' => e = .returned (.int .u64 (h2 : Int)) ∧ w' = W)) :
    Calls Tryz.prog 114 #[.string (str l), .int .i64 (k : Int)] w fun e w' => e = .returned (.tuple #[.agg #[.int .u8 0, .int .u64 0, .string ⟨#[]⟩], .int .i64 0]) ∧ Below w.heap.size w w' := by
  have htl : ((str [83, 65, 76]).toList == [83, 65, 76]) = true := by rw [str_toList]; rfl
  have a1 : ¬ ((m : Int) < (k : Int) + 22) := by omega
  have a2 : ¬ ((m : Int) < (k : Int) + 22 + (n : Int)) := by omega
  have w3 : IntKind.i64.wrap ((k : Int) + 3) = (k : Int) + 3 := by rw [IntKind.wrap_i64]; omega
  have w4 : IntKind.i64.wrap ((k : Int) + 4) = (k : Int) + 4 := by rw [IntKind.wrap_i64]; omega
  have w12 : IntKind.i64.wrap ((k : Int) + 12) = (k : Int) + 12 := by rw [IntKind.wrap_i64]; omega
  have w14 : IntKind.i64.wrap ((k : Int) + 14) = (k : Int) + 14 := by rw [IntKind.wrap_i64]; omega
  have w22 : IntKind.i64.wrap ((k : Int) + 22) = (k : Int) + 22 := by rw [IntKind.wrap_i64]; omega
  have wn : IntKind.i64.wrap (n : Int) = (n : Int) := by rw [IntKind.wrap_i64]; omega
  have w14n : IntKind.i64.wrap ((k : Int) + 14 + (n : Int)) = (k : Int) + 14 + (n : Int) := by rw [IntKind.wrap_i64]; omega
  have w22n : IntKind.i64.wrap ((k : Int) + 22 + (n : Int)) = (k : Int) + 22 + (n : Int) := by rw [IntKind.wrap_i64]; omega
  have w22' : IntKind.i64.wrap (22 + (n : Int)) = 22 + (n : Int) := by rw [IntKind.wrap_i64]; omega
  have hne' : ((h1 : Int) != (h2 : Int)) = true := by simp; omega
  clear hne
  rcases hkd with rfl | rfl | rfl
  all_goals
    go_enter Tryz.func114, Tryz.ntmps114
    go_wp2_with fail
    refine (hN.out _).mono ?_
    rintro e w' ⟨rfl, hw'⟩
    subst hw'
    go_wp2_with fail
    refine (hH.out _).mono ?_
    rintro e w' ⟨rfl, hw'⟩
    subst hw'
    go_wp2_with fail
    refine (hM.out _).mono ?_
    rintro e w' ⟨rfl, hw'⟩
    subst hw'
    go_wp2_with fail
    refine bodyPost_ret (v := .tuple #[.agg #[.int .u8 0, .int .u64 0, .string ⟨#[]⟩], .int .i64 0]) (by simp [results, Tryz.results114, go_sem]) rfl ?_
    exact ⟨rfl, (Below.refl _ _).alloc (Nat.le_refl _) _⟩

set_option maxRecDepth 100000 in
set_option maxHeartbeats 2000000 in
theorem right_yes (l : List UInt8) (m k : Nat) (hm : m ≤ 1000000) (hss : (str l).size = m) (n h1 h2 : Nat) (hkm : k + 22 + n ≤ m) (kd : UInt8) (hkd : kd = 77 ∨ kd = 70 ∨ kd = 82) (ex3 : (str l).extract k (k + 3) = str [83, 65, 76]) (ix3 : ∀ W : World, (Instr.index 9 (.string (str l)) (.int .i64 ((k : Int) + 3))).run Tryz.prog W = .ok (.int .u8 (kd.toNat : Int)) W) (s12 t1 t2 : List UInt8) (ex12 : (str l).extract (k + 12) (k + 14) = str s12) (ex14 : (str l).extract k (k + 14 + n) = str t1) (ex22 : (str l).extract (k + 14 + n) (k + 22 + n) = str t2) (t3 t4 : List UInt8) (ex4 : (str l).extract (k + 4) (k + 12) = str t3) (exb : (str l).extract (k + 14) (k + 14 + n) = str t4) (w : World) (hN : Hid (∀ W : World, Calls Tryz.prog 87 #[.string (str s12)] W fun e w' => e = .returned (.int .u64 (n : Int)) ∧ w' = W)) (hH : Hid (∀ W : World, Calls Tryz.prog 49 #[.string (str t1)] W fun e w' => e = .returned (.int .u64 (h1 : Int)) ∧ w' = W)) (hM : Hid (∀ W : World, Calls Tryz.prog 87 #[.string (str t2)] W fun e w' => e = .returned (.int .u64 (h1 : Int)) ∧ w' = W)) (hS : Hid (∀ W : World, Calls Tryz.prog 87 #[.string (str t3)] W fun e w' => e = .returned (.int .u64 (h2 : Int)) ∧ w' = W)) :
    Calls Tryz.prog 114 #[.string (str l), .int .i64 (k : Int)] w fun e w' => e = .returned (.tuple #[.agg #[.int .u8 (kd.toNat : Int), .int .u64 (h2 : Int), .string (str t4)], .int .i64 ((22 + n : Nat) : Int)]) ∧ Below w.heap.size w w' := by
  have htl : ((str [83, 65, 76]).toList == [83, 65, 76]) = true := by rw [str_toList]; rfl
  have a1 : ¬ ((m : Int) < (k : Int) + 22) := by omega
  have a2 : ¬ ((m : Int) < (k : Int) + 22 + (n : Int)) := by omega
  have w3 : IntKind.i64.wrap ((k : Int) + 3) = (k : Int) + 3 := by rw [IntKind.wrap_i64]; omega
  have w4 : IntKind.i64.wrap ((k : Int) + 4) = (k : Int) + 4 := by rw [IntKind.wrap_i64]; omega
  have w12 : IntKind.i64.wrap ((k : Int) + 12) = (k : Int) + 12 := by rw [IntKind.wrap_i64]; omega
  have w14 : IntKind.i64.wrap ((k : Int) + 14) = (k : Int) + 14 := by rw [IntKind.wrap_i64]; omega
  have w22 : IntKind.i64.wrap ((k : Int) + 22) = (k : Int) + 22 := by rw [IntKind.wrap_i64]; omega
  have wn : IntKind.i64.wrap (n : Int) = (n : Int) := by rw [IntKind.wrap_i64]; omega
  have w14n : IntKind.i64.wrap ((k : Int) + 14 + (n : Int)) = (k : Int) + 14 + (n : Int) := by rw [IntKind.wrap_i64]; omega
  have w22n : IntKind.i64.wrap ((k : Int) + 22 + (n : Int)) = (k : Int) + 22 + (n : Int) := by rw [IntKind.wrap_i64]; omega
  have w22' : IntKind.i64.wrap (22 + (n : Int)) = 22 + (n : Int) := by rw [IntKind.wrap_i64]; omega
  have g1 : (0 : Int) ≤ (k : Int) + 4 := by omega
  have g2 : (k : Int) + 4 ≤ (k : Int) + 12 := by omega
  have g3 : (k : Int) + 12 ≤ (m : Int) := by omega
  have g4 : (0 : Int) ≤ (k : Int) + 14 := by omega
  have g5 : (k : Int) + 14 ≤ (k : Int) + 14 + (n : Int) := by omega
  have g6 : (k : Int) + 14 + (n : Int) ≤ (m : Int) := by omega
  have n4 : ((k : Int) + 4).toNat = k + 4 := by omega
  have n12 : ((k : Int) + 12).toNat = k + 12 := by omega
  have n14 : ((k : Int) + 14).toNat = k + 14 := by omega
  have n14n : ((k : Int) + 14 + (n : Int)).toNat = k + 14 + n := by omega
  have hB : Below w.heap.size w (w.alloc (.cells #[.int .u8 0, .int .u64 0, .string ⟨#[]⟩] 148)) := (Below.refl _ _).alloc (Nat.le_refl _) _
  rcases hkd with rfl | rfl | rfl
  · go_enter Tryz.func114, Tryz.ntmps114
    go_wp2_with fail
    refine (hN.out _).mono ?_
    rintro e w' ⟨rfl, hw'⟩
    subst hw'
    go_wp2_with fail
    refine (hH.out _).mono ?_
    rintro e w' ⟨rfl, hw'⟩
    subst hw'
    go_wp2_with fail
    refine (hM.out _).mono ?_
    rintro e w' ⟨rfl, hw'⟩
    subst hw'
    go_wp2_with fail
    go_region_held3 (fun W => Below w.heap.size w W) (first | assumption | exact hB.drew | exact ((Below.refl _ _).alloc (Nat.le_refl _) _).drew)
      (first | (go_at_call 87; refine (hS.out _).mono ?_; rintro e w' ⟨rfl, rfl⟩))
    all_goals
      go_wp2_with fail
      refine bodyPost_ret (v := .tuple #[.agg #[.int .u8 77, .int .u64 (h2 : Int), .string (str t4)], .int .i64 (22 + (n : Int))]) (by simp [results, Tryz.results114, go_sem]) rfl ?_
      exact ⟨rfl, ((Below.refl _ _).alloc (Nat.le_refl _) _).drew⟩
  · go_enter Tryz.func114, Tryz.ntmps114
    go_wp2_with fail
    refine (hN.out _).mono ?_
    rintro e w' ⟨rfl, hw'⟩
    subst hw'
    go_wp2_with fail
    refine (hH.out _).mono ?_
    rintro e w' ⟨rfl, hw'⟩
    subst hw'
    go_wp2_with fail
    refine (hM.out _).mono ?_
    rintro e w' ⟨rfl, hw'⟩
    subst hw'
    go_wp2_with fail
    go_region_held3 (fun W => Below w.heap.size w W) (first | assumption | exact hB.drew | exact ((Below.refl _ _).alloc (Nat.le_refl _) _).drew)
      (first | (go_at_call 87; refine (hS.out _).mono ?_; rintro e w' ⟨rfl, rfl⟩))
    all_goals
      go_wp2_with fail
      refine bodyPost_ret (v := .tuple #[.agg #[.int .u8 70, .int .u64 (h2 : Int), .string (str t4)], .int .i64 (22 + (n : Int))]) (by simp [results, Tryz.results114, go_sem]) rfl ?_
      exact ⟨rfl, ((Below.refl _ _).alloc (Nat.le_refl _) _).drew⟩
  · go_enter Tryz.func114, Tryz.ntmps114
    go_wp2_with fail
    refine (hN.out _).mono ?_
    rintro e w' ⟨rfl, hw'⟩
    subst hw'
    go_wp2_with fail
    refine (hH.out _).mono ?_
    rintro e w' ⟨rfl, hw'⟩
    subst hw'
    go_wp2_with fail
    refine (hM.out _).mono ?_
    rintro e w' ⟨rfl, hw'⟩
    subst hw'
    go_wp2_with fail
    go_region_held3 (fun W => Below w.heap.size w W) (first | assumption | exact hB.drew | exact ((Below.refl _ _).alloc (Nat.le_refl _) _).drew)
      (first | (go_at_call 87; refine (hS.out _).mono ?_; rintro e w' ⟨rfl, rfl⟩))
    all_goals
      go_wp2_with fail
      refine bodyPost_ret (v := .tuple #[.agg #[.int .u8 82, .int .u64 (h2 : Int), .string (str t4)], .int .i64 (22 + (n : Int))]) (by simp [results, Tryz.results114, go_sem]) rfl ?_
      exact ⟨rfl, ((Below.refl _ _).alloc (Nat.le_refl _) _).drew⟩

theorem rright_walk (l : List UInt8) (k : Nat) (hl : l.length ≤ 1000000) (hk : k ≤ l.length) (w : World) :
    Calls Tryz.prog 114 #[.string (str l), .int .i64 (k : Int)] w fun e w' => e = .returned (rightV (l.drop k)) ∧ Below w.heap.size w w' := by
  have hss : (str l).size = l.length := str_size l
  obtain ⟨s, hs⟩ : ∃ s, s = l.drop k := ⟨_, rfl⟩
  rw [← hs]
  have hsl : s.length = l.length - k := by rw [hs, List.length_drop]
  by_cases c1 : 22 ≤ s.length
  · have ex3 : (str l).extract k (k + 3) = str (s.take 3) := by rw [str_extract, ← hs, show k + 3 - k = 3 from by omega]
    have ix3 := index_str l (k + 3) ((k : Int) + 3) (by omega) (by omega)
    have hg3 : l[k + 3]?.getD 0 = s.getD 3 0 := by rw [hs]; simp
    rw [hg3] at ix3
    by_cases c2 : s.take 3 = [83, 65, 76]
    · rw [c2] at ex3
      by_cases c3 : kindL (s.getD 3 0) = true
      · have hkd : s.getD 3 0 = 77 ∨ s.getD 3 0 = 70 ∨ s.getD 3 0 = 82 := by
          unfold kindL at c3
          simp only [Bool.or_eq_true, beq_iff_eq] at c3
          rcases c3 with (h | h) | h
          · exact .inl h
          · exact .inr (.inl h)
          · exact .inr (.inr h)
        have ex12 : (str l).extract (k + 12) (k + 14) = str ((s.drop 12).take 2) := by
          rw [str_extract, hs, List.drop_drop, show k + 14 - (k + 12) = 2 from by omega]
        have hN := hid_of (rnumber_walk ((s.drop 12).take 2) (by rw [List.length_take]; omega))
        have hnl := bodyN_lt s
        by_cases c4 : 22 + bodyN s ≤ s.length
        · have ex14 : (str l).extract k (k + 14 + bodyN s) = str (s.take (14 + bodyN s)) := by rw [str_extract, ← hs, show k + 14 + bodyN s - k = 14 + bodyN s from by omega]
          have ex22 : (str l).extract (k + 14 + bodyN s) (k + 22 + bodyN s) = str ((s.drop (14 + bodyN s)).take 8) := by
            rw [str_extract, show (l.drop (k + 14 + bodyN s)) = s.drop (14 + bodyN s) from by rw [hs, List.drop_drop]; congr 1; omega, show k + 22 + bodyN s - (k + 14 + bodyN s) = 8 from by omega]
          have ex4 : (str l).extract (k + 4) (k + 12) = str ((s.drop 4).take 8) := by
            rw [str_extract, hs, List.drop_drop, show k + 12 - (k + 4) = 8 from by omega]
          have exb : (str l).extract (k + 14) (k + 14 + bodyN s) = str ((s.drop 14).take (bodyN s)) := by
            rw [str_extract, show l.drop (k + 14) = s.drop 14 from by rw [hs, List.drop_drop], show k + 14 + bodyN s - (k + 14) = bodyN s from by omega]
          have hH := hid_of (rHash_l (s.take (14 + bodyN s)) (by rw [List.length_take]; omega))
          have hM := hid_of (rnumber_walk ((s.drop (14 + bodyN s)).take 8) (by rw [List.length_take]; omega))
          have hS := hid_of (rnumber_walk ((s.drop 4).take 8) (by rw [List.length_take]; omega))
          by_cases c5 : hashL (s.take (14 + bodyN s)) = numL ((s.drop (14 + bodyN s)).take 8)
          · have hr : isRight s = true := by
              unfold isRight
              rw [decide_eq_true c1, c2, c3, decide_eq_true c4, c5]
              simp
            have hyes : rightV s = .tuple #[.agg #[.int .u8 ((s.getD 3 0).toNat : Int), .int .u64 ((numL ((s.drop 4).take 8) : Nat) : Int), .string (str ((s.drop 14).take (bodyN s)))], .int .i64 ((22 + bodyN s : Nat) : Int)] := by
              unfold rightV rightL
              rw [hr, if_pos rfl]
              rfl
            rw [hyes]
            rw [c5] at hH
            exact right_yes l l.length k hl hss (bodyN s) _ _ (by omega) _ hkd ex3 ix3 _ _ _ ex12 ex14 ex22 _ _ ex4 exb w hN hH hM hS
          · have hno : isRight s = false := by
              unfold isRight
              rw [beq_eq_false_iff_ne.2 c5, Bool.and_false]
            rw [rightV_none hno]
            exact right_no5 l l.length k hl hss (bodyN s) _ _ (by omega) c5 _ hkd ex3 ix3 _ _ _ ex12 ex14 ex22 w hN hH hM
        · have hno : isRight s = false := by
            unfold isRight
            rw [decide_eq_false c4, Bool.and_false, Bool.false_and]
          rw [rightV_none hno]
          exact right_no4 l l.length k hl hss (by omega) (bodyN s) hnl (by omega) _ hkd ex3 ix3 _ ex12 w hN
      · have hno : isRight s = false := by
          unfold isRight
          rw [(by simpa using c3 : kindL (s.getD 3 0) = false), Bool.and_false, Bool.false_and, Bool.false_and]
        rw [rightV_none hno]
        exact right_no3 l l.length k hl hss (by omega) _ (by simpa using c3) ex3 ix3 w
    · have hno : isRight s = false := by
        unfold isRight
        rw [beq_eq_false_iff_ne.2 c2, Bool.and_false, Bool.false_and, Bool.false_and, Bool.false_and]
      rw [rightV_none hno]
      exact right_no2 l l.length k hl hss (by omega) _ ex3 c2 w
  · have hno : isRight s = false := by
      unfold isRight
      rw [decide_eq_false c1]
      rfl
    rw [rightV_none hno]
    exact right_no1 l l.length k hl hss (by omega) hk w
end Go.Proofs.YtonjphollmdicaaGreatDoor
namespace Go.Proofs.YtonjphollmdicaaGreatDoor
open Go.ChangeShapes Go.WideShapes Go.ChangeAt Go.RowKit

def foundsV (l : List FoundL) : List Value := l.flatMap fun f => [.int .u8 (f.kind.toNat : Int), .int .u64 (f.set : Int), .string (str f.body)]
theorem foundsV_length (l : List FoundL) : (foundsV l).length = 3 * l.length := by
  induction l with
  | nil => rfl
  | cons f r ih => simp only [foundsV, List.flatMap_cons, List.length_append, List.length_cons, List.length_nil] at ih ⊢; omega
theorem foundsV_snoc (l : List FoundL) (f : FoundL) : foundsV (l ++ [f]) = foundsV l ++ [.int .u8 (f.kind.toNat : Int), .int .u64 (f.set : Int), .string (str f.body)] := by simp [foundsV]

theorem Tryz.infoFo : (Tryz.prog.info? 148).map (fun i => (i.zero, i.size, i.bytes)) = some (some (.agg #[.int .u8 0, .int .u64 0, .string ByteArray.empty]), 3, 32) := by kernel_rfl

theorem findG_len : ∀ (k : Nat) (s : List UInt8), (findG k s).length ≤ k
  | 0, _ => by simp [findG]
  | k + 1, [] => by simp [findG]
  | k + 1, b :: r => by
    simp only [findG]
    cases h : rightL (b :: r) with
    | none => have := findG_len k r; simp only; omega
    | some x =>
      obtain ⟨f, n⟩ := x
      have := findG_len k ((b :: r).drop n)
      simp only [List.length_cons]
      omega
theorem findV_len (s : List UInt8) : (findV s).length ≤ s.length := findG_len _ _
theorem findL_len (vs : List (List UInt8)) (M : Nat) (h : ∀ v ∈ vs, v.length ≤ M) : (findL vs).length ≤ vs.length * M := by
  induction vs with
  | nil => simp [findL]
  | cons v r ih =>
    have h1 := ih (fun x hx => h x (List.mem_cons_of_mem _ hx))
    have h2 := h v (by simp)
    have h3 := findV_len v
    simp only [findL, List.flatMap_cons, List.length_append, List.length_cons] at h1 ⊢
    rw [Nat.succ_mul]
    omega
theorem findL_snoc (vs : List (List UInt8)) (k : Nat) (h : k < vs.length) : findL (vs.take (k + 1)) = findL (vs.take k) ++ findV vs[k] := by
  unfold findL
  rw [take_snoc vs k h, List.flatMap_append]
  simp

theorem three_new (w : World) (x y z : Value) (t : TypeId) : ∀ j u, [x, y, z][j]? = some u → (w.alloc (.cells #[x, y, z] t)).cell? ((⟨w.heap.size, 0, none⟩ : Addr).add j) = some u := by
  intro j u h
  rcases j with _ | _ | _ | j
  · simp at h; subst h; simp [Addr.add]
  · simp at h; subst h; simp [Addr.add]
  · simp at h; subst h; simp [Addr.add]
  · simp at h

set_option maxRecDepth 100000 in
set_option maxHeartbeats 2000000 in
theorem rFind_walk (vs : List (List UInt8)) (a : Option Addr) (cap : Nat) (hn : vs.length ≤ 1000) (hv : ∀ v ∈ vs, v.length ≤ 1000000) (w : World) (hrd : Rd w a (strV vs)) :
    Calls Tryz.prog 85 #[.slice a vs.length cap] w fun e w' => ∃ v, e = .returned v ∧ w'.ownsRow w.heap.size 148 3 v (findL vs).length (foundsV (findL vs)) ∧ Below w.heap.size w w' := by
  obtain ⟨i0, hi, hz0, hz1, hz2⟩ := info_parts Tryz.infoFo
  have HRD := hid_of hrd
  have HV := hid_of hv
  clear hrd hv
  go_enter Tryz.func85, Tryz.ntmps85
  go_wp2_with fail
  go_loopw [3, 4, 5, 6, 7] (fun l i _ _ _ wr => ∃ k : Nat, k ≤ vs.length ∧ i = .int .i64 (k : Int) ∧ wr.ownsRow w.heap.size 148 3 l (findL (vs.take k)).length (foundsV (findL (vs.take k))) ∧ Below w.heap.size w wr)
    (fun _ i _ _ _ _ => vs.length - (intOf i).toNat)
  case atStart => exact ⟨0, by omega, rfl, World.ownsRow_nil _ _ _ _, Below.refl _ _⟩
  case round =>
    obtain ⟨k, hk, rfl, hownr, hbl⟩ := hrel
    by_cases hlt : k < vs.length
    · have hvl := HV.out vs[k] (List.getElem_mem hlt)
      have hsn := findL_snoc vs k hlt
      obtain ⟨bb, off, rfl, hc0⟩ := HRD.out k (.string (str vs[k])) (by simp [strV, hlt])
      have hcnt : (findL (vs.take (k + 1))).length ≤ 1000000000 := by
        have := findL_len (vs.take (k + 1)) 1000000 (fun v hv => HV.out v (List.mem_of_mem_take hv))
        rw [List.length_take] at this
        have h9 : min (k + 1) vs.length * 1000000 ≤ 1000 * 1000000 := Nat.mul_le_mul_right _ (by omega)
        omega
      obtain ⟨v, hve⟩ : ∃ x, x = vs[k] := ⟨_, rfl⟩
      rw [← hve] at hvl hsn hc0
      have hss := str_size v
      have HC0 := hid_of hc0
      have HSN := hid_of hsn
      have HO := hid_of hownr
      have HB := hid_of hbl
      clear hownr hbl hsn hve hc0
      go_wp2_with fail
      go_loopw [3, 5, 6, 7] (fun l at' _ _ W => ∃ (j : Nat) (F : List FoundL), j ≤ v.length ∧ at' = .int .i64 (j : Int) ∧ W.ownsRow w.heap.size 148 3 l F.length (foundsV F) ∧ Hid (F ++ findV (v.drop j) = findL (vs.take (k + 1))) ∧ Below w.heap.size w W)
        (fun _ at' _ _ _ => v.length - (intOf at').toNat)
      case atStart => exact ⟨0, _, by omega, rfl, HO.out, hid_of (by rw [HSN.out]; rfl), HB.out⟩
      case round =>
        clear HO HB
        obtain ⟨j, F, hj, rfl, hownr, HF, hbl⟩ := hrel
        have hsz := hbl.size
        have hcv : wr.cell? ⟨bb, off + k, none⟩ = some (.string (str v)) := by
          rw [hbl.cell (World.block_lt_of_cell? w _ HC0.out)]; exact HC0.out
        by_cases hjl : j < v.length
        · have hst := findV_step (v.drop j) (by rw [List.length_drop]; omega)
          have hR := rright_walk v j hvl (by omega) wr
          have hFl : F.length + (findV (v.drop j)).length ≤ 1000000000 := by
            have := congrArg List.length HF.out
            rw [List.length_append] at this
            omega
          have HO := hid_of hownr
          have HB := hid_of hbl
          clear hownr hbl
          unfold rightV at hR
          cases hr : rightL (v.drop j) with
          | none =>
            rw [hr] at hR hst
            simp only [foundV, noFound] at hR
            have HR := hid_of hR
            have hn2 : Hid (F ++ findV (v.drop (j + 1)) = findL (vs.take (k + 1))) := hid_of (by rw [← HF.out, hst]; simp [List.drop_drop])
            clear hR hst hr hFl
            go_wp2_with fail
            refine HR.out.mono ?_
            rintro e w2 ⟨rfl, hb2⟩
            have L1 := hid_of (ownsRow_later HO.out (Nat.le_refl _) hb2)
            have L2 := hid_of (HB.out.trans (hb2.mono hsz))
            clear hb2 HO HB
            go_wp2_with fail
            exact ⟨⟨j + 1, F, by omega, by go_num, L1.out.alloc _, hn2, L2.out.alloc L2.out.size _⟩, by simp [intOf]; omega⟩
          | some x =>
            obtain ⟨f, n⟩ := x
            rw [hr] at hR hst
            simp only [foundV] at hR
            have hpos := right_pos hr
            rw [List.length_drop] at hpos
            have HR := hid_of hR
            have hn2 : Hid ((F ++ [f]) ++ findV (v.drop (j + n)) = findL (vs.take (k + 1))) := hid_of (by rw [← HF.out, hst]; simp [List.drop_drop])
            have hFl2 : F.length + 1 ≤ 1000000000 := by
              have := congrArg List.length hst
              simp only [List.length_cons] at this
              omega
            clear hR hst hr hFl
            have hn0 : (0 : Int) < (n : Int) := by omega
            go_wp2_with fail
            refine HR.out.mono ?_
            rintro e w2 ⟨rfl, hb2⟩
            have L1 := hid_of (ownsRow_later HO.out (Nat.le_refl _) hb2)
            have L2 := hid_of (HB.out.trans (hb2.mono hsz))
            have hsz2 : w.heap.size ≤ w2.heap.size := L2.out.size
            clear hb2 HO HB hcv
            obtain ⟨x1, hx1⟩ : ∃ x, x = Value.int .u8 (f.kind.toNat : Int) := ⟨_, rfl⟩
            obtain ⟨x2, hx2⟩ : ∃ x, x = Value.int .u64 (f.set : Int) := ⟨_, rfl⟩
            have hsn := foundsV_snoc F f
            have H3 := hid_of hsn
            clear hsn hx1 hx2 x1 x2
            go_wp2_with (at_builtin; refine wpList_append_own _ rfl (.tmp 32) (.tmp 34) 145 rfl w.heap.size 148 i0 (.agg #[.int .u8 0, .int .u64 0, .string ByteArray.empty]) 3 32 Tryz.underlying145 hi hz0 hz1 hz2 rfl (by decide) _ _ _ rfl ((L1.out.alloc _).alloc _) ⟨w2.heap.size + 1, 0, none⟩ 1 1 [.int .u8 (f.kind.toNat : Int), .int .u64 (f.set : Int), .string (str f.body)] rfl rfl ?c1 ?c2 ?c3 ?c4 ?c5 ?_)
            case c1 =>
              have := three_new (w2.alloc (.cells #[.int .u8 (f.kind.toNat : Int), .int .u64 (f.set : Int), .string (str f.body)] 148)) (.int .u8 (f.kind.toNat : Int)) (.int .u64 (f.set : Int)) (.string (str f.body)) 148
              simpa using this
            case c2 =>
              intro u hu
              simp at hu
              rcases hu with rfl | rfl | rfl <;> rfl
            case c3 => unfold maxLen; omega
            case c4 => omega
            case c5 => simp; omega
            intro v6 w6 hown6 hg6 _
            have hb6 := below_step (L2.out.alloc hsz2 _) (by simp; omega) (L1.out.alloc _) hg6
            rw [← H3.out] at hown6
            have K1 := hid_of hown6
            have K2 := hid_of hb6
            clear hown6 hg6 hb6 L1 L2
            go_wp2_with fail
            refine ⟨⟨j + n, F ++ [f], by omega, by go_num, ?_, hn2, K2.out⟩, by simp [intOf]; omega⟩
            rw [List.length_append]
            exact K1.out
        · obtain rfl : v.length = j := by omega
          have hend : findL (vs.take (k + 1)) = F := by
            have := HF.out
            rw [List.drop_length, findV_nil, List.append_nil] at this
            exact this.symm
          have HE := hid_of hend
          have HO := hid_of hownr
          have HB := hid_of hbl
          clear hownr hbl hend
          go_wp2_with fail
          refine ⟨⟨k + 1, by omega, by go_num, ?_, HB.out⟩, by simp [intOf]; omega⟩
          rw [HE.out]
          exact HO.out
    · obtain rfl : vs.length = k := by omega
      rw [List.take_length] at hownr
      have HO := hid_of hownr
      have HB := hid_of hbl
      clear hownr hbl
      go_wp2_with fail
      go_ret
      exact ⟨_, rfl, HO.out, HB.out⟩
end Go.Proofs.YtonjphollmdicaaGreatDoor
