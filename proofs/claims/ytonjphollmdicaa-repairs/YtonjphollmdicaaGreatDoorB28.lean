import Derived.Test.YtonjphollmdicaaGreatDoorB00
import Derived.Test.YtonjphollmdicaaGreatDoorB01
import Derived.Test.YtonjphollmdicaaGreatDoorB02
import Derived.Test.YtonjphollmdicaaGreatDoorB03
import Derived.Test.YtonjphollmdicaaGreatDoorB27
import Derived.Deep.RegionHeld
import Derived.Deep.RegionHeldLaw
import Derived.Deep.RegionHeld3
namespace Go.Proofs.YtonjphollmdicaaGreatDoor
open Go.ChangeShapes Go.WideShapes Go.ChangeAt Go.RowKit
theorem numStep_spelt (n : Nat) (b : UInt8) : IntKind.u64.wrap (IntKind.u64.wrap ((n : Int) * 256) + IntKind.u64.wrap (b.toNat : Int)) = ((numStep n b : Nat) : Int) := by
  have hb := b.toNat_lt
  unfold numStep P64
  rw [IntKind.wrap_u64, IntKind.wrap_u64, IntKind.wrap_u64]
  omega
theorem rnumber_walk (l : List UInt8) (hl : l.length ≤ 1000000) (w : World) :
    Calls Tryz.prog 87 #[.string (str l)] w fun e w' => e = .returned (.int .u64 ((numL l : Nat) : Int)) ∧ w' = w := by
  have hs : (str l).size = l.length := str_size l
  go_enter Tryz.func87, Tryz.ntmps87
  go_wp2
  go_loop [3, 4] (fun x i => ∃ k h' : Nat, k ≤ l.length ∧ h' < P64 ∧ Hid ((l.drop k).foldl numStep h' = numL l) ∧ x = .int .u64 (h' : Int) ∧ i = .int .i64 (k : Int))
                    (fun _ i => l.length - (intOf i).toNat)
  case atStart => exact ⟨0, 0, by omega, by decide, hid_of rfl, rfl, rfl⟩
  case round =>
    obtain ⟨k, h', hk, hh', hm, rfl, rfl⟩ := hrel
    by_cases hlt : k < l.length
    · have hix := index_str l k (k : Int) rfl hlt
      have hsp := numStep_spelt h' l[k]
      have hg : l[k]?.getD 0 = l[k] := by simp [hlt]
      rw [hg] at hix
      obtain ⟨b, hb⟩ : ∃ b, b = l[k] := ⟨_, rfl⟩
      rw [← hb] at hix hsp
      have HB := hid_of hb
      clear hb hg
      go_wp2
      refine ⟨⟨k + 1, numStep h' b, by omega, numStep_lt _ _, hid_of ?_, by first | rw [hsp] | rfl, by go_num⟩, ?_⟩
      · have := hm.out
        rw [List.drop_eq_getElem_cons hlt, List.foldl_cons, ← HB.out] at this
        exact this
      · simp [intOf]; omega
    · have hk2 : k = l.length := by omega
      subst hk2
      go_wp2
      go_ret
      have := hm.out
      rw [List.drop_eq_nil_of_le (Nat.le_refl _)] at this
      simp only [List.foldl_nil] at this
      rw [← this]
      exact ⟨rfl, rfl⟩
def foundV (f : FoundL) : Value := .agg #[.int .u8 (f.kind.toNat : Int), .int .u64 (f.set : Int), .string (str f.body)]
def noFound : FoundL := ⟨0, 0, []⟩
def rightV (s : List UInt8) : Value := match rightL s with
  | some (f, n) => .tuple #[foundV f, .int .i64 (n : Int)]
  | none => .tuple #[foundV noFound, .int .i64 0]
theorem rightV_none {s : List UInt8} (h : isRight s = false) : rightV s = .tuple #[foundV noFound, .int .i64 0] := by
  unfold rightV rightL
  rw [h]
  rfl
set_option maxRecDepth 100000 in
set_option maxHeartbeats 2000000 in
theorem right_no1 (l : List UInt8) (m k : Nat) (hm : m ≤ 1000000) (hss : (str l).size = m) (h : m < k + 22) (hk : k ≤ m) (w : World) :
    Calls Tryz.prog 114 #[.string (str l), .int .i64 (k : Int)] w fun e w' => e = .returned (.tuple #[.agg #[.int .u8 0, .int .u64 0, .string ⟨#[]⟩], .int .i64 0]) ∧ Below w.heap.size w w' := by
  have a1 : (m : Int) < (k : Int) + 22 := by omega
  have w3 : IntKind.i64.wrap ((k : Int) + 3) = (k : Int) + 3 := by rw [IntKind.wrap_i64]; omega
  have w22 : IntKind.i64.wrap ((k : Int) + 22) = (k : Int) + 22 := by rw [IntKind.wrap_i64]; omega
  go_enter Tryz.func114, Tryz.ntmps114
  go_wp2_with fail
  refine bodyPost_ret (v := .tuple #[.agg #[.int .u8 0, .int .u64 0, .string ⟨#[]⟩], .int .i64 0]) (by simp [results, Tryz.results114, go_sem]) rfl ?_
  exact ⟨rfl, (Below.refl _ _).alloc (Nat.le_refl _) _⟩
set_option maxRecDepth 100000 in
set_option maxHeartbeats 2000000 in
theorem right_no2 (l : List UInt8) (m k : Nat) (hm : m ≤ 1000000) (hss : (str l).size = m) (hkm : k + 22 ≤ m) (s3 : List UInt8) (ex3 : (str l).extract k (k + 3) = str s3) (h : s3 ≠ [83, 65, 76]) (w : World) :
    Calls Tryz.prog 114 #[.string (str l), .int .i64 (k : Int)] w fun e w' => e = .returned (.tuple #[.agg #[.int .u8 0, .int .u64 0, .string ⟨#[]⟩], .int .i64 0]) ∧ Below w.heap.size w w' := by
  have htl : ((str s3).toList == [83, 65, 76]) = false := by rw [str_toList, beq_eq_false_iff_ne]; exact h
  have a1 : ¬ ((m : Int) < (k : Int) + 22) := by omega
  have w3 : IntKind.i64.wrap ((k : Int) + 3) = (k : Int) + 3 := by rw [IntKind.wrap_i64]; omega
  have w22 : IntKind.i64.wrap ((k : Int) + 22) = (k : Int) + 22 := by rw [IntKind.wrap_i64]; omega
  clear h
  go_enter Tryz.func114, Tryz.ntmps114
  go_wp2_with fail
  refine bodyPost_ret (v := .tuple #[.agg #[.int .u8 0, .int .u64 0, .string ⟨#[]⟩], .int .i64 0]) (by simp [results, Tryz.results114, go_sem]) rfl ?_
  exact ⟨rfl, (Below.refl _ _).alloc (Nat.le_refl _) _⟩
set_option maxRecDepth 100000 in
set_option maxHeartbeats 2000000 in
theorem right_no3 (l : List UInt8) (m k : Nat) (hm : m ≤ 1000000) (hss : (str l).size = m) (hkm : k + 22 ≤ m) (kd : UInt8) (hkd : kindL kd = false) (ex3 : (str l).extract k (k + 3) = str [83, 65, 76]) (ix3 : ∀ W : World, (Instr.index 9 (.string (str l)) (.int .i64 ((k : Int) + 3))).run Tryz.prog W = .ok (.int .u8 (kd.toNat : Int)) W) (w : World) :
    Calls Tryz.prog 114 #[.string (str l), .int .i64 (k : Int)] w fun e w' => e = .returned (.tuple #[.agg #[.int .u8 0, .int .u64 0, .string ⟨#[]⟩], .int .i64 0]) ∧ Below w.heap.size w w' := by
  have htl : ((str [83, 65, 76]).toList == [83, 65, 76]) = true := by rw [str_toList]; rfl
  have a1 : ¬ ((m : Int) < (k : Int) + 22) := by omega
  have w3 : IntKind.i64.wrap ((k : Int) + 3) = (k : Int) + 3 := by rw [IntKind.wrap_i64]; omega
  have w22 : IntKind.i64.wrap ((k : Int) + 22) = (k : Int) + 22 := by rw [IntKind.wrap_i64]; omega
  have hne : ∀ c : UInt8, kd ≠ c → ((kd.toNat : Int) != (c.toNat : Int)) = true := by
    intro c hc
    simp only [bne_iff_ne, ne_eq, Int.natCast_inj]
    intro e
    exact hc (UInt8.toNat_inj.1 e)
  unfold kindL at hkd
  simp only [Bool.or_eq_false_iff, beq_eq_false_iff_ne] at hkd
  have q1 : ((kd.toNat : Int) != 77) = true := hne 77 hkd.1.1
  have q2 : ((kd.toNat : Int) != 70) = true := hne 70 hkd.1.2
  have q3 : ((kd.toNat : Int) != 82) = true := hne 82 hkd.2
  clear hne hkd
  go_enter Tryz.func114, Tryz.ntmps114
  go_wp2_with fail
  refine bodyPost_ret (v := .tuple #[.agg #[.int .u8 0, .int .u64 0, .string ⟨#[]⟩], .int .i64 0]) (by simp [results, Tryz.results114, go_sem]) rfl ?_
  exact ⟨rfl, (Below.refl _ _).alloc (Nat.le_refl _) _⟩
set_option maxRecDepth 100000 in
set_option maxHeartbeats 2000000 in
theorem right_no4 (l : List UInt8) (m k : Nat) (hm : m ≤ 1000000) (hss : (str l).size = m) (hkm : k + 22 ≤ m) (n : Nat) (hn : n < 65536) (h : m < k + 22 + n) (kd : UInt8) (hkd : kd = 77 ∨ kd = 70 ∨ kd = 82) (ex3 : (str l).extract k (k + 3) = str [83, 65, 76]) (ix3 : ∀ W : World, (Instr.index 9 (.string (str l)) (.int .i64 ((k : Int) + 3))).run Tryz.prog W = .ok (.int .u8 (kd.toNat : Int)) W) (s12 : List UInt8) (ex12 : (str l).extract (k + 12) (k + 14) = str s12) (w : World) (hN : Hid (∀ W : World, Calls Tryz.prog 87 #[.string (str s12)] W fun e w' => e = .returned (.int .u64 (n : Int)) ∧ w' = W)) :
    Calls Tryz.prog 114 #[.string (str l), .int .i64 (k : Int)] w fun e w' => e = .returned (.tuple #[.agg #[.int .u8 0, .int .u64 0, .string ⟨#[]⟩], .int .i64 0]) ∧ Below w.heap.size w w' := by
  have htl : ((str [83, 65, 76]).toList == [83, 65, 76]) = true := by rw [str_toList]; rfl
  have a1 : ¬ ((m : Int) < (k : Int) + 22) := by omega
  have a2 : (m : Int) < (k : Int) + 22 + (n : Int) := by omega
  have w3 : IntKind.i64.wrap ((k : Int) + 3) = (k : Int) + 3 := by rw [IntKind.wrap_i64]; omega
  have w4 : IntKind.i64.wrap ((k : Int) + 4) = (k : Int) + 4 := by rw [IntKind.wrap_i64]; omega
  have w12 : IntKind.i64.wrap ((k : Int) + 12) = (k : Int) + 12 := by rw [IntKind.wrap_i64]; omega
  have w14 : IntKind.i64.wrap ((k : Int) + 14) = (k : Int) + 14 := by rw [IntKind.wrap_i64]; omega
  have w22 : IntKind.i64.wrap ((k : Int) + 22) = (k : Int) + 22 := by rw [IntKind.wrap_i64]; omega
  have wn : IntKind.i64.wrap (n : Int) = (n : Int) := by rw [IntKind.wrap_i64]; omega
  have w22n : IntKind.i64.wrap ((k : Int) + 22 + (n : Int)) = (k : Int) + 22 + (n : Int) := by rw [IntKind.wrap_i64]; omega
  clear h
  rcases hkd with rfl | rfl | rfl
  all_goals
    go_enter Tryz.func114, Tryz.ntmps114
    go_wp2_with fail
    refine (hN.out _).mono ?_
    rintro e w' ⟨rfl, hw'⟩
    subst hw'
    go_wp2_with fail
    refine bodyPost_ret (v := .tuple #[.agg #[.int .u8 0, .int .u64 0, .string ⟨#[]⟩], .int .i64 0]) (by simp [results, Tryz.results114, go_sem]) rfl ?_
    exact ⟨rfl, (Below.refl _ _).alloc (Nat.le_refl _) _⟩
set_option maxRecDepth 100000 in
set_option maxHeartbeats 2000000 in
theorem right_no5 (l : List UInt8) (m k : Nat) (hm : m ≤ 1000000) (hss : (str l).size = m) (n h1 h2 : Nat) (hkm : k + 22 + n ≤ m) (hne : h1 ≠ h2) (kd : UInt8) (hkd : kd = 77 ∨ kd = 70 ∨ kd = 82) (ex3 : (str l).extract k (k + 3) = str [83, 65, 76]) (ix3 : ∀ W : World, (Instr.index 9 (.string (str l)) (.int .i64 ((k : Int) + 3))).run Tryz.prog W = .ok (.int .u8 (kd.toNat : Int)) W) (s12 t1 t2 : List UInt8) (ex12 : (str l).extract (k + 12) (k + 14) = str s12) (ex14 : (str l).extract k (k + 14 + n) = str t1) (ex22 : (str l).extract (k + 14 + n) (k + 22 + n) = str t2) (w : World) (hN : Hid (∀ W : World, Calls Tryz.prog 87 #[.string (str s12)] W fun e w' => e = .returned (.int .u64 (n : Int)) ∧ w' = W)) (hH : Hid (∀ W : World, Calls Tryz.prog 49 #[.string (str t1)] W fun e w' => e = .returned (.int .u64 (h1 : Int)) ∧ w' = W)) (hM : Hid (∀ W : World, Calls Tryz.prog 87 #[.string (str t2)] W fun e w' => e = .returned (.int .u64 (h2 : Int)) ∧ w' = W)) :
    Calls Tryz.prog 114 #[.string (str l), .int .i64 (k : Int)] w fun e w' => e = .returned (.tuple #[.agg #[.int .u8 0, .int .u64 0, .string ⟨#[]⟩], .int .i64 0]) ∧ Below w.heap.size w w' := by
  have htl : ((str [83, 65, 76]).toList == [83, 65, 76]) = true := by rw [str_toList]; rfl
  have a1 : ¬ ((m : Int) < (k : Int) + 22) := by omega
  have a2 : ¬ ((m : Int) < (k : Int) + 22 + (n : Int)) := by omega
  have w3 : IntKind.i64.wrap ((k : Int) + 3) = (k : Int) + 3 := by rw [IntKind.wrap_i64]; omega
  have w4 : IntKind.i64.wrap ((k : Int) + 4) = (k : Int) + 4 := by rw [IntKind.wrap_i64]; omega
  have w12 : IntKind.i64.wrap ((k : Int) + 12) = (k : Int) + 12 := by rw [IntKind.wrap_i64]; omega
  have w14 : IntKind.i64.wrap ((k : Int) + 14) = (k : Int) + 14 := by rw [IntKind.wrap_i64]; omega
  have w22 : IntKind.i64.wrap ((k : Int) + 22) = (k : Int) + 22 := by rw [IntKind.wrap_i64]; omega
  have wn : IntKind.i64.wrap (n : Int) = (n : Int) := by rw [IntKind.wrap_i64]; omega
  have w14n : IntKind.i64.wrap ((k : Int) + 14 + (n : Int)) = (k : Int) + 14 + (n : Int) := by rw [IntKind.wrap_i64]; omega
  have w22n : IntKind.i64.wrap ((k : Int) + 22 + (n : Int)) = (k : Int) + 22 + (n : Int) := by rw [IntKind.wrap_i64]; omega
  have w22' : IntKind.i64.wrap (22 + (n : Int)) = 22 + (n : Int) := by rw [IntKind.wrap_i64]; omega
  have hne' : ((h1 : Int) != (h2 : Int)) = true := by simp; omega
  clear hne
  rcases hkd with rfl | rfl | rfl
  all_goals
    go_enter Tryz.func114, Tryz.ntmps114
    go_wp2_with fail
    refine (hN.out _).mono ?_
    rintro e w' ⟨rfl, hw'⟩
    subst hw'
    go_wp2_with fail
    refine (hH.out _).mono ?_
    rintro e w' ⟨rfl, hw'⟩
    subst hw'
    go_wp2_with fail
    refine (hM.out _).mono ?_
    rintro e w' ⟨rfl, hw'⟩
    subst hw'
    go_wp2_with fail
    refine bodyPost_ret (v := .tuple #[.agg #[.int .u8 0, .int .u64 0, .string ⟨#[]⟩], .int .i64 0]) (by simp [results, Tryz.results114, go_sem]) rfl ?_
    exact ⟨rfl, (Below.refl _ _).alloc (Nat.le_refl _) _⟩
set_option maxRecDepth 100000 in
set_option maxHeartbeats 2000000 in
theorem right_yes (l : List UInt8) (m k : Nat) (hm : m ≤ 1000000) (hss : (str l).size = m) (n h1 h2 : Nat) (hkm : k + 22 + n ≤ m) (kd : UInt8) (hkd : kd = 77 ∨ kd = 70 ∨ kd = 82) (ex3 : (str l).extract k (k + 3) = str [83, 65, 76]) (ix3 : ∀ W : World, (Instr.index 9 (.string (str l)) (.int .i64 ((k : Int) + 3))).run Tryz.prog W = .ok (.int .u8 (kd.toNat : Int)) W) (s12 t1 t2 : List UInt8) (ex12 : (str l).extract (k + 12) (k + 14) = str s12) (ex14 : (str l).extract k (k + 14 + n) = str t1) (ex22 : (str l).extract (k + 14 + n) (k + 22 + n) = str t2) (t3 t4 : List UInt8) (ex4 : (str l).extract (k + 4) (k + 12) = str t3) (exb : (str l).extract (k + 14) (k + 14 + n) = str t4) (w : World) (hN : Hid (∀ W : World, Calls Tryz.prog 87 #[.string (str s12)] W fun e w' => e = .returned (.int .u64 (n : Int)) ∧ w' = W)) (hH : Hid (∀ W : World, Calls Tryz.prog 49 #[.string (str t1)] W fun e w' => e = .returned (.int .u64 (h1 : Int)) ∧ w' = W)) (hM : Hid (∀ W : World, Calls Tryz.prog 87 #[.string (str t2)] W fun e w' => e = .returned (.int .u64 (h1 : Int)) ∧ w' = W)) (hS : Hid (∀ W : World, Calls Tryz.prog 87 #[.string (str t3)] W fun e w' => e = .returned (.int .u64 (h2 : Int)) ∧ w' = W)) :
    Calls Tryz.prog 114 #[.string (str l), .int .i64 (k : Int)] w fun e w' => e = .returned (.tuple #[.agg #[.int .u8 (kd.toNat : Int), .int .u64 (h2 : Int), .string (str t4)], .int .i64 ((22 + n : Nat) : Int)]) ∧ Below w.heap.size w w' := by
  have htl : ((str [83, 65, 76]).toList == [83, 65, 76]) = true := by rw [str_toList]; rfl
  have a1 : ¬ ((m : Int) < (k : Int) + 22) := by omega
  have a2 : ¬ ((m : Int) < (k : Int) + 22 + (n : Int)) := by omega
  have w3 : IntKind.i64.wrap ((k : Int) + 3) = (k : Int) + 3 := by rw [IntKind.wrap_i64]; omega
  have w4 : IntKind.i64.wrap ((k : Int) + 4) = (k : Int) + 4 := by rw [IntKind.wrap_i64]; omega
  have w12 : IntKind.i64.wrap ((k : Int) + 12) = (k : Int) + 12 := by rw [IntKind.wrap_i64]; omega
  have w14 : IntKind.i64.wrap ((k : Int) + 14) = (k : Int) + 14 := by rw [IntKind.wrap_i64]; omega
  have w22 : IntKind.i64.wrap ((k : Int) + 22) = (k : Int) + 22 := by rw [IntKind.wrap_i64]; omega
  have wn : IntKind.i64.wrap (n : Int) = (n : Int) := by rw [IntKind.wrap_i64]; omega
  have w14n : IntKind.i64.wrap ((k : Int) + 14 + (n : Int)) = (k : Int) + 14 + (n : Int) := by rw [IntKind.wrap_i64]; omega
  have w22n : IntKind.i64.wrap ((k : Int) + 22 + (n : Int)) = (k : Int) + 22 + (n : Int) := by rw [IntKind.wrap_i64]; omega
  have w22' : IntKind.i64.wrap (22 + (n : Int)) = 22 + (n : Int) := by rw [IntKind.wrap_i64]; omega
  have g1 : (0 : Int) ≤ (k : Int) + 4 := by omega
  have g2 : (k : Int) + 4 ≤ (k : Int) + 12 := by omega
  have g3 : (k : Int) + 12 ≤ (m : Int) := by omega
  have g4 : (0 : Int) ≤ (k : Int) + 14 := by omega
  have g5 : (k : Int) + 14 ≤ (k : Int) + 14 + (n : Int) := by omega
  have g6 : (k : Int) + 14 + (n : Int) ≤ (m : Int) := by omega
  have n4 : ((k : Int) + 4).toNat = k + 4 := by omega
  have n12 : ((k : Int) + 12).toNat = k + 12 := by omega
  have n14 : ((k : Int) + 14).toNat = k + 14 := by omega
  have n14n : ((k : Int) + 14 + (n : Int)).toNat = k + 14 + n := by omega
  have hB : Below w.heap.size w (w.alloc (.cells #[.int .u8 0, .int .u64 0, .string ⟨#[]⟩] 148)) := (Below.refl _ _).alloc (Nat.le_refl _) _
  rcases hkd with rfl | rfl | rfl
  · go_enter Tryz.func114, Tryz.ntmps114
    go_wp2_with fail
    refine (hN.out _).mono ?_
    rintro e w' ⟨rfl, hw'⟩
    subst hw'
    go_wp2_with fail
    refine (hH.out _).mono ?_
    rintro e w' ⟨rfl, hw'⟩
    subst hw'
    go_wp2_with fail
    refine (hM.out _).mono ?_
    rintro e w' ⟨rfl, hw'⟩
    subst hw'
    go_wp2_with fail
    go_region_held3 (fun W => Below w.heap.size w W) (first | assumption | exact hB.drew | exact ((Below.refl _ _).alloc (Nat.le_refl _) _).drew)
      (first | (go_at_call 87; refine (hS.out _).mono ?_; rintro e w' ⟨rfl, rfl⟩))
    all_goals
      go_wp2_with fail
      refine bodyPost_ret (v := .tuple #[.agg #[.int .u8 77, .int .u64 (h2 : Int), .string (str t4)], .int .i64 (22 + (n : Int))]) (by simp [results, Tryz.results114, go_sem]) rfl ?_
      exact ⟨rfl, ((Below.refl _ _).alloc (Nat.le_refl _) _).drew⟩
  · go_enter Tryz.func114, Tryz.ntmps114
    go_wp2_with fail
    refine (hN.out _).mono ?_
    rintro e w' ⟨rfl, hw'⟩
    subst hw'
    go_wp2_with fail
    refine (hH.out _).mono ?_
    rintro e w' ⟨rfl, hw'⟩
    subst hw'
    go_wp2_with fail
    refine (hM.out _).mono ?_
    rintro e w' ⟨rfl, hw'⟩
    subst hw'
    go_wp2_with fail
    go_region_held3 (fun W => Below w.heap.size w W) (first | assumption | exact hB.drew | exact ((Below.refl _ _).alloc (Nat.le_refl _) _).drew)
      (first | (go_at_call 87; refine (hS.out _).mono ?_; rintro e w' ⟨rfl, rfl⟩))
    all_goals
      go_wp2_with fail
      refine bodyPost_ret (v := .tuple #[.agg #[.int .u8 70, .int .u64 (h2 : Int), .string (str t4)], .int .i64 (22 + (n : Int))]) (by simp [results, Tryz.results114, go_sem]) rfl ?_
      exact ⟨rfl, ((Below.refl _ _).alloc (Nat.le_refl _) _).drew⟩
  · go_enter Tryz.func114, Tryz.ntmps114
    go_wp2_with fail
    refine (hN.out _).mono ?_
    rintro e w' ⟨rfl, hw'⟩
    subst hw'
    go_wp2_with fail
    refine (hH.out _).mono ?_
    rintro e w' ⟨rfl, hw'⟩
    subst hw'
    go_wp2_with fail
    refine (hM.out _).mono ?_
    rintro e w' ⟨rfl, hw'⟩
    subst hw'
    go_wp2_with fail
    go_region_held3 (fun W => Below w.heap.size w W) (first | assumption | exact hB.drew | exact ((Below.refl _ _).alloc (Nat.le_refl _) _).drew)
      (first | (go_at_call 87; refine (hS.out _).mono ?_; rintro e w' ⟨rfl, rfl⟩))
    all_goals
      go_wp2_with fail
      refine bodyPost_ret (v := .tuple #[.agg #[.int .u8 82, .int .u64 (h2 : Int), .string (str t4)], .int .i64 (22 + (n : Int))]) (by simp [results, Tryz.results114, go_sem]) rfl ?_
      exact ⟨rfl, ((Below.refl _ _).alloc (Nat.le_refl _) _).drew⟩
theorem rright_walk (l : List UInt8) (k : Nat) (hl : l.length ≤ 1000000) (hk : k ≤ l.length) (w : World) :
    Calls Tryz.prog 114 #[.string (str l), .int .i64 (k : Int)] w fun e w' => e = .returned (rightV (l.drop k)) ∧ Below w.heap.size w w' := by
  have hss : (str l).size = l.length := str_size l
  obtain ⟨s, hs⟩ : ∃ s, s = l.drop k := ⟨_, rfl⟩
  rw [← hs]
  have hsl : s.length = l.length - k := by rw [hs, List.length_drop]
  by_cases c1 : 22 ≤ s.length
  · have ex3 : (str l).extract k (k + 3) = str (s.take 3) := by rw [str_extract, ← hs, show k + 3 - k = 3 from by omega]
    have ix3 := index_str l (k + 3) ((k : Int) + 3) (by omega) (by omega)
    have hg3 : l[k + 3]?.getD 0 = s.getD 3 0 := by rw [hs]; simp
    rw [hg3] at ix3
    by_cases c2 : s.take 3 = [83, 65, 76]
    · rw [c2] at ex3
      by_cases c3 : kindL (s.getD 3 0) = true
      · have hkd : s.getD 3 0 = 77 ∨ s.getD 3 0 = 70 ∨ s.getD 3 0 = 82 := by
          unfold kindL at c3
          simp only [Bool.or_eq_true, beq_iff_eq] at c3
          rcases c3 with (h | h) | h
          · exact .inl h
          · exact .inr (.inl h)
          · exact .inr (.inr h)
        have ex12 : (str l).extract (k + 12) (k + 14) = str ((s.drop 12).take 2) := by
          rw [str_extract, hs, List.drop_drop, show k + 14 - (k + 12) = 2 from by omega]
        have hN := hid_of (rnumber_walk ((s.drop 12).take 2) (by rw [List.length_take]; omega))
        have hnl := bodyN_lt s
        by_cases c4 : 22 + bodyN s ≤ s.length
        · have ex14 : (str l).extract k (k + 14 + bodyN s) = str (s.take (14 + bodyN s)) := by rw [str_extract, ← hs, show k + 14 + bodyN s - k = 14 + bodyN s from by omega]
          have ex22 : (str l).extract (k + 14 + bodyN s) (k + 22 + bodyN s) = str ((s.drop (14 + bodyN s)).take 8) := by
            rw [str_extract, show (l.drop (k + 14 + bodyN s)) = s.drop (14 + bodyN s) from by rw [hs, List.drop_drop]; congr 1; omega, show k + 22 + bodyN s - (k + 14 + bodyN s) = 8 from by omega]
          have ex4 : (str l).extract (k + 4) (k + 12) = str ((s.drop 4).take 8) := by
            rw [str_extract, hs, List.drop_drop, show k + 12 - (k + 4) = 8 from by omega]
          have exb : (str l).extract (k + 14) (k + 14 + bodyN s) = str ((s.drop 14).take (bodyN s)) := by
            rw [str_extract, show l.drop (k + 14) = s.drop 14 from by rw [hs, List.drop_drop], show k + 14 + bodyN s - (k + 14) = bodyN s from by omega]
          have hH := hid_of (rHash_l (s.take (14 + bodyN s)) (by rw [List.length_take]; omega))
          have hM := hid_of (rnumber_walk ((s.drop (14 + bodyN s)).take 8) (by rw [List.length_take]; omega))
          have hS := hid_of (rnumber_walk ((s.drop 4).take 8) (by rw [List.length_take]; omega))
          by_cases c5 : hashL (s.take (14 + bodyN s)) = numL ((s.drop (14 + bodyN s)).take 8)
          · have hr : isRight s = true := by
              unfold isRight
              rw [decide_eq_true c1, c2, c3, decide_eq_true c4, c5]
              simp
            have hyes : rightV s = .tuple #[.agg #[.int .u8 ((s.getD 3 0).toNat : Int), .int .u64 ((numL ((s.drop 4).take 8) : Nat) : Int), .string (str ((s.drop 14).take (bodyN s)))], .int .i64 ((22 + bodyN s : Nat) : Int)] := by
              unfold rightV rightL
              rw [hr, if_pos rfl]
              rfl
            rw [hyes]
            rw [c5] at hH
            exact right_yes l l.length k hl hss (bodyN s) _ _ (by omega) _ hkd ex3 ix3 _ _ _ ex12 ex14 ex22 _ _ ex4 exb w hN hH hM hS
          · have hno : isRight s = false := by
              unfold isRight
              rw [beq_eq_false_iff_ne.2 c5, Bool.and_false]
            rw [rightV_none hno]
            exact right_no5 l l.length k hl hss (bodyN s) _ _ (by omega) c5 _ hkd ex3 ix3 _ _ _ ex12 ex14 ex22 w hN hH hM
        · have hno : isRight s = false := by
            unfold isRight
            rw [decide_eq_false c4, Bool.and_false, Bool.false_and]
          rw [rightV_none hno]
          exact right_no4 l l.length k hl hss (by omega) (bodyN s) hnl (by omega) _ hkd ex3 ix3 _ ex12 w hN
      · have hno : isRight s = false := by
          unfold isRight
          rw [(by simpa using c3 : kindL (s.getD 3 0) = false), Bool.and_false, Bool.false_and, Bool.false_and]
        rw [rightV_none hno]
        exact right_no3 l l.length k hl hss (by omega) _ (by simpa using c3) ex3 ix3 w
    · have hno : isRight s = false := by
        unfold isRight
        rw [beq_eq_false_iff_ne.2 c2, Bool.and_false, Bool.false_and, Bool.false_and, Bool.false_and]
      rw [rightV_none hno]
      exact right_no2 l l.length k hl hss (by omega) _ ex3 c2 w
  · have hno : isRight s = false := by
      unfold isRight
      rw [decide_eq_false c1]
      rfl
    rw [rightV_none hno]
    exact right_no1 l l.length k hl hss (by omega) hk w
end Go.Proofs.YtonjphollmdicaaGreatDoor
namespace Go.Proofs.YtonjphollmdicaaGreatDoor
open Go.ChangeShapes Go.WideShapes Go.ChangeAt Go.RowKit
theorem ref_next {a b k a' p' : Nat} (hk : k < 16) (hm : p' ^^^ Math.lin (Math.pows (16 - k) a') (b / 2 ^ k) = Math.mul a b) :
    (p' ^^^ (if (b / 2 ^ k) % 2 = 1 then a' else 0)) ^^^ Math.lin (Math.pows (16 - (k + 1)) (Math.X a')) (b / 2 ^ (k + 1)) = Math.mul a b := by
  have e : 16 - k = (16 - (k + 1)) + 1 := by omega
  rw [e, lin_step, Nat.div_div_eq_div_mul, ← Nat.pow_succ] at hm
  exact hm
theorem x32_hi (a : Nat) (ha : a < 65536) (h : 65535 < 2 * (a : Int)) : bits BinOp.xor IntKind.u32 (2 * (a : Int)) 69643 = ((Math.X a : Nat) : Int) := by
  have h1 : a / 32768 = 1 := by omega
  have e := u32_xor_nat (2 * a) 69643 (by omega) (by omega)
  rw [show (2 * (a : Int)) = ((2 * a : Nat) : Int) from by omega, show ((69643 : Int)) = ((69643 : Nat) : Int) from rfl, e]
  congr 1
  have hr : (2 * a) % 65536 < 2 ^ 16 := Nat.mod_lt _ (by omega)
  have e1 : 2 * a = 65536 ^^^ (2 * a) % 65536 := by
    have h2 : (2 ^ 16 * 1 ||| (2 * a) % 65536) = 65536 ^^^ (2 * a) % 65536 := by
      apply Nat.eq_of_testBit_eq
      intro i
      have hp : (65536 : Nat) = 2 ^ 16 := rfl
      rw [hp]
      simp only [Nat.testBit_or, Nat.testBit_xor, Nat.mul_one, Nat.testBit_two_pow]
      by_cases hi : 16 = i
      · subst hi
        rw [Nat.testBit_lt_two_pow hr]
        rfl
      · simp [hi]
    have h3 := Nat.two_pow_add_eq_or_of_lt hr 1
    omega
  have e2 : (69643 : Nat) = 65536 ^^^ 4107 := by decide
  unfold Math.X
  simp only [h1]
  rw [e2]
  conv => lhs; rw [e1]
  rw [Math.xor4]
  simp
theorem x32_lo (a : Nat) (h : 2 * (a : Int) ≤ 65535) : 2 * (a : Int) = ((Math.X a : Nat) : Int) := by
  have h1 : a / 32768 = 0 := by omega
  unfold Math.X
  simp only [h1]
  simp
  omega
theorem bit_spelt (b k : Nat) : (((b : Int) / 2 ^ k).tmod 2 == 1) = decide ((b / 2 ^ k) % 2 = 1) := by
  have e : ((b : Int) / 2 ^ k) = ((b / 2 ^ k : Nat) : Int) := by simp
  rw [e, Int.tmod_eq_emod_of_nonneg (Int.natCast_nonneg _)]
  by_cases h : (b / 2 ^ k) % 2 = 1
  · simp only [h, decide_true]; simp only [beq_iff_eq]; omega
  · simp only [h, decide_false]; simp only [beq_eq_false_iff_ne]; omega
theorem refTimes_walk (a b : Nat) (ha : a < 65536) (_hb : b < 65536) (w : World) :
    Calls Tryz.prog 53 #[.int .u16 (a : Int), .int .u16 (b : Int)] w fun e w' => e = .returned (.int .u16 ((Math.mul a b : Nat) : Int)) ∧ w' = w := by
  go_enter Tryz.func53, Tryz.ntmps53
  go_wp2
  go_loop [5, 6, 7] (fun x p i => ∃ k a' p' : Nat, k ≤ 16 ∧ a' < 65536 ∧ p' < 65536 ∧ Hid (p' ^^^ Math.lin (Math.pows (16 - k) a') (b / 2 ^ k) = Math.mul a b) ∧ x = .int .u32 (a' : Int) ∧ p = .int .u32 (p' : Int) ∧ i = .int .i64 (k : Int))
                    (fun _ _ i => 16 - (intOf i).toNat)
  case atStart => exact ⟨0, a, 0, by omega, ha, by omega, hid_of (by simp [Math.mul]), by go_num, rfl, rfl⟩
  case round =>
    obtain ⟨k, a', p', hk, ha', hp', hm, rfl, rfl, rfl⟩ := hrel
    have hxor := u32_xor_nat p' a' (by omega) (by omega)
    have HX := hid_of hxor
    clear hxor
    have hpx : p' ^^^ a' < 65536 := Nat.xor_lt_two_pow (n := 16) hp' ha'
    have fin : k < 16 → ∀ x q : Int, x = ((Math.X a' : Nat) : Int) → (((((b : Int) / 2 ^ k).tmod 2 == 1) = true ∧ q = bits BinOp.xor IntKind.u32 (p' : Int) (a' : Int)) ∨ ((((b : Int) / 2 ^ k).tmod 2 == 1) = false ∧ q = (p' : Int))) →
        ((∃ k1 a1 p1 : Nat, k1 ≤ 16 ∧ a1 < 65536 ∧ p1 < 65536 ∧ Hid (p1 ^^^ Math.lin (Math.pows (16 - k1) a1) (b / 2 ^ k1) = Math.mul a b) ∧ Value.int IntKind.u32 x = .int .u32 (a1 : Int) ∧ Value.int IntKind.u32 q = .int .u32 (p1 : Int) ∧ Value.int IntKind.i64 ((k : Int) + 1) = .int .i64 (k1 : Int)) ∧
        16 - (intOf (Value.int IntKind.i64 ((k : Int) + 1))).toNat < 16 - (intOf (Value.int IntKind.i64 (k : Int))).toNat) := by
      intro hk16 x q hx hq
      have hn := ref_next hk16 hm.out
      refine ⟨⟨k + 1, Math.X a', p' ^^^ (if (b / 2 ^ k) % 2 = 1 then a' else 0), by omega, Math.X_lt a', ?_, hid_of hn, by rw [hx], ?_, by go_num⟩, ?_⟩
      · split
        · exact hpx
        · simpa using hp'
      · rcases hq with ⟨h, rfl⟩ | ⟨h, rfl⟩
        · rw [bit_spelt] at h
          rw [if_pos (of_decide_eq_true h), HX.out]
        · rw [bit_spelt] at h
          rw [if_neg (of_decide_eq_false h), Nat.xor_zero]
      · simp [intOf]; omega
    have FIN := hid_of fin
    clear fin
    go_wp2
    · exact FIN.out (by omega) _ _ (x32_hi a' ha' (by assumption)) (Or.inl ⟨by assumption, rfl⟩)
    · exact FIN.out (by omega) _ _ (x32_lo a' (by assumption)) (Or.inl ⟨by assumption, rfl⟩)
    · exact FIN.out (by omega) _ _ (x32_hi a' ha' (by assumption)) (Or.inr ⟨by assumption, rfl⟩)
    · exact FIN.out (by omega) _ _ (x32_lo a' (by assumption)) (Or.inr ⟨by assumption, rfl⟩)
    · have hk16 : k = 16 := by omega
      subst hk16
      have h := hm.out
      simp [Math.pows, Math.lin] at h
      subst h
      go_ret
      exact ⟨rfl, rfl⟩
theorem sTimes_walk (a b : Nat) (ha : a < 65536) (hb : b < 65536) (w : World) :
    Calls Tryz.prog 36 #[.int .u16 (a : Int), .int .u16 (b : Int)] w fun e w' => e = .returned (.int .u16 ((Math.mul a b : Nat) : Int)) ∧ w' = w := by
  go_enter Tryz.func36, Tryz.ntmps36
  go_wp2_with (go_at_call 60; refine (Times_walk a b ha hb w).mono ?_; rintro e w' ⟨rfl, rfl⟩)
  go_ret
  exact ⟨rfl, rfl⟩
end Go.Proofs.YtonjphollmdicaaGreatDoor
