import Derived.Test.YtonjphollmdicaaCreate
import Derived.Outline
import Derived.Deep.RegionWith
namespace Go.Proofs.Ytonjphollmdicaa
open Go.ChangeShapes Go.WideShapes Go.ChangeAt Go.RowKit

theorem byteAt_div (n k : Nat) : byteAt (n / 256) k = byteAt n (k + 1) := by
  unfold byteAt
  rw [Nat.div_div_eq_div_mul]
  congr 2
  rw [show 8 * (k + 1) = 8 + 8 * k from by omega, Nat.pow_add]
theorem numBytes_snoc (n : Nat) : ∀ k, numBytes n (k + 1) = numBytes (n / 256) k ++ [byteAt n 0] := by
  intro k
  induction k with
  | zero => rfl
  | succ k ih =>
    have e : numBytes n (k + 1 + 1) = byteAt n (k + 1) :: numBytes n (k + 1) := rfl
    rw [e, ih]
    simp only [numBytes, byteAt_div, List.cons_append]

theorem rHash_l (l : List UInt8) (hl : l.length ≤ 1000000) (w : World) :
    Calls Try.prog 30 #[.string (str l)] w fun e w' => e = .returned (.int .u64 ((hashL l : Nat) : Int)) ∧ w' = w := by
  have hs : (str l).size = l.length := str_size l
  go_enter Try.func30, Try.ntmps30
  go_wp2
  go_loop [3, 4] (fun x i => ∃ k h' : Nat, k ≤ l.length ∧ h' < P64 ∧ Hid ((l.drop k).foldl hashStep h' = hashL l) ∧ x = .int .u64 (h' : Int) ∧ i = .int .i64 (k : Int))
                    (fun _ i => l.length - (intOf i).toNat)
  case atStart => exact ⟨0, 14695981039346656037, by omega, by decide, hid_of rfl, rfl, rfl⟩
  case round =>
    obtain ⟨k, h', hk, hh', hm, rfl, rfl⟩ := hrel
    by_cases hlt : k < l.length
    · have hix := index_str l k (k : Int) rfl hlt
      go_wp2
      refine ⟨⟨k + 1, hashStep h' l[k], by omega, hashStep_lt _ _, hid_of ?_, by rw [hashStep_spelt h' hh'], by go_num⟩, ?_⟩
      · have := hm.out
        rw [List.drop_eq_getElem_cons hlt, List.foldl_cons] at this
        exact this
      · simp [intOf]; omega
    · have hk2 : k = l.length := by omega
      subst hk2
      go_wp2
      go_ret
      have := hm.out
      rw [List.drop_eq_nil_of_le (Nat.le_refl _)] at this
      simp only [List.foldl_nil] at this
      rw [← this]
      exact ⟨rfl, rfl⟩

theorem conv_cell (W : World) (g : Nat) (b : UInt8) (x : Int) (hx : x = (b.toNat : Int)) (hc : W.cell? ⟨g, 0, none⟩ = some (.int .u8 x)) :
    (convert 83 9 (.slice (some ⟨g, 0, none⟩) 1 1)).run Try.prog W = .ok (.string (str [b])) W := by
  subst hx
  exact run_convert_bytes_back (P := Try.prog) W 83 9 5 ⟨g, 0, none⟩ 1 [b] Try.underlying83 Try.underlying5 Try.underlying9 (by
    intro j hj
    have : j = 0 := by simpa using hj
    subst this
    simpa [Addr.add] using hc)
theorem conv_old {W w1 : World} (hb : Below W.heap.size W w1) (g : Nat) (b : UInt8) (x : Int) (hx : x = (b.toNat : Int)) : W.cell? ⟨g, 0, none⟩ = some (.int .u8 x) → (convert 83 9 (.slice (some ⟨g, 0, none⟩) 1 1)).run Try.prog w1 = .ok (.string (str [b])) w1 := by
  intro h
  refine conv_cell w1 g b x hx ?_
  rw [hb.cell (World.block_lt_of_cell? W _ h)]
  exact h

set_option maxRecDepth 100000 in
set_option maxHeartbeats 1000000 in
theorem rBytes_walk : ∀ (k n : Nat) (w : World), k ≤ 8 → n < P64 →
    Calls Try.prog 28 #[.int .u64 (n : Int), .int .i64 (k : Int)] w fun e w' => e = .returned (.string (str (numBytes n k))) ∧ Below w.heap.size w w' := by
  intro k
  induction k with
  | zero =>
    intro n w _ _
    go_enter Try.func28, Try.ntmps28
    go_wp2
    go_ret
    exact ⟨rfl, Below.refl _ _⟩
  | succ k ih =>
    intro n w hk hn
    have IH := fun W => ih (n / 256) W (by omega) (Nat.lt_of_le_of_lt (Nat.div_le_self _ _) hn)
    have HIH := hid_of IH
    have hx : IntKind.u8.wrap ((n : Int).tmod 256) = ((byteAt n 0).toNat : Int) := by
      rw [← byteAt_spelt, Int.tmod_eq_emod_of_nonneg (by omega), IntKind.wrap_u8']
      simp
    have HX := hid_of hx
    have hconv : ∀ W : World, (convert 83 9 (.slice (some ⟨W.heap.size, 0, none⟩) 1 1)).run Try.prog (W.alloc (.cells #[.int .u8 (IntKind.u8.wrap ((n : Int).tmod 256))] 5)) = .ok (.string (str [byteAt n 0])) (W.alloc (.cells #[.int .u8 (IntKind.u8.wrap ((n : Int).tmod 256))] 5)) :=
      fun W => conv_cell _ W.heap.size _ _ hx (by simp)
    have hconv' : ∀ W : World, (convert 83 9 (.slice (some ⟨W.heap.size, 0, none⟩) 1 1)).run Try.prog (W.alloc (.cells #[.int .u8 (IntKind.u8.wrap ((n : Int).tmod 256))] 5)).drew = .ok (.string (str [byteAt n 0])) (W.alloc (.cells #[.int .u8 (IntKind.u8.wrap ((n : Int).tmod 256))] 5)).drew :=
      fun W => conv_cell _ W.heap.size _ _ hx (by simp)
    obtain ⟨cb, hcb⟩ : ∃ c, c = byteAt n 0 := ⟨_, rfl⟩
    have hfin : numBytes n (k + 1) = numBytes (n / 256) k ++ [cb] := by rw [hcb]; exact numBytes_snoc n k
    rw [← hcb] at hconv hconv' HX
    have HF := hid_of hfin
    have hsz : (str (numBytes (n / 256) k)).size + (str [cb]).size ≤ 9223372036854775807 := by rw [str_size, str_size, numBytes_len]; simp; omega
    have hcat : str (numBytes (n / 256) k) ++ str [cb] = str (numBytes n (k + 1)) := by rw [str_add, str_data, hfin]
    have HCAT := hid_of hcat
    obtain ⟨q, hq⟩ : ∃ q, q = n / 256 := ⟨_, rfl⟩
    rw [← hq] at HIH hsz HCAT
    have eq1 : ((n : Int) / 256) = (q : Int) := by rw [hq]; omega
    have hn' : n < 18446744073709551616 := hn
    have wq : IntKind.u64.wrap (q : Int) = (q : Int) := by rw [IntKind.wrap_u64]; omega
    have wk : IntKind.i64.wrap (k : Int) = (k : Int) := by rw [IntKind.wrap_i64]; omega
    have HN := hid_of hn'
    clear hn'
    clear IH ih hx hcb hfin hcat hq
    go_enter Try.func28, Try.ntmps28
    go_wp2_with fail
    go_region_with (go_at_call 28; refine (HIH.out _).mono ?_; rintro e w1 ⟨rfl, hb1⟩; have hcq := conv_old hb1 w.heap.size cb (IntKind.u8.wrap ((n : Int).tmod 256)) HX.out; (try simp at hcq))
    all_goals go_wp2_with fail
    all_goals go_ret
    all_goals refine ⟨congrArg (fun s => Ending.returned (Value.string s)) HCAT.out, ?_⟩
    · exact Below.alloc (Below.next (w1 := w.drew) (Below.refl _ _).drew hb1) hb1.size _
    · exact Below.next (w1 := (w.alloc (Obj.cells #[Value.int IntKind.u8 (IntKind.u8.wrap ((n : Int).tmod 256))] 5)).drew) ((Below.refl _ _).alloc (Nat.le_refl _) _).drew hb1
    · exact Below.next (w1 := (w.alloc (Obj.cells #[Value.int IntKind.u8 (IntKind.u8.wrap ((n : Int).tmod 256))] 5)).drew) ((Below.refl _ _).alloc (Nat.le_refl _) _).drew hb1
end Go.Proofs.Ytonjphollmdicaa
