import Derived.Test.YtonjphollmdicaaRowText

namespace Go.Proofs.Ytonjphollmdicaa
open Go.ChangeShapes Go.WideShapes Go.ChangeAt Go.RowKit

/-- the product of the differences of point i from all the others -/
def diffStep (pts : List Nat) (i : Nat) (p k : Nat) : Nat := if k = i then p else Math.mul p (pts.getD i 0 ^^^ pts.getD k 0)
def diffL (pts : List Nat) (i : Nat) : Nat := (List.range pts.length).foldl (diffStep pts i) 1

theorem xor_lt16 {a b : Nat} (ha : a < 65536) (hb : b < 65536) : a ^^^ b < 65536 := Nat.xor_lt_two_pow (n := 16) ha hb
theorem getD_lt {l : List Nat} (h : ∀ x ∈ l, x < 65536) (i : Nat) : l.getD i 0 < 65536 := by
  rw [List.getD_eq_getElem?_getD]
  rcases Nat.lt_or_ge i l.length with hi | hi
  · rw [List.getElem?_eq_getElem hi]; exact h _ (List.getElem_mem hi)
  · rw [List.getElem?_eq_none hi]; decide
theorem diffStep_lt {pts : List Nat} {i p k : Nat} (hp : p < 65536) : diffStep pts i p k < 65536 := by
  unfold diffStep
  split
  · exact hp
  · exact Math.mul_lt hp _
theorem foldl_lt {α : Type} (f : Nat → α → Nat) (hf : ∀ p k, p < 65536 → f p k < 65536) (l : List α) : ∀ p, p < 65536 → l.foldl f p < 65536 := by
  induction l with
  | nil => intro p hp; exact hp
  | cons x l ih => intro p hp; exact ih _ (hf _ _ hp)
theorem diffL_lt (pts : List Nat) (i : Nat) : diffL pts i < 65536 := foldl_lt _ (fun _ _ h => diffStep_lt h) _ _ (by decide)

theorem u16_get {r : List Nat} {w : World} {a : Option Addr} (h : Rd w a (u16V r)) (k : Nat) (hk : k < r.length) : ∃ b off, a = some ⟨b, off, none⟩ ∧ w.cell? ⟨b, off + k, none⟩ = some (.int .u16 ((r.getD k 0 : Nat) : Int)) := by
  refine h k _ ?_
  simp [u16V, hk]

set_option maxRecDepth 100000 in
theorem differences_walk (pts : List Nat) (i : Nat) (a : Option Addr) (cap : Nat) (hn : pts.length ≤ 1000) (hi : i < pts.length) (hp : ∀ x ∈ pts, x < 65536) (w : World) (hrd : Rd w a (u16V pts)) :
    Calls Try.prog 66 #[.slice a pts.length cap, .int .i64 (i : Int)] w fun e w' => e = .returned (.int .u16 ((diffL pts i : Nat) : Int)) ∧ w' = w := by
  obtain ⟨b, off, rfl, hci⟩ := u16_get hrd i hi
  have hpi := getD_lt hp i
  obtain ⟨pi, hpie⟩ : ∃ x, x = pts.getD i 0 := ⟨_, rfl⟩
  rw [← hpie] at hci hpi
  have HPI := hid_of hpie
  clear hpie
  go_enter Try.func66, Try.ntmps66
  go_wp2
  go_loop [5, 6, 7, 10] (fun p _ _ j => ∃ k p' : Nat, k ≤ pts.length ∧ p' < 65536 ∧ p = .int .u16 (p' : Int) ∧ j = .int .i64 (k : Int) ∧ Hid (p' = (List.range k).foldl (diffStep pts i) 1))
    (fun _ _ _ j => pts.length - (intOf j).toNat)
  case atStart => exact ⟨0, 1, by omega, by omega, rfl, rfl, hid_of rfl⟩
  case round =>
    obtain ⟨k, p', hk, hp', rfl, rfl, hd⟩ := hrel
    by_cases hlt : k < pts.length
    · obtain ⟨b', off', e, hck⟩ := u16_get hrd k hlt
      cases e
      have hpk := getD_lt hp k
      obtain ⟨pk, hpke⟩ : ∃ x, x = pts.getD k 0 := ⟨_, rfl⟩
      rw [← hpke] at hck hpk
      have HPK := hid_of hpke
      clear hpke
      have hx := xor16 pi pk hpi hpk
      have hnext : diffStep pts i p' k = (List.range (k + 1)).foldl (diffStep pts i) 1 := by
        rw [List.range_succ, List.foldl_append, ← hd.out]; rfl
      have HN := hid_of hnext
      clear hnext
      by_cases hki : k = i
      · have e1 : ((k : Int) == (i : Int)) = true := by simp; omega
        have e2 : ((k : Int) != (i : Int)) = false := by simp; omega
        have h3 : diffStep pts i p' k = p' := by unfold diffStep; rw [if_pos hki]
        have H3 := hid_of h3
        have HK := hid_of hki
        clear h3 hki
        go_wp2_with fail
        refine ⟨⟨k + 1, p', by omega, hp', rfl, by go_num, hid_of ?_⟩, by simp [intOf]; omega⟩
        rw [← HN.out, H3.out]
      · have e2 : ((k : Int) != (i : Int)) = true := by simp; omega
        have h3 : diffStep pts i p' k = Math.mul p' (pi ^^^ pk) := by unfold diffStep; rw [if_neg hki, ← HPI.out, ← HPK.out]
        have H3 := hid_of h3
        have HK := hid_of hki
        clear h3 hki
        go_wp2_with fail
        refine (Times_walk p' (pi ^^^ pk) hp' (xor_lt16 hpi hpk) _).mono ?_
        rintro e w' ⟨rfl, rfl⟩
        go_wp2_with fail
        refine ⟨⟨k + 1, Math.mul p' (pi ^^^ pk), by omega, Math.mul_lt hp' _, rfl, by go_num, hid_of ?_⟩, by simp [intOf]; omega⟩
        rw [← HN.out, H3.out]
    · obtain rfl : k = pts.length := by omega
      go_wp2
      go_ret
      refine ⟨?_, rfl⟩
      have := hd.out
      rw [this]
      rfl
end Go.Proofs.Ytonjphollmdicaa
