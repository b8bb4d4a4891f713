import Derived.Test.YtonjphollmdicaaPackets

namespace Go.Proofs.Ytonjphollmdicaa
open Go.ChangeShapes Go.WideShapes Go.ChangeAt Go.RowKit

/-- what every call of Create asks of its files -/
structure Handed (w : World) (fs : List FileL) (a : Option Addr) (cap : Nat) : Prop where
  rd : Rd w a (filesV fs)
  cap1 : fs.length ≤ cap
  short : ∀ f ∈ fs, f.1.length < 140737488355328 ∧ f.2.length < 140737488355328

def badArg (b x : Int) : Bool := !sliceSize b || decide (x < 0) || decide (20 < x)

set_option maxRecDepth 100000 in
theorem Create_arg (fs : List FileL) (b x : Int) (a : Option Addr) (cap : Nat) (h : badArg b x = true) (w : World) :
    Calls Try.prog 10 #[.slice a fs.length cap, .int .i64 b, .int .i64 x] w fun e w' => e = .returned (.tuple #[.slice none 0 0, .int .i64 1]) ∧ Below w.heap.size w w' := by
  by_cases h1 : sliceSize b = true
  · by_cases h2 : x < 0
    · go_enter Try.func10, Try.ntmps10
      go_wp2_with (go_at_call 21; refine (IsSliceSize_walk b w).mono ?_; rintro e w' ⟨rfl, rfl⟩)
      go_ret2
      exact ⟨rfl, Below.refl _ _⟩
    · have h3 : 20 < x := by
        unfold badArg at h
        simp [h1] at h
        omega
      go_enter Try.func10, Try.ntmps10
      go_wp2_with (go_at_call 21; refine (IsSliceSize_walk b w).mono ?_; rintro e w' ⟨rfl, rfl⟩)
      go_ret2
      exact ⟨rfl, Below.refl _ _⟩
  · have h1' : sliceSize b = false := by simpa using h1
    clear h1
    go_enter Try.func10, Try.ntmps10
    go_wp2_with (go_at_call 21; refine (IsSliceSize_walk b w).mono ?_; rintro e w' ⟨rfl, rfl⟩)
    go_ret2
    exact ⟨rfl, Below.refl _ _⟩

/-- the numbers may be: then the slice size is a number of ours -/
theorem good_arg {b x : Int} (h : badArg b x = false) : ∃ size extra : Nat, b = (size : Int) ∧ x = (extra : Int) ∧ 0 < size ∧ size ≤ 32 ∧ size % 2 = 0 ∧ extra ≤ 20 ∧ sliceSize b = true := by
  unfold badArg at h
  simp only [Bool.or_eq_false_iff, Bool.not_eq_false', decide_eq_false_iff_not] at h
  obtain ⟨⟨h1, h2⟩, h3⟩ := h
  have h4 := of_decide_eq_true h1
  exact ⟨b.toNat, x.toNat, by omega, by omega, by omega, by omega, by omega, by omega, h1⟩

theorem set_facts {fs : List FileL} (h : isSetL fs = true) : 1 ≤ fs.length ∧ fs.length ≤ 6 ∧ ∀ f ∈ fs, f.1.length ≤ 20 ∧ f.2.length ≤ 400 := by
  unfold isSetL at h
  rw [Bool.and_eq_true] at h
  have h1 := of_decide_eq_true h.1
  refine ⟨h1.1, h1.2, ?_⟩
  intro f hf
  obtain ⟨i, hi, rfl⟩ := List.mem_iff_getElem.1 hf
  have h2 := (List.all_eq_true.1 h.2) i (by simpa using hi)
  unfold okAt at h2
  rw [List.getElem?_eq_getElem hi] at h2
  rw [Bool.and_eq_true] at h2
  have h3 := of_decide_eq_true h2.1
  exact ⟨h3.2.1, h3.2.2⟩

def goodSet (fs : List FileL) (size : Nat) : Bool := isSetL fs && decide (1 ≤ countL fs size) && decide (countL fs size ≤ 60)

set_option maxRecDepth 100000 in
theorem Create_file (fs : List FileL) (b x : Int) (size extra : Nat) (a : Option Addr) (cap : Nat) (hb : b = (size : Int)) (hx : x = (extra : Int)) (h0 : 0 < size) (h32 : size ≤ 32) (hex : extra ≤ 20) (hss : sliceSize b = true) (h : goodSet fs size = false) (w : World) (hh : Handed w fs a cap) :
    Calls Try.prog 10 #[.slice a fs.length cap, .int .i64 b, .int .i64 x] w fun e w' => e = .returned (.tuple #[.slice none 0 0, .int .i64 2]) ∧ Below w.heap.size w w' := by
  have e1 : ¬ x < 0 := by omega
  have e2 : ¬ 20 < x := by omega
  have HB := hid_of hb
  have HX := hid_of hx
  clear hb hx
  by_cases h1 : isSetL fs = true
  · obtain ⟨hn1, hn2, hf⟩ := set_facts h1
    have hC := fun W (hW : Below w.heap.size w W) => CountSlices_walk fs size a cap h0 h32 hn2 (fun f hm => (hf f hm).2) W (hh.rd.later (Nat.le_refl _) hW)
    rw [← HB.out] at hC
    have HC := hid_of hC
    have HH := hid_of hh
    clear hC hf
    have hcnt : countL fs size < 1 ∨ 60 < countL fs size := by
      unfold goodSet at h
      simp [h1] at h
      omega
    obtain ⟨c, hc⟩ : ∃ c, c = countL fs size := ⟨_, rfl⟩
    rw [← hc] at hcnt HC
    clear hc h
    rcases hcnt with h2 | h2
    · go_enter Try.func10, Try.ntmps10
      go_wp2_with fail
      refine (IsSliceSize_walk b w).mono ?_
      rintro e w' ⟨rfl, rfl⟩
      go_wp2_with fail
      refine (IsSet_walk fs a cap HH.out.cap1 HH.out.short _ HH.out.rd).mono ?_
      rintro e w1 ⟨rfl, hb1⟩
      go_wp2_with fail
      refine (HC.out w1 hb1).mono ?_
      rintro e w2 ⟨rfl, hb2⟩
      go_wp2_with fail
      go_ret2
      exact ⟨rfl, Below.next hb1 hb2⟩
    · go_enter Try.func10, Try.ntmps10
      go_wp2_with fail
      refine (IsSliceSize_walk b w).mono ?_
      rintro e w' ⟨rfl, rfl⟩
      go_wp2_with fail
      refine (IsSet_walk fs a cap HH.out.cap1 HH.out.short _ HH.out.rd).mono ?_
      rintro e w1 ⟨rfl, hb1⟩
      go_wp2_with fail
      refine (HC.out w1 hb1).mono ?_
      rintro e w2 ⟨rfl, hb2⟩
      go_wp2_with fail
      go_ret2
      exact ⟨rfl, Below.next hb1 hb2⟩
  · have h1' : isSetL fs = false := by simpa using h1
    have HH := hid_of hh
    clear h1 h hh
    go_enter Try.func10, Try.ntmps10
    go_wp2_with fail
    refine (IsSliceSize_walk b w).mono ?_
    rintro e w' ⟨rfl, rfl⟩
    go_wp2_with fail
    refine (IsSet_walk fs a cap HH.out.cap1 HH.out.short _ HH.out.rd).mono ?_
    rintro e w1 ⟨rfl, hb1⟩
    go_wp2_with fail
    go_ret2
    exact ⟨rfl, hb1⟩

set_option maxRecDepth 100000 in
theorem Create_ok (fs : List FileL) (b x : Int) (size extra : Nat) (a : Option Addr) (cap : Nat) (hb : b = (size : Int)) (hx : x = (extra : Int)) (h0 : 0 < size) (h32 : size ≤ 32) (heven : size % 2 = 0) (hex : extra ≤ 20) (hss : sliceSize b = true) (h : goodSet fs size = true) (w : World) (hh : Handed w fs a cap) :
    Calls Try.prog 10 #[.slice a fs.length cap, .int .i64 b, .int .i64 x] w fun e w' => ∃ v, e = .returned (.tuple #[v, .int .i64 0]) ∧ w'.ownsRow w.heap.size 9 1 v (1 + fs.length + extra) (strV (packetsL size fs extra)) ∧ Below w.heap.size w w' := by
  have e1 : ¬ x < 0 := by omega
  have e2 : ¬ 20 < x := by omega
  unfold goodSet at h
  rw [Bool.and_eq_true, Bool.and_eq_true] at h
  obtain ⟨⟨h1, h2⟩, h3⟩ := h
  have h2 := of_decide_eq_true h2
  have h3 := of_decide_eq_true h3
  obtain ⟨hn1, hn2, hf⟩ := set_facts h1
  have hC := fun W (hW : Below w.heap.size w W) => CountSlices_walk fs size a cap h0 h32 hn2 (fun f hm => (hf f hm).2) W (hh.rd.later (Nat.le_refl _) hW)
  have hP := fun W (hW : Below w.heap.size w W) => makePackets_walk fs size extra a cap hn2 h0 h32 heven hf h2 h3 hex W (hh.rd.later (Nat.le_refl _) hW)
  rw [← hb] at hC hP
  rw [← hx] at hP
  obtain ⟨c, hc⟩ : ∃ c, c = countL fs size := ⟨_, rfl⟩
  rw [← hc] at h2 h3 hC
  have HC := hid_of hC
  have HP := hid_of hP
  have HH := hid_of hh
  have HB := hid_of hb
  have HX := hid_of hx
  clear hC hP hh hf hb hx hc
  go_enter Try.func10, Try.ntmps10
  go_wp2_with fail
  refine (IsSliceSize_walk b w).mono ?_
  rintro e w' ⟨rfl, rfl⟩
  go_wp2_with fail
  refine (IsSet_walk fs a cap HH.out.cap1 HH.out.short _ HH.out.rd).mono ?_
  rintro e w1 ⟨rfl, hb1⟩
  go_wp2_with fail
  refine (HC.out w1 hb1).mono ?_
  rintro e w2 ⟨rfl, hb2⟩
  have hb12 := Below.next hb1 hb2
  go_wp2_with fail
  refine (HP.out w2 hb12).mono ?_
  rintro e w3 ⟨v, rfl, hown, hb3⟩
  have hfin := Below.next hb12 hb3
  have hown' := ownsRow_base hb12.size hown
  clear hown hb3
  go_wp2_with fail
  go_ret2
  exact ⟨_, rfl, hown', hfin⟩
end Go.Proofs.Ytonjphollmdicaa
