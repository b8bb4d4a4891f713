import Derived.Test.YtonjphollmdicaaGreatDoorB09
import Derived.Test.YtonjphollmdicaaGreatDoorB12
namespace Go.Proofs.YtonjphollmdicaaGreatDoor
open Go.ChangeShapes Go.WideShapes Go.ChangeAt Go.RowKit

/-- what every call of Create asks of its files -/
structure Handed (w : World) (fs : List FileL) (a : Option Addr) (cap : Nat) : Prop where
  rd : Rd w a (filesV fs)
  cap1 : fs.length ≤ cap
  short : ∀ f ∈ fs, f.1.length < 140737488355328 ∧ f.2.length < 140737488355328

def badArg (b x : Int) : Bool := !sliceSize b || decide (x < 0) || decide (20 < x)

set_option maxRecDepth 100000 in
theorem Create_arg (fs : List FileL) (b x : Int) (a : Option Addr) (cap : Nat) (h : badArg b x = true) (w : World) :
    Calls Tryz.prog 37 #[.slice a fs.length cap, .int .i64 b, .int .i64 x] w fun e w' => e = .returned (.tuple #[.slice none 0 0, .int .i64 1]) ∧ Below w.heap.size w w' := by
  by_cases h1 : sliceSize b = true
  · by_cases h2 : x < 0
    · go_enter Tryz.func37, Tryz.ntmps37
      go_wp2_with (go_at_call 61; refine (IsSliceSize_walk b w).mono ?_; rintro e w' ⟨rfl, rfl⟩)
      go_ret2
      exact ⟨rfl, Below.refl _ _⟩
    · have h3 : 20 < x := by
        unfold badArg at h
        simp [h1] at h
        omega
      go_enter Tryz.func37, Tryz.ntmps37
      go_wp2_with (go_at_call 61; refine (IsSliceSize_walk b w).mono ?_; rintro e w' ⟨rfl, rfl⟩)
      go_ret2
      exact ⟨rfl, Below.refl _ _⟩
  · have h1' : sliceSize b = false := by simpa using h1
    clear h1
    go_enter Tryz.func37, Tryz.ntmps37
    go_wp2_with (go_at_call 61; refine (IsSliceSize_walk b w).mono ?_; rintro e w' ⟨rfl, rfl⟩)
    go_ret2
    exact ⟨rfl, Below.refl _ _⟩

/-- the numbers may be: then the slice size is a number of ours -/
theorem good_arg {b x : Int} (h : badArg b x = false) : ∃ size extra : Nat, b = (size : Int) ∧ x = (extra : Int) ∧ 0 < size ∧ size ≤ 32 ∧ size % 2 = 0 ∧ extra ≤ 20 ∧ sliceSize b = true := by
  unfold badArg at h
  simp only [Bool.or_eq_false_iff, Bool.not_eq_false', decide_eq_false_iff_not] at h
  obtain ⟨⟨h1, h2⟩, h3⟩ := h
  have h4 := of_decide_eq_true h1
  exact ⟨b.toNat, x.toNat, by omega, by omega, by omega, by omega, by omega, by omega, h1⟩

theorem set_facts {fs : List FileL} (h : isSetL fs = true) : 1 ≤ fs.length ∧ fs.length ≤ 6 ∧ ∀ f ∈ fs, f.1.length ≤ 20 ∧ f.2.length ≤ 400 := by
  unfold isSetL at h
  rw [Bool.and_eq_true] at h
  have h1 := of_decide_eq_true h.1
  refine ⟨h1.1, h1.2, ?_⟩
  intro f hf
  obtain ⟨i, hi, rfl⟩ := List.mem_iff_getElem.1 hf
  have h2 := (List.all_eq_true.1 h.2) i (by simpa using hi)
  unfold okAt at h2
  rw [List.getElem?_eq_getElem hi] at h2
  rw [Bool.and_eq_true] at h2
  have h3 := of_decide_eq_true h2.1
  exact ⟨h3.2.1, h3.2.2⟩

def goodSet (fs : List FileL) (size : Nat) : Bool := isSetL fs && decide (1 ≤ countL fs size) && decide (countL fs size ≤ 60)

set_option maxRecDepth 100000 in
theorem Create_file (fs : List FileL) (b x : Int) (size extra : Nat) (a : Option Addr) (cap : Nat) (hb : b = (size : Int)) (hx : x = (extra : Int)) (h0 : 0 < size) (h32 : size ≤ 32) (hex : extra ≤ 20) (hss : sliceSize b = true) (h : goodSet fs size = false) (w : World) (hh : Handed w fs a cap) :
    Calls Tryz.prog 37 #[.slice a fs.length cap, .int .i64 b, .int .i64 x] w fun e w' => e = .returned (.tuple #[.slice none 0 0, .int .i64 2]) ∧ Below w.heap.size w w' := by
  have e1 : ¬ x < 0 := by omega
  have e2 : ¬ 20 < x := by omega
  have HB := hid_of hb
  have HX := hid_of hx
  clear hb hx
  by_cases h1 : isSetL fs = true
  · obtain ⟨hn1, hn2, hf⟩ := set_facts h1
    have hC := fun W (hW : Below w.heap.size w W) => CountSlices_walk fs size a cap h0 h32 hn2 (fun f hm => (hf f hm).2) W (hh.rd.later (Nat.le_refl _) hW)
    rw [← HB.out] at hC
    have HC := hid_of hC
    have HH := hid_of hh
    clear hC hf
    have hcnt : countL fs size < 1 ∨ 60 < countL fs size := by
      unfold goodSet at h
      simp [h1] at h
      omega
    obtain ⟨c, hc⟩ : ∃ c, c = countL fs size := ⟨_, rfl⟩
    rw [← hc] at hcnt HC
    clear hc h
    rcases hcnt with h2 | h2
    · go_enter Tryz.func37, Tryz.ntmps37
      go_wp2_with fail
      refine (IsSliceSize_walk b w).mono ?_
      rintro e w' ⟨rfl, rfl⟩
      go_wp2_with fail
      refine (IsSet_walk fs a cap HH.out.cap1 HH.out.short _ HH.out.rd).mono ?_
      rintro e w1 ⟨rfl, hb1⟩
      go_wp2_with fail
      refine (HC.out w1 hb1).mono ?_
      rintro e w2 ⟨rfl, hb2⟩
      go_wp2_with fail
      go_ret2
      exact ⟨rfl, Below.next hb1 hb2⟩
    · go_enter Tryz.func37, Tryz.ntmps37
      go_wp2_with fail
      refine (IsSliceSize_walk b w).mono ?_
      rintro e w' ⟨rfl, rfl⟩
      go_wp2_with fail
      refine (IsSet_walk fs a cap HH.out.cap1 HH.out.short _ HH.out.rd).mono ?_
      rintro e w1 ⟨rfl, hb1⟩
      go_wp2_with fail
      refine (HC.out w1 hb1).mono ?_
      rintro e w2 ⟨rfl, hb2⟩
      go_wp2_with fail
      go_ret2
      exact ⟨rfl, Below.next hb1 hb2⟩
  · have h1' : isSetL fs = false := by simpa using h1
    have HH := hid_of hh
    clear h1 h hh
    go_enter Tryz.func37, Tryz.ntmps37
    go_wp2_with fail
    refine (IsSliceSize_walk b w).mono ?_
    rintro e w' ⟨rfl, rfl⟩
    go_wp2_with fail
    refine (IsSet_walk fs a cap HH.out.cap1 HH.out.short _ HH.out.rd).mono ?_
    rintro e w1 ⟨rfl, hb1⟩
    go_wp2_with fail
    go_ret2
    exact ⟨rfl, hb1⟩

set_option maxRecDepth 100000 in
theorem Create_ok (fs : List FileL) (b x : Int) (size extra : Nat) (a : Option Addr) (cap : Nat) (hb : b = (size : Int)) (hx : x = (extra : Int)) (h0 : 0 < size) (h32 : size ≤ 32) (heven : size % 2 = 0) (hex : extra ≤ 20) (hss : sliceSize b = true) (h : goodSet fs size = true) (w : World) (hh : Handed w fs a cap) :
    Calls Tryz.prog 37 #[.slice a fs.length cap, .int .i64 b, .int .i64 x] w fun e w' => ∃ v, e = .returned (.tuple #[v, .int .i64 0]) ∧ w'.ownsRow w.heap.size 9 1 v (1 + fs.length + extra) (strV (packetsL size fs extra)) ∧ Below w.heap.size w w' := by
  have e1 : ¬ x < 0 := by omega
  have e2 : ¬ 20 < x := by omega
  unfold goodSet at h
  rw [Bool.and_eq_true, Bool.and_eq_true] at h
  obtain ⟨⟨h1, h2⟩, h3⟩ := h
  have h2 := of_decide_eq_true h2
  have h3 := of_decide_eq_true h3
  obtain ⟨hn1, hn2, hf⟩ := set_facts h1
  have hC := fun W (hW : Below w.heap.size w W) => CountSlices_walk fs size a cap h0 h32 hn2 (fun f hm => (hf f hm).2) W (hh.rd.later (Nat.le_refl _) hW)
  have hP := fun W (hW : Below w.heap.size w W) => makePackets_walk fs size extra a cap hn2 h0 h32 heven hf h2 h3 hex W (hh.rd.later (Nat.le_refl _) hW)
  rw [← hb] at hC hP
  rw [← hx] at hP
  obtain ⟨c, hc⟩ : ∃ c, c = countL fs size := ⟨_, rfl⟩
  rw [← hc] at h2 h3 hC
  have HC := hid_of hC
  have HP := hid_of hP
  have HH := hid_of hh
  have HB := hid_of hb
  have HX := hid_of hx
  clear hC hP hh hf hb hx hc
  go_enter Tryz.func37, Tryz.ntmps37
  go_wp2_with fail
  refine (IsSliceSize_walk b w).mono ?_
  rintro e w' ⟨rfl, rfl⟩
  go_wp2_with fail
  refine (IsSet_walk fs a cap HH.out.cap1 HH.out.short _ HH.out.rd).mono ?_
  rintro e w1 ⟨rfl, hb1⟩
  go_wp2_with fail
  refine (HC.out w1 hb1).mono ?_
  rintro e w2 ⟨rfl, hb2⟩
  have hb12 := Below.next hb1 hb2
  go_wp2_with fail
  refine (HP.out w2 hb12).mono ?_
  rintro e w3 ⟨v, rfl, hown, hb3⟩
  have hfin := Below.next hb12 hb3
  have hown' := ownsRow_base hb12.size hown
  clear hown hb3
  go_wp2_with fail
  go_ret2
  exact ⟨_, rfl, hown', hfin⟩
end Go.Proofs.YtonjphollmdicaaGreatDoor
namespace Go.Proofs.YtonjphollmdicaaGreatDoor
open Go.ChangeShapes Go.WideShapes Go.ChangeAt Go.RowKit

theorem sealL_len (k : UInt8) (set : Nat) (b : List UInt8) : (sealL k set b).length = 22 + b.length := by
  unfold sealL headL
  simp only [List.length_append, numBytes_len, List.length_cons, List.length_nil]
  omega

/-- files of a row that a call owns -/
theorem handed_of {W : World} {B : Nat} {v : Value} {fs : List FileL} (h : W.ownsRow B 62 2 v fs.length (filesV fs)) (h0 : 0 < fs.length) (hn : ∀ f ∈ fs, f.1.length < 140737488355328 ∧ f.2.length < 140737488355328) :
    ∃ g c, v = .slice (some ⟨g, 0, none⟩) fs.length c ∧ Handed W fs (some ⟨g, 0, none⟩) c := by
  rcases h.2 with ⟨_, h1⟩ | ⟨g, c, cur, rfl, hb, hg, hnc, _, _, _⟩
  · omega
  · refine ⟨g, c, rfl, ⟨?_, hnc, hn⟩⟩
    intro k u hk
    have := h.cells (g := g) rfl k u hk
    have hadd : (⟨g, 0, none⟩ : Addr).add k = ⟨g, 0 + k, none⟩ := by unfold Addr.add; split <;> simp_all
    rw [hadd] at this
    exact ⟨g, 0, rfl, this⟩

def exFs : List FileL := [([97], [0, 1, 0, 2])]
theorem packets_short {size : Nat} {fs : List FileL} {extra : Nat} (h0 : 0 < size) (h32 : size ≤ 32) (hg : goodSet fs size = true) : ∀ t ∈ packetsL size fs extra, t.length ≤ 4000 := by
  unfold goodSet at hg
  rw [Bool.and_eq_true, Bool.and_eq_true] at hg
  obtain ⟨_, h6, hf⟩ := set_facts hg.1.1
  intro t ht
  unfold packetsL at ht
  rw [List.mem_cons, List.mem_append] at ht
  rcases ht with rfl | ht | ht
  · rw [sealL_len]
    unfold mainL mainBodyL
    simp only [List.length_append, numBytes_len, hashesL_len, List.length_map]
    unfold bodiesL
    simp only [List.length_map, List.length_range]
    omega
  · unfold fPacketsL at ht
    rw [List.mem_map] at ht
    obtain ⟨b, hb, rfl⟩ := ht
    unfold bodiesL at hb
    rw [List.mem_map] at hb
    obtain ⟨i, hi, rfl⟩ := hb
    have hi := List.mem_range.1 hi
    rw [sealL_len]
    have hmem : fs.getD i ([], []) ∈ fs := by
      rw [List.getD_eq_getElem?_getD, List.getElem?_eq_getElem hi]
      exact List.getElem_mem hi
    have hfi := hf _ hmem
    unfold bodyL fileBodyL fileHeadL
    simp only [List.length_append, numBytes_len, hashesL_len, List.length_map, (cutL_len _ size h0).1]
    have : slicesOfN (fs.getD i ([], [])).2.length size ≤ 400 := by
      unfold slicesOfN
      rw [Nat.div_le_iff_le_mul_add_pred h0]
      have h1 : 400 * 1 ≤ 400 * size := Nat.mul_le_mul_left _ h0
      have h2 : size * 400 = 400 * size := Nat.mul_comm _ _
      omega
    omega
  · unfold rPacketsL at ht
    rw [List.mem_map] at ht
    obtain ⟨j, _, rfl⟩ := ht
    unfold rPacketL
    rw [sealL_len]
    unfold extraBodyL
    simp only [List.length_append, numBytes_len, textL_len, extraL_len]
    omega
end Go.Proofs.YtonjphollmdicaaGreatDoor
namespace Go.Proofs.YtonjphollmdicaaGreatDoor

/-! what is found of the packets of a set -/
def mFound (size : Nat) (fs : List FileL) : FoundL := ⟨77, setL size fs, mainL size fs⟩
def fFound (size : Nat) (fs : List FileL) (i : Nat) : FoundL := ⟨70, setL size fs, bodyL size fs i⟩
def rBody (size : Nat) (fs : List FileL) (j : Nat) : List UInt8 := extraBodyL j (textL (extraL (rowsL size fs) (size / 2) j))
def rFound (size : Nat) (fs : List FileL) (j : Nat) : FoundL := ⟨82, setL size fs, rBody size fs j⟩
def madeFound (size : Nat) (fs : List FileL) (extra : Nat) : List FoundL := mFound size fs :: ((List.range fs.length).map (fFound size fs) ++ (List.range extra).map (rFound size fs))

theorem setL_lt (size : Nat) (fs : List FileL) : setL size fs < P64 := hashL_lt _
theorem find_packets {size : Nat} {fs : List FileL} {extra : Nat} (h0 : 0 < size) (h32 : size ≤ 32) (hg : goodSet fs size = true) : findL (packetsL size fs extra) = madeFound size fs extra := by
  have hsh := packets_short (extra := extra) h0 h32 hg
  have key : ∀ (k : UInt8) (b : List UInt8), kindL k = true → sealL k (setL size fs) b ∈ packetsL size fs extra → findV (sealL k (setL size fs) b) = [⟨k, setL size fs, b⟩] := fun k b hk hm => by
    have := hsh _ hm
    rw [sealL_len] at this
    exact find_seal hk (setL_lt size fs) (by omega)
  have hmem : ∀ t, t ∈ fPacketsL size fs ++ rPacketsL size fs (size / 2) extra → t ∈ packetsL size fs extra := fun t ht => by unfold packetsL; exact List.mem_cons_of_mem _ ht
  have h1 : ∀ (l : List Nat) (g : Nat → List UInt8) (k : UInt8), kindL k = true → (∀ i ∈ l, sealL k (setL size fs) (g i) ∈ packetsL size fs extra) → (l.map fun i => sealL k (setL size fs) (g i)).flatMap findV = l.map fun i => (⟨k, setL size fs, g i⟩ : FoundL) := by
    intro l g k hk
    induction l with
    | nil => intro _; rfl
    | cons i r ih =>
      intro hm
      rw [List.map_cons, List.flatMap_cons, List.map_cons, key k (g i) hk (hm i (List.mem_cons_self ..)), ih (fun j hj => hm j (List.mem_cons_of_mem _ hj))]
      rfl
  unfold findL madeFound
  conv => lhs; unfold packetsL
  rw [List.flatMap_cons, List.flatMap_append, key 77 (mainL size fs) rfl (by unfold packetsL; exact List.mem_cons_self ..)]
  have eF : fPacketsL size fs = (List.range fs.length).map fun i => sealL 70 (setL size fs) (bodyL size fs i) := by
    unfold fPacketsL bodiesL
    rw [List.map_map]
    rfl
  have eR : rPacketsL size fs (size / 2) extra = (List.range extra).map fun j => sealL 82 (setL size fs) (rBody size fs j) := rfl
  have hF := h1 (List.range fs.length) (bodyL size fs) 70 rfl (fun i hi => hmem _ (List.mem_append_left _ (by rw [eF]; exact List.mem_map.2 ⟨i, hi, rfl⟩)))
  have hR := h1 (List.range extra) (rBody size fs) 82 rfl (fun j hj => hmem _ (List.mem_append_right _ (by rw [eR]; exact List.mem_map.2 ⟨j, hj, rfl⟩)))
  rw [eF, eR, hF, hR]
  rfl

theorem flat_piece {α : Type} (f : α → List UInt8) (m : Nat) : ∀ (l : List α), (∀ x ∈ l, (f x).length = m) → ∀ (i : Nat) (h : i < l.length), ((l.flatMap f).drop (m * i)).take m = f l[i]
  | [], _, i, h => by simp at h
  | x :: r, hl, 0, h => by
    have := hl x (List.mem_cons_self ..)
    rw [Nat.mul_zero, List.drop_zero, List.flatMap_cons, List.take_append_of_le_length (by omega), List.take_of_length_le (by omega)]
    rfl
  | x :: r, hl, i + 1, h => by
    have hx := hl x (List.mem_cons_self ..)
    rw [List.flatMap_cons, Nat.mul_succ, Nat.add_comm, ← List.drop_drop, List.drop_left' hx]
    exact flat_piece f m r (fun y hy => hl y (List.mem_cons_of_mem _ hy)) i (by simpa using h)
theorem main_parts {size : Nat} {fs : List FileL} (h32 : size ≤ 32) (h6 : fs.length ≤ 6) : chiefSize (mFound size fs) = size ∧ chiefN (mFound size fs) = fs.length ∧ (mainL size fs).length = 3 + 8 * fs.length ∧ ∀ i, i < fs.length → chiefHash (mFound size fs) i = hashL (bodyL size fs i) := by
  have hbl : ((bodiesL size fs).map hashL).length = fs.length := by simp [bodiesL]
  have h64 : ∀ n, n ≤ 32 → n < P64 := fun n hn => Nat.lt_of_le_of_lt hn (by decide)
  have e : mainL size fs = numBytes size 2 ++ (numBytes fs.length 1 ++ hashesL ((bodiesL size fs).map hashL)) := by
    unfold mainL mainBodyL
    rw [hbl, List.append_assoc]
  have l2 := numBytes_len size 2
  have l1 := numBytes_len fs.length 1
  refine ⟨?_, ?_, ?_, fun i hi => ?_⟩
  · show numL ((mainL size fs).take 2) = size
    rw [e, List.take_append_of_le_length (by omega), List.take_of_length_le (by omega), num_bytes size 2 (by omega) (h64 _ h32)]
  · show ((mainL size fs).getD 2 0).toNat = fs.length
    rw [e]
    have : (numBytes size 2 ++ (numBytes fs.length 1 ++ hashesL ((bodiesL size fs).map hashL))).getD 2 0 = byteAt fs.length 0 := rfl
    rw [this, byteAt_nat]
    simp
    omega
  · rw [e, List.length_append, List.length_append, l2, l1, hashesL_len, hbl]
    omega
  · show numL (((mainL size fs).drop (3 + 8 * i)).take 8) = _
    rw [e, ← List.drop_drop, ← List.append_assoc, List.drop_left' (by rw [List.length_append]; omega)]
    unfold hashesL
    rw [flat_piece (fun h => numBytes h 8) 8 _ (fun _ _ => numBytes_len _ _) i (by rw [hbl]; exact hi)]
    have : ((bodiesL size fs).map hashL)[i]'(by rw [hbl]; exact hi) = hashL (bodyL size fs i) := by simp [bodiesL]
    rw [this, num_bytes _ 8 (hashL_lt _) (hashL_lt _)]
theorem chief_m {size : Nat} {fs : List FileL} (hs : sliceSize (size : Int) = true) (h32 : size ≤ 32) (h1 : 1 ≤ fs.length) (h6 : fs.length ≤ 6) : isChief (mFound size fs) = true := by
  obtain ⟨p1, p2, p3, _⟩ := main_parts h32 h6
  unfold isChief
  unfold chiefSize at p1
  unfold chiefN at p2
  rw [p1, p2, hs]
  have hset : hashL (mFound size fs).body = (mFound size fs).set := by unfold mFound; simp only; unfold setL; with_reducible rfl
  have hl : (mFound size fs).body.length = 3 + 8 * fs.length := p3
  have hk : (mFound size fs).kind = 77 := rfl
  rw [hset, hl, hk, decide_eq_true h1, decide_eq_true h6, decide_eq_true (by omega : 3 ≤ 3 + 8 * fs.length)]
  generalize (mFound size fs).set = z
  simp
end Go.Proofs.YtonjphollmdicaaGreatDoor
