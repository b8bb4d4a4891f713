import Derived.Test.YtonjphollmdicaaGreatDoorB01
import Derived.Test.YtonjphollmdicaaGreatDoorB09
import Derived.Deep.OwnRows
namespace Go.Proofs.YtonjphollmdicaaGreatDoor
open Go.ChangeShapes Go.WideShapes Go.ChangeAt Go.RowKit

theorem slice_in (len size k i : Nat) (h0 : 0 < size) (hi : i = k * size) : (i < len → k < slicesOfN len size) ∧ (¬ i < len → k ≤ slicesOfN len size → k = slicesOfN len size) := by
  have h1 := slices_ge len size h0
  have h2 := slices_lt len size
  refine ⟨fun h => ?_, fun h hk => ?_⟩
  · rcases Nat.lt_or_ge k (slicesOfN len size) with h' | h'
    · exact h'
    · have := Nat.mul_le_mul_right size h'
      omega
  · rcases Nat.lt_or_ge k (slicesOfN len size) with h' | h'
    · have := Nat.mul_le_mul_right size (show k + 1 ≤ slicesOfN len size from h')
      rw [Nat.succ_mul] at this
      omega
    · omega

theorem cut_at (data : List UInt8) (size k i : Nat) (h0 : 0 < size) (hi : i = k * size) (hlt : i < data.length) :
    (cutL data size).take (k + 1) = (cutL data size).take k ++ [if i + size ≤ data.length then (data.drop i).take size else data.drop i ++ List.replicate (i + size - data.length) 0] := by
  have hk := (slice_in data.length size k i h0 hi).1 hlt
  have hl : k < (cutL data size).length := by rw [(cutL_len data size h0).1]; exact hk
  rw [take_snoc _ k hl]
  congr 2
  have e : (cutL data size)[k] = pieceL (padL data size) size k := by simp [cutL]
  rw [e]
  unfold pieceL padL
  rw [← hi, List.drop_append_of_le_length (by omega)]
  have hm : (k + 1) * size ≤ slicesOfN data.length size * size := Nat.mul_le_mul_right _ hk
  rw [Nat.succ_mul, ← hi] at hm
  split
  · rw [List.take_append_of_le_length (by rw [List.length_drop]; omega)]
  · rw [List.take_append, List.take_of_length_le (by rw [List.length_drop]; omega), List.length_drop, List.take_replicate]
    congr 2
    omega

theorem conv_made (m : Nat) (hm : m ≤ 1000) (W : World) : (convert 67 9 (.slice (some ⟨W.heap.size, 0, none⟩) m m)).run Tryz.prog (W.alloc (.cells (madeCells #[.int .u8 0] m) 5)) = .ok (.string (str (List.replicate m 0))) (W.alloc (.cells (madeCells #[.int .u8 0] m) 5)) ∧
    (convert 67 9 (.slice (some ⟨W.heap.size, 0, none⟩) m m)).run Tryz.prog (W.alloc (.cells (madeCells #[.int .u8 0] m) 5)).drew = .ok (.string (str (List.replicate m 0))) (W.alloc (.cells (madeCells #[.int .u8 0] m) 5)).drew := by
  have h : (W.alloc (.cells (madeCells #[.int .u8 0] m) 5)).ownsRow W.heap.size 5 1 (.slice (some ⟨W.heap.size, 0, none⟩) m m) m (bytesV (List.replicate m 0)) := by
    refine ⟨by simp [bytesV], .inr ⟨W.heap.size, m, _, rfl, Nat.le_refl _, heap_alloc_new W _, Nat.le_refl _, by unfold maxLen; omega, by simp [size_madeCells], ?_⟩⟩
    rw [toList_madeCells_one, List.take_of_length_le (by simp)]
    simp [bytesV]
  exact ⟨owned_string h, owned_string (w := (W.alloc (.cells (madeCells #[.int .u8 0] m) 5)).drew) h⟩

set_option maxRecDepth 100000 in
theorem rSlices_walk (data : List UInt8) (size : Nat) (h0 : 0 < size) (h1 : size ≤ 32) (hd : data.length ≤ 400) (w : World) :
    Calls Tryz.prog 104 #[.string (str data), .int .i64 (size : Int)] w fun e w' => ∃ v', e = .returned v' ∧ w'.ownsRow w.heap.size 9 1 v' (slicesOfN data.length size) (strV (cutL data size)) ∧ Below w.heap.size w w' := by
  obtain ⟨i0, hi, hz0, hz1, hz2⟩ := info_parts Tryz.infoS
  have hsd : (str data).size = data.length := str_size data
  have hnl := slicesOfN_le data.length size h0
  obtain ⟨n, hn⟩ : ∃ n, n = slicesOfN data.length size := ⟨_, rfl⟩
  have HSI := hid_of (fun k i hi => slice_in data.length size k i h0 hi)
  have HCA := hid_of (fun k i hi => cut_at data size k i h0 hi)
  rw [← hn] at HSI hnl ⊢
  have HN := hid_of hn
  clear hn
  go_enter Tryz.func104, Tryz.ntmps104
  go_wp2_with fail
  go_loopw [5, 6, 7] (fun l i _ wr => ∃ k i' : Nat, k ≤ n ∧ i' ≤ 432 ∧ Hid (i' = k * size) ∧ i = .int .i64 (i' : Int) ∧ wr.ownsRow w.heap.size 9 1 l k (strV ((cutL data size).take k)) ∧ Below w.heap.size w wr)
    (fun _ i _ _ => data.length - (intOf i).toNat)
  case atStart => exact ⟨0, 0, by omega, by omega, hid_of (by simp), rfl, World.ownsRow_nil _ _ _ _, Below.refl _ _⟩
  case round =>
    obtain ⟨k, i', hk, hi', hik, rfl, hownr, hbl⟩ := hrel
    have hsz := hbl.size
    by_cases hlt : i' < data.length
    · have hkn := (HSI.out k i' hik.out).1 hlt
      have hcut := HCA.out k i' hik.out hlt
      have hik' : i' + size = (k + 1) * size := by rw [hik.out, Nat.succ_mul]
      have HIK := hid_of hik'
      have HB := hid_of hbl
      have HO := hid_of hownr
      clear hik' hbl hownr
      by_cases hin : i' + size ≤ data.length
      · rw [if_pos hin] at hcut
        have eex : (str data).extract i' (i' + size) = str ((data.drop i').take size) := by rw [str_extract, Nat.add_sub_cancel_left]
        obtain ⟨p, hp⟩ : ∃ p, p = (data.drop i').take size := ⟨_, rfl⟩
        rw [← hp] at hcut eex
        have HC := hid_of hcut
        clear hcut hp
        go_wp2_with (at_builtin; refine wpList_append_own _ rfl (.tmp 39) (.tmp 41) 23 rfl w.heap.size 9 i0 (.string ByteArray.empty) 1 16 Tryz.underlying23 hi hz0 hz1 hz2 rfl (by decide) _ _ _ rfl (HO.out.alloc _) ⟨wr.heap.size, 0, none⟩ 1 1 [.string (str p)] rfl rfl (cell_one_new _ _ _) ?d2 ?d3 ?d4 ?d5 ?_)
        case d2 => intro u hu; simp at hu; subst hu; rfl
        case d3 => unfold maxLen; omega
        case d4 => omega
        case d5 => simp; omega
        intro v2 w2 hown2 hg2 _
        have hbl2 := below_step HB.out hsz HO.out hg2
        go_wp2_with fail
        refine ⟨⟨k + 1, i' + size, by omega, by omega, HIK, by go_num, ?_, hbl2⟩, by simp [intOf]; omega⟩
        rw [HC.out, strV_append]
        exact hown2
      · rw [if_neg hin] at hcut
        have eex : (str data).extract i' data.length = str (data.drop i') := by rw [str_extract, List.take_of_length_le (by rw [List.length_drop]; omega)]
        have e2 : str (data.drop i') ++ str (List.replicate (i' + size - data.length) 0) = str (data.drop i' ++ List.replicate (i' + size - data.length) 0) := strs _ _
        obtain ⟨m, hm⟩ : ∃ m, m = i' + size - data.length := ⟨_, rfl⟩
        rw [← hm] at hcut e2
        have em : (i' : Int) + (size : Int) - (data.length : Int) = (m : Int) := by omega
        have hmk := fun W => run_make_row' (P := Tryz.prog) 67 5 (.int .u8 0) 1 Tryz.underlying67 Tryz.info8 rfl .i64 .i64 m (by omega) (by omega) W
        have hcv := fun W => (conv_made m (by omega) W).1
        have hcv' := fun W => (conv_made m (by omega) W).2
        have hle : i' ≤ data.length := by omega
        have z1 : (str (data.drop i')).size ≤ 400 := by rw [str_size, List.length_drop]; omega
        have z2 : (str (List.replicate m 0)).size ≤ 1000 := by rw [str_size, List.length_replicate]; omega
        obtain ⟨p, hp⟩ : ∃ p, p = data.drop i' ++ List.replicate m 0 := ⟨_, rfl⟩
        obtain ⟨d0, hd0⟩ : ∃ p, p = data.drop i' := ⟨_, rfl⟩
        rw [← hp] at hcut e2
        rw [← hd0] at z1 e2 eex
        have HC := hid_of hcut
        clear hcut hp hd0 hm
        go_wp2_with fail
        go_region
        have HO1 : Hid ((wr.alloc (.cells (madeCells #[.int .u8 0] m) 5)).drew.ownsRow w.heap.size 9 1 _ k (strV ((cutL data size).take k))) := hid_of (HO.out.alloc (.cells (madeCells #[.int .u8 0] m) 5))
        have HB1 : Hid (Below w.heap.size w (wr.alloc (.cells (madeCells #[.int .u8 0] m) 5)).drew) := hid_of (HB.out.alloc hsz _).drew
        have hsz1 : w.heap.size ≤ (wr.alloc (.cells (madeCells #[.int .u8 0] m) 5)).drew.heap.size := HB1.out.size
        obtain ⟨W1, hW1⟩ : ∃ W1, W1 = (wr.alloc (.cells (madeCells #[.int .u8 0] m) 5)).drew := ⟨_, rfl⟩
        rw [← hW1] at HO1 HB1 hsz1 ⊢
        clear hW1 hcv hcv' hmk
        go_wp2_with (at_builtin; refine wpList_append_own _ rfl (.tmp 39) (.tmp 41) 23 rfl w.heap.size 9 i0 (.string ByteArray.empty) 1 16 Tryz.underlying23 hi hz0 hz1 hz2 rfl (by decide) _ _ _ rfl (HO1.out.alloc _) ⟨W1.heap.size, 0, none⟩ 1 1 [.string (str p)] rfl rfl (cell_one_new _ _ _) ?d2 ?d3 ?d4 ?d5 ?_)
        case d2 => intro u hu; simp at hu; subst hu; rfl
        case d3 => unfold maxLen; omega
        case d4 => omega
        case d5 => simp; omega
        intro v2 w2 hown2 hg2 _
        have hbl2 := below_step HB1.out hsz1 HO1.out hg2
        go_wp2_with fail
        refine ⟨⟨k + 1, i' + size, by omega, by omega, HIK, by go_num, ?_, hbl2⟩, by simp [intOf]; omega⟩
        rw [HC.out, strV_append]
        exact hown2
    · have hkn := (HSI.out k i' hik.out).2 hlt hk
      subst hkn
      have hall : (cutL data size).take k = cutL data size := List.take_of_length_le (by rw [(cutL_len data size h0).1, ← HN.out]; exact Nat.le_refl _)
      rw [hall] at hownr
      go_wp2_with fail
      go_ret
      exact ⟨_, rfl, hownr, hbl⟩

theorem rall_walk (fs : List FileL) (size : Nat) (a : Option Addr) (cap : Nat) (h0 : 0 < size) (h1 : size ≤ 32) (hn : fs.length ≤ 6) (hf : ∀ f ∈ fs, f.2.length ≤ 400) (w : World) (hrd : Rd w a (filesV fs)) :
    Calls Tryz.prog 67 #[.slice a fs.length cap, .int .i64 (size : Int)] w fun e w' => ∃ v', e = .returned v' ∧ w'.ownsRow w.heap.size 9 1 v' (countL fs size) (strV (slicesL size fs)) ∧ Below w.heap.size w w' :=
  rall_of (fun data size h0 h1 hd w => rSlices_walk data size h0 h1 hd w) fs size a cap h0 h1 hn hf w hrd
end Go.Proofs.YtonjphollmdicaaGreatDoor
namespace Go.Proofs.YtonjphollmdicaaGreatDoor
open Go.ChangeShapes Go.WideShapes Go.ChangeAt Go.RowKit

/-- bytes as a number of 64 bits -/
def numStep (n : Nat) (b : UInt8) : Nat := (n * 256 + b.toNat) % P64
def numL (l : List UInt8) : Nat := l.foldl numStep 0
theorem numStep_lt (n : Nat) (b : UInt8) : numStep n b < P64 := Nat.mod_lt _ (by decide)
theorem num_fold_lt (l : List UInt8) : ∀ n, n < P64 → l.foldl numStep n < P64 := by
  induction l with
  | nil => intro n h; exact h
  | cons b r ih => intro n _; exact ih _ (numStep_lt n b)
theorem numL_lt (l : List UInt8) : numL l < P64 := num_fold_lt l 0 (by decide)
theorem num_fold_small (l : List UInt8) : ∀ (n m : Nat), n < m → m * 256 ^ l.length ≤ P64 → l.foldl numStep n < m * 256 ^ l.length := by
  induction l with
  | nil => intro n m h _; simpa using h
  | cons b r ih =>
    intro n m h h2
    have hb := b.toNat_lt
    have e : m * 256 ^ (b :: r).length = (m * 256) * 256 ^ r.length := by rw [List.length_cons, Nat.pow_succ, Nat.mul_assoc, Nat.mul_comm 256]
    rw [e] at h2 ⊢
    have hp : 0 < 256 ^ r.length := Nat.pow_pos (by decide)
    have hm : m * 256 ≤ P64 := Nat.le_trans (Nat.le_mul_of_pos_right _ hp) h2
    have hs : numStep n b = n * 256 + b.toNat := by unfold numStep; exact Nat.mod_eq_of_lt (by omega)
    exact ih _ _ (by rw [hs]; omega) h2
/-- two bytes are a number below 65536 -/
theorem numL_two (l : List UInt8) (h : l.length ≤ 2) : numL l < 65536 := by
  have h1 := num_fold_small l 0 1 (by decide) (by
    rw [Nat.one_mul]
    exact Nat.le_trans (Nat.pow_le_pow_right (by decide) h) (by decide))
  rw [Nat.one_mul] at h1
  exact Nat.lt_of_lt_of_le h1 (Nat.le_trans (Nat.pow_le_pow_right (by decide) h) (by decide))
theorem numL_one (b : UInt8) : numL [b] = b.toNat := by
  have := b.toNat_lt
  simp only [numL, List.foldl_cons, List.foldl_nil, numStep, P64]
  omega

/-- a packet that was found -/
structure FoundL where
  kind : UInt8
  set : Nat
  body : List UInt8

/-- how many bytes the body of a packet has that begins here -/
def bodyN (s : List UInt8) : Nat := numL ((s.drop 12).take 2)
/-- one of the three kinds -/
def kindL (k : UInt8) : Bool := k == 77 || k == 70 || k == 82
def isRight (s : List UInt8) : Bool := decide (22 ≤ s.length) && (s.take 3 == [83, 65, 76]) && kindL (s.getD 3 0) && decide (22 + bodyN s ≤ s.length) && (hashL (s.take (14 + bodyN s)) == numL ((s.drop (14 + bodyN s)).take 8))
def foundAt (s : List UInt8) : FoundL := ⟨s.getD 3 0, numL ((s.drop 4).take 8), (s.drop 14).take (bodyN s)⟩
/-- the packet that begins a text, and how many bytes it has -/
def rightL (s : List UInt8) : Option (FoundL × Nat) := if isRight s then some (foundAt s, 22 + bodyN s) else none

theorem bodyN_lt (s : List UInt8) : bodyN s < 65536 := numL_two _ (by rw [List.length_take]; omega)

/-- all packets of a text, so many steps -/
def findG : Nat → List UInt8 → List FoundL
  | 0, _ => []
  | _ + 1, [] => []
  | k + 1, b :: r => match rightL (b :: r) with
    | some (f, n) => f :: findG k ((b :: r).drop n)
    | none => findG k r
def findV (s : List UInt8) : List FoundL := findG s.length s
def findL (vs : List (List UInt8)) : List FoundL := vs.flatMap findV

theorem right_pos {s : List UInt8} {f : FoundL} {n : Nat} (h : rightL s = some (f, n)) : 22 ≤ n ∧ n ≤ s.length := by
  unfold rightL at h
  split at h
  · rename_i hr
    simp only [Option.some.injEq, Prod.mk.injEq] at h
    unfold isRight at hr
    simp only [Bool.and_eq_true, decide_eq_true_eq] at hr
    omega
  · cases h

theorem findG_more : ∀ (k : Nat) (s : List UInt8), s.length ≤ k → findG k s = findG s.length s := by
  intro k
  induction k using Nat.strongRecOn with
  | ind k ih =>
    intro s hs
    cases s with
    | nil => cases k <;> rfl
    | cons b r =>
      cases k with
      | zero => simp at hs
      | succ k =>
        simp only [List.length_cons] at hs ⊢
        simp only [findG]
        cases h : rightL (b :: r) with
        | none =>
          exact ih k (by omega) r (by omega)
        | some x =>
          obtain ⟨f, n⟩ := x
          have hn := right_pos h
          simp only [List.length_cons] at hn
          have hd : ((b :: r).drop n).length ≤ r.length := by rw [List.length_drop, List.length_cons]; omega
          simp only
          rw [ih k (by omega) _ (by omega)]
          by_cases e : r.length = k
          · rw [e, ih k (by omega) _ (by omega)]
          · rw [ih r.length (by omega) _ hd]

theorem findV_nil : findV [] = [] := rfl
/-- one step of the way through a text -/
theorem findV_step (s : List UInt8) (h : 0 < s.length) : findV s = match rightL s with | some (f, n) => f :: findV (s.drop n) | none => findV (s.drop 1) := by
  cases s with
  | nil => simp at h
  | cons b r =>
    unfold findV
    simp only [List.length_cons, findG]
    cases hr : rightL (b :: r) with
    | none => simp
    | some x =>
      obtain ⟨f, n⟩ := x
      have hn := right_pos hr
      simp only [List.length_cons] at hn
      simp only
      rw [findG_more _ _ (by rw [List.length_drop, List.length_cons]; omega)]
end Go.Proofs.YtonjphollmdicaaGreatDoor
