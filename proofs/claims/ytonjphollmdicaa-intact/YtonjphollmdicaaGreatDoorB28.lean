import Derived.Test.YtonjphollmdicaaGreatDoorB04
import Derived.Test.YtonjphollmdicaaGreatDoorB05
import Derived.Test.YtonjphollmdicaaGreatDoorB27
namespace Go.Proofs.YtonjphollmdicaaGreatDoor
open Go.ChangeShapes Go.WideShapes Go.ChangeAt Go.RowKit
open Go.Maps

/-- the packets that count, by their numbers -/
def takenL (g : FoundL → Option Nat) (l : List FoundL) (N : Nat) : List FoundL := (keysOf g l N).map fun i => (firstOf g l i).getD ⟨0, 0, []⟩
theorem takenL_len (g : FoundL → Option Nat) (l : List FoundL) (N : Nat) : (takenL g l N).length = (keysOf g l N).length := by simp [takenL]
theorem keysOf_some {g : FoundL → Option Nat} {l : List FoundL} {N i : Nat} (h : i ∈ keysOf g l N) : i < N ∧ ∃ f, firstOf g l i = some f := by
  unfold keysOf at h
  rw [List.mem_filter, List.mem_range] at h
  exact ⟨h.1, Option.isSome_iff_exists.1 h.2⟩
theorem firstOf_some {g : FoundL → Option Nat} {l : List FoundL} {i : Nat} {f : FoundL} (h : firstOf g l i = some f) : f ∈ l ∧ g f = some i := by
  unfold firstOf at h
  exact ⟨List.mem_of_find?_eq_some h, by simpa using List.find?_some h⟩
theorem takenL_mem {g : FoundL → Option Nat} {l : List FoundL} {N : Nat} {f : FoundL} (h : f ∈ takenL g l N) : f ∈ l ∧ ∃ i, i < N ∧ g f = some i := by
  unfold takenL at h
  obtain ⟨i, hi, rfl⟩ := List.mem_map.1 h
  obtain ⟨h1, f, hf⟩ := keysOf_some hi
  rw [hf]
  obtain ⟨h2, h3⟩ := firstOf_some hf
  exact ⟨h2, i, h1, h3⟩
/-- rows of five cells each, one behind the other -/
theorem flat_get {α : Type} (c : α → List Value) (n : Nat) : ∀ (ks : List α), (∀ x ∈ ks, (c x).length = n) → ∀ (k i : Nat) (h : k < ks.length), i < n → (ks.flatMap c)[k * n + i]? = (c ks[k])[i]?
  | [], _, k, _, h, _ => by simp at h
  | x :: r, hc, 0, i, h, hi => by
    have := hc x (List.mem_cons_self ..)
    rw [List.flatMap_cons, Nat.zero_mul, Nat.zero_add, List.getElem?_append_left (by omega)]
    rfl
  | x :: r, hc, k + 1, i, h, hi => by
    have hx := hc x (List.mem_cons_self ..)
    have e : (k + 1) * n + i = (c x).length + (k * n + i) := by rw [hx, Nat.succ_mul]; omega
    rw [List.flatMap_cons, e, List.getElem?_append_right (by omega), Nat.add_sub_cancel_left]
    exact flat_get c n r (fun y hy => hc y (List.mem_cons_of_mem _ hy)) k i (by simpa using h) hi

theorem FRow_of {w : World} {b0 base N : Nat} {D : DataW Value} {g : FoundL → Option Nat} {l : List FoundL} {v : Value} (h : w.ownsRow b0 143 5 v (keysOf g l N).length (valsAt D (keysOf g l N))) (hk : KMap D g l N (IsFile w base)) : ∃ a c, v = .slice a (takenL g l N).length c ∧ FRow w base a (takenL g l N) := by
  obtain ⟨a, c, rfl, hr⟩ := row_rd h
  refine ⟨a, c, by rw [takenL_len], fun k hk' => ?_⟩
  have hkl : k < (keysOf g l N).length := by rw [← takenL_len]; exact hk'
  have hall : ∀ x ∈ keysOf g l N, (cellsL ((atM D (numK x)).getD undef)).length = 5 := by
    intro x hx
    obtain ⟨_, f, hf⟩ := keysOf_some hx
    obtain ⟨v, hv, a, c, rfl, _⟩ := hk.there x f hf
    rw [hv]
    rfl
  obtain ⟨_, f, hf⟩ := keysOf_some (List.getElem_mem hkl)
  obtain ⟨v, hv, sa, sc, rfl, hrow⟩ := hk.there _ f hf
  have e : (takenL g l N)[k] = f := by simp [takenL, hf]
  rw [e]
  have hget : ∀ i u, (cellsL ((atM D (numK (keysOf g l N)[k])).getD undef))[i]? = some u → i < 5 → ∃ b off, a = some ⟨b, off, none⟩ ∧ w.cell? ⟨b, off + (k * 5 + i), none⟩ = some u := fun i u hu hi =>
    hr (k * 5 + i) u (by unfold valsAt; rw [flat_get _ 5 _ hall k i hkl hi]; exact hu)
  rw [hv] at hget
  obtain ⟨bb, off, rfl, c0⟩ := hget 0 _ rfl (by omega)
  refine ⟨bb, off, sa, sc, rfl, c0, ?_, ?_, ?_, ?_, hrow⟩
  · obtain ⟨b1, o1, e1, c1⟩ := hget 1 _ rfl (by omega)
    cases e1
    exact c1
  · obtain ⟨b1, o1, e1, c1⟩ := hget 2 _ rfl (by omega)
    cases e1
    exact c1
  · obtain ⟨b1, o1, e1, c1⟩ := hget 3 _ rfl (by omega)
    cases e1
    exact c1
  · obtain ⟨b1, o1, e1, c1⟩ := hget 4 _ rfl (by omega)
    cases e1
    exact c1
theorem FRow.touch {w w' : World} {base : Nat} {a : Option Addr} {fl : List FoundL} (h : FRow w base a fl) {L : List Nat} (ht : Touch L w w') (ha : ∀ bb off, a = some ⟨bb, off, none⟩ → bb ∉ L) (hL : ∀ x ∈ L, x < base) : FRow w' base a fl := fun k hk => by
  obtain ⟨bb, off, sa, sc, e, c0, c1, c2, c3, c4, c5⟩ := h k hk
  have hl := World.block_lt_of_cell? w _ c0
  have hb := ha bb off e
  refine ⟨bb, off, sa, sc, e, ?_, ?_, ?_, ?_, ?_, owns_touch c5 ht hL⟩
  · rw [ht.cell (x := ⟨bb, off + k * 5, none⟩) hl hb]; exact c0
  · rw [ht.cell (x := ⟨bb, off + k * 5 + 1, none⟩) hl hb]; exact c1
  · rw [ht.cell (x := ⟨bb, off + k * 5 + 2, none⟩) hl hb]; exact c2
  · rw [ht.cell (x := ⟨bb, off + k * 5 + 3, none⟩) hl hb]; exact c3
  · rw [ht.cell (x := ⟨bb, off + k * 5 + 4, none⟩) hl hb]; exact c4
theorem own_block_le {w : World} {base : Nat} {e : TypeId} {sz : Nat} {a : Option Addr} {n c : Nat} {xs : List Value} (h : w.ownsRow base e sz (.slice a n c) n xs) : ∀ bb off, a = some ⟨bb, off, none⟩ → base ≤ bb := by
  rintro bb off rfl
  exact (h.lt bb rfl).1

/-- the bounds of what counts -/
theorem chief_bounds {l : List FoundL} {f : FoundL} (h : chiefL l = some f) : f ∈ l ∧ mainRight f.body = true ∧ 1 ≤ (mainFiles f.body).length ∧ (mainFiles f.body).length ≤ 6 ∧ 2 ≤ mainSize f.body ∧ mainSize f.body ≤ 32 := by
  have hm : f ∈ l := List.mem_of_find?_eq_some h
  have hc : isChief f = true := List.find?_some h
  rw [isChief_eq] at hc
  simp only [Bool.and_eq_true] at hc
  have hr := hc.1.2
  obtain ⟨_, h2, h3, h4, _, h6⟩ := mainFiles_eq hr
  unfold sliceSize at h6
  rw [decide_eq_true_eq] at h6
  refine ⟨hm, hr, ?_, ?_, by omega, by omega⟩
  · rw [h2]; simpa using h3
  · rw [h2]; simpa using h4
theorem fSlices_lt (b : List UInt8) : ∀ h ∈ fSlices b, h < P64 := by
  intro h hh
  unfold fSlices hshL at hh
  obtain ⟨i, _, rfl⟩ := List.mem_map.1 hh
  exact numL_lt _
theorem taken_bounds {m : MainL} {l : List FoundL} {N : Nat} (h2 : 2 ≤ m.size) {f : FoundL} (h : f ∈ takenL (takesF m) l N) : (fName f.body).length ≤ 20 ∧ 1 ≤ (fName f.body).length ∧ fLong f.body ≤ 400 ∧ (fSlices f.body).length ≤ 200 ∧ f ∈ l ∧ fRight f.body m.size = true := by
  obtain ⟨hl, i, _, hi⟩ := takenL_mem h
  unfold takesF at hi
  split at hi
  · rename_i hc
    have hr := hc.2.1
    have hr' := hr
    unfold fRight at hr
    simp only [Bool.and_eq_true, decide_eq_true_eq] at hr
    obtain ⟨⟨⟨⟨_, h3⟩, h4⟩, h5⟩, h6⟩ := hr
    refine ⟨h4, h3, h5, ?_, hl, hr'⟩
    rw [h6]
    unfold slicesOfN
    have : (fLong f.body + m.size - 1) / m.size ≤ 200 := by
      have h7 : fLong f.body + m.size - 1 ≤ 200 * m.size + (m.size - 1) := by omega
      have h8 := Nat.div_le_div_right (c := m.size) h7
      have h9 : (200 * m.size + (m.size - 1)) / m.size = 200 := by
        rw [Nat.add_comm, Nat.mul_comm, Nat.add_mul_div_left _ _ (by omega), Nat.div_eq_of_lt (by omega), Nat.zero_add]
      omega
    exact this
  · cases hi
end Go.Proofs.YtonjphollmdicaaGreatDoor
namespace Go.Proofs.YtonjphollmdicaaGreatDoor
open Go.ChangeShapes Go.WideShapes Go.ChangeAt Go.RowKit

/-- what may be handed in -/
def handable (fs : List FileL) (vs : List (List UInt8)) : Bool := decide (fs.length ≤ 12) && decide (vs.length ≤ 40) && fs.all (fun f => decide (f.2.length ≤ 400)) && vs.all (fun v => decide (v.length ≤ 4000))

set_option linter.unusedSimpArgs false in
set_option maxRecDepth 100000 in
set_option maxHeartbeats 2000000 in
theorem areHandable_walk (fs : List FileL) (vs : List (List UInt8)) (a b : Option Addr) (ca cb : Nat) (w : World) (hfa : Rd w a (filesV fs)) (hvb : Rd w b (strV vs)) :
    Calls Tryz.prog 75 #[.slice a fs.length ca, .slice b vs.length cb] w fun e w' => e = .returned (.bool (handable fs vs)) ∧ Below w.heap.size w w' := by
  obtain ⟨R, hR⟩ : ∃ R, R = handable fs vs := ⟨_, rfl⟩
  rw [← hR]
  have HR := hid_of hR
  have HFA := hid_of hfa
  have HVB := hid_of hvb
  clear hR hfa hvb
  by_cases c1 : fs.length ≤ 12
  · by_cases c2 : vs.length ≤ 40
    · have e1 : ¬ ((12 : Int) < (fs.length : Int)) := by omega
      have e2 : ¬ ((40 : Int) < (vs.length : Int)) := by omega
      have HR1 : Hid (R = (fs.all (fun f => decide (f.2.length ≤ 400)) && vs.all (fun v => decide (v.length ≤ 4000)))) := hid_of (by rw [HR.out]; unfold handable; rw [decide_eq_true c1, decide_eq_true c2]; rfl)
      clear HR
      go_enter Tryz.func75, Tryz.ntmps75
      go_wp2_with fail
      go_loopw [19] (fun i W => ∃ k : Nat, k ≤ fs.length ∧ i = .int .i64 (k : Int) ∧ Hid (R = ((fs.drop k).all (fun f => decide (f.2.length ≤ 400)) && vs.all (fun v => decide (v.length ≤ 4000)))) ∧ Below w.heap.size w W)
        (fun i _ => fs.length - (intOf i).toNat)
      case atStart => exact ⟨0, by omega, rfl, HR1, Below.refl _ _⟩
      case round =>
        clear HR1
        obtain ⟨k, hk, rfl, HC, hbl⟩ := hrel
        by_cases hlt : k < fs.length
        · obtain ⟨bb, off, rfl, d0, d1⟩ := fileCells HFA.out (Nat.le_refl _) hbl k hlt
          have hdr : fs.drop k = fs[k] :: fs.drop (k + 1) := List.drop_eq_getElem_cons hlt
          obtain ⟨f, hf⟩ : ∃ f, f = fs[k] := ⟨_, rfl⟩
          rw [← hf] at d0 d1 hdr
          have hs1 := str_size f.2
          have HB := hid_of hbl
          have hsz := hbl.size
          clear hf hbl
          by_cases q : f.2.length ≤ 400
          · have g1 : ¬ ((400 : Int) < (f.2.length : Int)) := by omega
            have HC2 : Hid (R = ((fs.drop (k + 1)).all (fun f => decide (f.2.length ≤ 400)) && vs.all (fun v => decide (v.length ≤ 4000)))) := hid_of (by rw [HC.out, hdr, List.all_cons, decide_eq_true q]; rfl)
            clear HC hdr q
            go_wp2_with fail
            exact ⟨⟨k + 1, by omega, by go_num, HC2, HB.out.alloc hsz _⟩, by simp [intOf]; omega⟩
          · have g1 : (400 : Int) < (f.2.length : Int) := by omega
            have HC2 : Hid (R = false) := hid_of (by rw [HC.out, hdr, List.all_cons, decide_eq_false q]; rfl)
            clear HC hdr q
            go_wp2_with fail
            go_ret
            exact ⟨by rw [HC2.out]; rfl, HB.out.alloc hsz _⟩
        · obtain rfl : fs.length = k := by omega
          have HC2 : Hid (R = vs.all (fun v => decide (v.length ≤ 4000))) := hid_of (by rw [HC.out, List.drop_length]; rfl)
          have HB := hid_of hbl
          clear HC hbl
          go_wp2_with fail
          go_loopw [30] (fun i W => ∃ k : Nat, k ≤ vs.length ∧ i = .int .i64 (k : Int) ∧ Hid (R = (vs.drop k).all (fun v => decide (v.length ≤ 4000))) ∧ Below w.heap.size w W)
            (fun i _ => vs.length - (intOf i).toNat)
          case atStart => exact ⟨0, by omega, rfl, HC2, HB.out⟩
          case round =>
            clear HC2 HB
            obtain ⟨k, hk, rfl, HC, hbl⟩ := hrel
            by_cases hlt : k < vs.length
            · obtain ⟨bb, off, rfl, hc0⟩ := HVB.out k (.string (str vs[k])) (by simp [strV, hlt])
              have d1 : wr.cell? ⟨bb, off + k, none⟩ = some (.string (str vs[k])) := by rw [hbl.cell (World.block_lt_of_cell? w _ hc0)]; exact hc0
              have hdr : vs.drop k = vs[k] :: vs.drop (k + 1) := List.drop_eq_getElem_cons hlt
              obtain ⟨f, hf⟩ : ∃ f, f = vs[k] := ⟨_, rfl⟩
              rw [← hf] at d1 hdr
              have hs1 := str_size f
              have HB := hid_of hbl
              clear hf hbl hc0
              by_cases q : f.length ≤ 4000
              · have g1 : ¬ ((4000 : Int) < (f.length : Int)) := by omega
                have HC2 : Hid (R = (vs.drop (k + 1)).all (fun v => decide (v.length ≤ 4000))) := hid_of (by rw [HC.out, hdr, List.all_cons, decide_eq_true q]; rfl)
                clear HC hdr q
                go_wp2_with fail
                exact ⟨⟨k + 1, by omega, by go_num, HC2, HB.out⟩, by simp [intOf]; omega⟩
              · have g1 : (4000 : Int) < (f.length : Int) := by omega
                have HC2 : Hid (R = false) := hid_of (by rw [HC.out, hdr, List.all_cons, decide_eq_false q]; rfl)
                clear HC hdr q
                go_wp2_with fail
                go_ret
                exact ⟨by rw [HC2.out]; rfl, HB.out⟩
            · obtain rfl : vs.length = k := by omega
              have HC2 : Hid (R = true) := hid_of (by rw [HC.out, List.drop_length]; rfl)
              have HB := hid_of hbl
              clear HC hbl
              go_wp2_with fail
              go_ret
              exact ⟨by rw [HC2.out]; rfl, HB.out⟩
    · have e1 : ¬ ((12 : Int) < (fs.length : Int)) := by omega
      have e2 : (40 : Int) < (vs.length : Int) := by omega
      have HR1 : Hid (R = false) := hid_of (by rw [HR.out]; unfold handable; rw [decide_eq_false c2]; simp)
      clear HR
      go_enter Tryz.func75, Tryz.ntmps75
      go_wp2_with fail
      go_ret
      exact ⟨by rw [HR1.out]; rfl, Below.refl _ _⟩
  · have e1 : (12 : Int) < (fs.length : Int) := by omega
    have HR1 : Hid (R = false) := hid_of (by rw [HR.out]; unfold handable; rw [decide_eq_false c1]; simp)
    clear HR
    go_enter Tryz.func75, Tryz.ntmps75
    go_wp2_with fail
    go_ret
    exact ⟨by rw [HR1.out]; rfl, Below.refl _ _⟩
end Go.Proofs.YtonjphollmdicaaGreatDoor
namespace Go.Proofs.YtonjphollmdicaaGreatDoor
open Go.ChangeShapes Go.WideShapes Go.ChangeAt Go.RowKit
open Go.Maps

theorem Tryz.lawStr : Keyed Tryz.prog 9 := string_keyed Tryz.underlying9
/-- how many different ones there are -/
def diffs (l : List (List UInt8)) : Nat := ((List.range l.length).filter fun i => decide (l.getD i [] ∉ l.take i)).length
theorem diffs_snoc (l : List (List UInt8)) (x : List UInt8) : diffs (l ++ [x]) = diffs l + if x ∈ l then 0 else 1 := by
  unfold diffs
  rw [List.length_append, List.length_cons, List.length_nil, List.range_succ, List.filter_append, List.length_append]
  have e1 : (List.range l.length).filter (fun i => decide ((l ++ [x]).getD i [] ∉ (l ++ [x]).take i)) = (List.range l.length).filter (fun i => decide (l.getD i [] ∉ l.take i)) := List.filter_congr (fun i hi => by
    rw [List.mem_range] at hi
    have h1 : (l ++ [x]).getD i [] = l.getD i [] := by simp [List.getD_eq_getElem?_getD, List.getElem?_append_left hi]
    have h2 : (l ++ [x]).take i = l.take i := by rw [List.take_append_of_le_length (by omega)]
    rw [h1, h2])
  have e2 : (l ++ [x]).getD l.length [] = x := by simp [List.getD_eq_getElem?_getD]
  have e3 : (l ++ [x]).take l.length = l := by simp
  rw [e1, List.filter_cons, e2, e3]
  by_cases h : x ∈ l
  · simp [h]
  · simp [h]

set_option linter.unusedSimpArgs false in
set_option maxRecDepth 100000 in
set_option maxHeartbeats 2000000 in
theorem shareName_walk (fl : List FoundL) (base : Nat) (a : Option Addr) (cap : Nat) (hn : fl.length ≤ 1000) (hs : ∀ f ∈ fl, (fName f.body).length ≤ 1000) (w : World) (hf : FRow w base a fl) :
    Calls Tryz.prog 79 #[.slice a fl.length cap] w fun e w' => e = .returned (.bool (decide (diffs (fl.map fun f => fName f.body) < fl.length))) ∧ Below w.heap.size w w' := by
  have HF := hid_of hf
  have HSL := hid_of hs
  have hmm := @run_makeMap Tryz.prog
  clear hf hs
  obtain ⟨R, hR⟩ : ∃ R, R = decide (diffs (fl.map fun f => fName f.body) < fl.length) := ⟨_, rfl⟩
  rw [← hR]
  have HR := hid_of hR
  clear hR
  go_enter Tryz.func79, Tryz.ntmps79
  go_wp2_with fail
  have hm0 := World.ownsMap_made (H := Value) w Tryz.prog 9 rawE
  have HM0 := hid_of hm0
  clear hm0 hmm
  go_loopw [9] (fun i W => ∃ (k : Nat) (D : DataW Value), k ≤ fl.length ∧ i = .int .i64 (k : Int) ∧ W.ownsMap Tryz.prog 9 rawE w.heap.size k D ∧ Hid (∀ x, Maps.has D (.string x) = decide (x ∈ (fl.take k).map fun f => fName f.body)) ∧ Hid (Maps.size D = diffs ((fl.take k).map fun f => fName f.body)) ∧ Below w.heap.size w W)
    (fun i _ => fl.length - (intOf i).toNat)
  case atStart => exact ⟨0, _, by omega, rfl, HM0.out, hid_of (fun x => by simp [Maps.has]), hid_of (by simp [Maps.size, diffs]), (Below.refl _ _).alloc (Nat.le_refl _) _⟩
  case round =>
    clear HM0
    obtain ⟨k, D, hk, rfl, hm, HH, HZ, hbl⟩ := hrel
    have hsz := hbl.size
    by_cases hlt : k < fl.length
    · have hfr := HF.out.later hbl
      obtain ⟨bb, off, sa, sc, rfl, c0, c1, c2, c3, c4, c5⟩ := hfr k hlt
      have hsl := HSL.out fl[k] (List.getElem_mem hlt)
      have hsn : (fl.take (k + 1)).map (fun f => fName f.body) = (fl.take k).map (fun f => fName f.body) ++ [fName fl[k].body] := by rw [take_snoc fl k hlt, List.map_append]; rfl
      obtain ⟨f, hf⟩ : ∃ f, f = fl[k] := ⟨_, rfl⟩
      rw [← hf] at c0 c1 c2 c3 c4 c5 hsl hsn
      have hkey : keyOf Tryz.prog 9 (.string (str (fName f.body))) = some (.string (fName f.body)) := by
        have := Go.WideMaps.keyOf_string_mk (P := Tryz.prog) (k := 9) Tryz.underlying9 (s := str (fName f.body)) (by rw [str_size]; unfold maxLen; omega)
        simpa [str] using this
      have HKEY := hid_of hkey
      have HSN := hid_of hsn
      have HB := hid_of (hbl.alloc hsz (Obj.cells #[Value.int .i64 (fNumber f.body : Int), .string (str (fName f.body)), .int .i64 (fLong f.body : Int), .int .u64 (fHash f.body : Int), .slice sa (fSlices f.body).length sc] 143))
      have HM := hid_of (hm.alloc (Obj.cells #[Value.int .i64 (fNumber f.body : Int), .string (str (fName f.body)), .int .i64 (fLong f.body : Int), .int .u64 (fHash f.body : Int), .slice sa (fSlices f.body).length sc] 143))
      have hT := hm.tidy Tryz.lawStr
      have HT := hid_of hT
      have hsz2 : w.heap.size ≤ (wr.alloc (Obj.cells #[Value.int .i64 (fNumber f.body : Int), .string (str (fName f.body)), .int .i64 (fLong f.body : Int), .int .u64 (fHash f.body : Int), .slice sa (fSlices f.body).length sc] 143)).heap.size := by simp; omega
      clear hm hbl hf hfr hsn hkey hT c5
      go_wp2_with (at_mapUpdate; refine wpList_store _ rfl _ _ _ 184 rfl 9 3 Tryz.lawStr Tryz.underlying184 w.heap.size k D rfl HM.out (by unfold maxLen; omega) _ _ _ rfl rfl HKEY.out ?_)
      intro w2 hm2 ht2
      have B2 := hid_of (HB.out.trans (ht2.below hsz2 (by simp)))
      have M2 := hid_of hm2
      clear hm2 ht2 HM HB
      go_wp2_with fail
      refine ⟨⟨k + 1, _, by omega, by go_num, M2.out, hid_of (fun x => ?_), hid_of ?_, B2.out⟩, by simp [intOf]; omega⟩
      · rw [HSN.out]
        by_cases c : x = fName f.body
        · subst c
          rw [Maps.has_put_same HT.out.isMap (by trivial)]
          simp
        · rw [Maps.has_put_other (by simpa using c), HH.out]
          simp [c]
      · rw [HSN.out, diffs_snoc, Maps.size_put HT.out, HH.out, HZ.out]
        by_cases c : fName f.body ∈ (fl.take k).map (fun f => fName f.body)
        · simp only [c, decide_true, if_true]; rfl
        · simp only [c, decide_false, if_false]; rfl
    · obtain rfl : k = fl.length := by omega
      have hlen := hm.len (ty := 3) Tryz.underlying184
      have hz := HZ.out
      rw [List.take_length] at hz
      have hb : R = decide (Maps.size D < fl.length) := by rw [HR.out, ← hz]
      have HBB := hid_of hb
      have HB := hid_of hbl
      clear hm hbl hz hb HH HZ
      go_wp2_with fail
      go_ret
      exact ⟨by rw [HBB.out]; rfl, HB.out⟩
end Go.Proofs.YtonjphollmdicaaGreatDoor
namespace Go.Proofs.YtonjphollmdicaaGreatDoor
open Go.ChangeShapes Go.WideShapes Go.ChangeAt Go.RowKit

set_option linter.unusedSimpArgs false in
set_option maxRecDepth 100000 in
set_option maxHeartbeats 2000000 in
theorem stateOf_walk (num : Int) (name : List UInt8) (long hash : Nat) (av : Option Addr) (ln cv : Nat) (fs : List FileL) (a : Option Addr) (cap : Nat) (hn : fs.length ≤ 1000) (hf : ∀ f ∈ fs, f.2.length ≤ 1000000) (w : World) (hrd : Rd w a (filesV fs)) :
    Calls Tryz.prog 83 #[.agg #[.int .i64 num, .string (str name), .int .i64 (long : Int), .int .u64 (hash : Int), .slice av ln cv], .slice a fs.length cap] w fun e w' => e = .returned (.int .i64 (stateL name long hash fs : Int)) ∧ Below w.heap.size w w' := by
  have HRD := hid_of hrd
  have HF := hid_of hf
  clear hrd hf
  obtain ⟨R, hR⟩ : ∃ R, R = stateL name long hash fs := ⟨_, rfl⟩
  rw [← hR]
  have HR0 := hid_of hR
  clear hR
  go_enter Tryz.func83, Tryz.ntmps83
  go_wp2_with fail
  go_loopw [9] (fun i W => ∃ k : Nat, k ≤ fs.length ∧ i = .int .i64 (k : Int) ∧ Hid (R = stateL name long hash (fs.drop k)) ∧ W.cell? ⟨w.heap.size, 1, none⟩ = some (.string (str name)) ∧ W.cell? ⟨w.heap.size, 2, none⟩ = some (.int .i64 (long : Int)) ∧ W.cell? ⟨w.heap.size, 3, none⟩ = some (.int .u64 (hash : Int)) ∧ w.heap.size < W.heap.size ∧ Below w.heap.size w W)
    (fun i _ => fs.length - (intOf i).toNat)
  case atStart => exact ⟨0, by omega, rfl, HR0, by simp, by simp, by simp, by simp, (Below.refl _ _).alloc (Nat.le_refl _) _⟩
  case round =>
    clear HR0
    obtain ⟨k, hk, rfl, HC, d0, d1, d2, hszw, hbl⟩ := hrel
    by_cases hlt : k < fs.length
    · obtain ⟨bb, off, rfl, c0, c1⟩ := fileCells HRD.out (Nat.le_refl _) hbl k hlt
      have hfl := HF.out fs[k] (List.getElem_mem hlt)
      have hst := state_step name long hash fs k hlt
      obtain ⟨f, hf⟩ : ∃ f, f = fs[k] := ⟨_, rfl⟩
      rw [← hf] at c0 c1 hfl hst
      have HST := hid_of hst
      have HBA := hid_of (hbl.alloc hbl.size (Obj.cells #[Value.string (str f.1), Value.string (str f.2)] 62))
      have ht := (Touch.refl [] wr).alloc (Obj.cells #[Value.string (str f.1), Value.string (str f.2)] 62)
      have e0 : (wr.alloc (Obj.cells #[Value.string (str f.1), Value.string (str f.2)] 62)).cell? ⟨w.heap.size, 1, none⟩ = some (.string (str name)) := by rw [ht.cell (x := ⟨w.heap.size, 1, none⟩) hszw (by simp)]; exact d0
      have e1 : (wr.alloc (Obj.cells #[Value.string (str f.1), Value.string (str f.2)] 62)).cell? ⟨w.heap.size, 2, none⟩ = some (.int .i64 (long : Int)) := by rw [ht.cell (x := ⟨w.heap.size, 2, none⟩) hszw (by simp)]; exact d1
      have e2 : (wr.alloc (Obj.cells #[Value.string (str f.1), Value.string (str f.2)] 62)).cell? ⟨w.heap.size, 3, none⟩ = some (.int .u64 (hash : Int)) := by rw [ht.cell (x := ⟨w.heap.size, 3, none⟩) hszw (by simp)]; exact d2
      have hbs := str_size f.2
      have hH := hid_of (fun W => Hash_l f.2 (by omega) W)
      obtain ⟨m, hm⟩ : ∃ m, m = f.2.length := ⟨_, rfl⟩
      rw [← hm] at hbs hfl
      have HM := hid_of hm
      clear hf hst hbl hm ht d0 d1 d2
      by_cases q1 : f.1 = name
      · have x1 : ((str f.1).toList == (str name).toList) = true := by rw [q1]; simp
        have hR : R = if m = long ∧ hashL f.2 = hash then 1 else 2 := by rw [HC.out, HST.out, if_pos q1, HM.out]
        obtain ⟨hv, hhv⟩ : ∃ x, x = hashL f.2 := ⟨_, rfl⟩
        rw [← hhv] at hH hR
        have HRR := hid_of hR
        clear hR hhv HST HC q1
        by_cases q2 : m = long
        · have x2 : ((m : Int) == (long : Int)) = true := by simp [q2]
          by_cases q3 : hv = hash
          · have x3 : ((hv : Int) == (hash : Int)) = true := by simp [q3]
            have HR1 : Hid (R = 1) := hid_of (by rw [HRR.out, if_pos ⟨q2, q3⟩])
            clear HRR q2 q3
            go_wp2_with fail
            go_quiet (refine Calls.quiet_of_same (hH.out _))
            go_wp2_with fail
            go_ret
            exact ⟨by rw [HR1.out]; rfl, rdrewN HBA.out _⟩
          · have x3 : ((hv : Int) == (hash : Int)) = false := by simp; omega
            have HR1 : Hid (R = 2) := hid_of (by rw [HRR.out, if_neg (fun h => q3 h.2)])
            clear HRR q2 q3
            go_wp2_with fail
            go_quiet (refine Calls.quiet_of_same (hH.out _))
            go_wp2_with fail
            go_ret
            exact ⟨by rw [HR1.out]; rfl, rdrewN HBA.out _⟩
        · have x2 : ((m : Int) == (long : Int)) = false := by simp; omega
          have HR1 : Hid (R = 2) := hid_of (by rw [HRR.out, if_neg (fun h => q2 h.1)])
          clear HRR q2
          go_wp2_with fail
          go_quiet (fail)
          go_wp2_with fail
          go_ret
          exact ⟨by rw [HR1.out]; rfl, rdrewN HBA.out _⟩
      · have x1 : ((str f.1).toList == (str name).toList) = false := by rw [str_toList, str_toList, beq_eq_false_iff_ne]; exact q1
        have H1 : Hid (R = stateL name long hash (fs.drop (k + 1))) := hid_of (by rw [HC.out, HST.out, if_neg q1])
        clear HST HC q1
        go_wp2_with fail
        exact ⟨⟨k + 1, by omega, by go_num, H1, e0, e1, e2, by simp; omega, HBA.out⟩, by simp [intOf]; omega⟩
    · obtain rfl : fs.length = k := by omega
      have hR : R = 3 := by rw [HC.out, List.drop_length]; rfl
      have HRR := hid_of hR
      have HB := hid_of hbl
      clear hR HC hbl
      go_wp2_with fail
      go_ret
      exact ⟨by rw [HRR.out]; rfl, HB.out⟩
end Go.Proofs.YtonjphollmdicaaGreatDoor
