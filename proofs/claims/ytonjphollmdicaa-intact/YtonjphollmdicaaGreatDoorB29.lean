import Derived.Test.YtonjphollmdicaaGreatDoorB26
namespace Go.Proofs.YtonjphollmdicaaGreatDoor
open Go.ChangeShapes Go.WideShapes Go.ChangeAt Go.RowKit
open Go.Maps

theorem Tryz.lawU64 : Keyed Tryz.prog 63 := int_keyed Tryz.underlying63
theorem Tryz.zeroInts (w : World) : (zeroValue 31).run Tryz.prog w = .ok (.slice none 0 0) w := by kernel_rfl
theorem Tryz.infoI64' : (Tryz.prog.info? 3).map (fun i => (i.zero, i.size, i.bytes)) = some (some (.int .i64 0), 1, 8) := by kernel_rfl
def hashK (h : Nat) : Lit := .int .u64 (h : Int)
theorem hashK_key (h : Nat) (hh : h < P64) : keyOf Tryz.prog 63 (.int .u64 (h : Int)) = some (hashK h) := keyOf_int_mk Tryz.underlying63 (WalkArith.wf_u64 (by unfold P64 at hh; omega))
theorem hashK_ne {n m : Nat} (h : n ≠ m) : hashK n ≠ hashK m := fun e => by
  unfold hashK at e
  simp only [Lit.int.injEq, true_and] at e
  exact h (by exact_mod_cast e)
theorem hashK_isKey (n : Nat) : WideAt.IsKeyLit (hashK n) := by trivial
/-- a map from hashes to lists of numbers -/
structure Groups (w : World) (M base n : Nat) (D : DataW Value) (V : Nat → Value) (L : Nat → List Nat) : Prop where
  own : w.ownsMap Tryz.prog 63 rawE M n D
  at' : ∀ h, h < P64 → (atM D (hashK h)).getD (.slice none 0 0) = V h
  row : ∀ h, w.ownsRow base 3 1 (V h) (L h).length (natsV (L h))
  apart : ∀ h h' j, h ≠ h' → (V h).ownBlock = some j → (V h').ownBlock ≠ some j
/-- the numbers of a hash among the first k -/
def occ (hs : List Nat) (k h : Nat) : List Nat := (List.range k).filter fun i => hs.getD i 0 == h

theorem occ_succ (hs : List Nat) (k : Nat) (h : Nat) : occ hs (k + 1) h = if hs.getD k 0 = h then occ hs k h ++ [k] else occ hs k h := by
  unfold occ
  rw [List.range_succ, List.filter_append, List.filter_cons]
  by_cases c : hs.getD k 0 = h
  · rw [if_pos c, beq_iff_eq.2 c]; rfl
  · rw [if_neg c, beq_eq_false_iff_ne.2 c]; simp
theorem occ_len (hs : List Nat) (k h : Nat) : (occ hs k h).length ≤ k := by
  unfold occ
  exact Nat.le_trans (List.length_filter_le _ _) (by simp)

set_option linter.unusedSimpArgs false in
set_option maxRecDepth 100000 in
set_option maxHeartbeats 2000000 in
theorem numbersOf_walk (hs : List Nat) (a : Option Addr) (cap : Nat) (hn : hs.length ≤ 1000) (hh : ∀ h ∈ hs, h < P64) (w : World) (hrd : Rd w a (u64V hs)) :
    Calls Tryz.prog 111 #[.slice a hs.length cap] w fun e w' => ∃ n D V, e = .returned (.map (some w.heap.size)) ∧ n ≤ hs.length ∧ Groups w' w.heap.size (w.heap.size + 1) n D V (occ hs hs.length) ∧ Below w.heap.size w w' := by
  obtain ⟨i0, hi, hz0, hz1, hz2⟩ := info_parts Tryz.infoI64'
  have HRD := hid_of hrd
  have HH := hid_of hh
  have hmm := @run_makeMap Tryz.prog
  clear hrd hh
  go_enter Tryz.func111, Tryz.ntmps111
  go_wp2_with fail
  have hm0 := World.ownsMap_made (H := Value) w Tryz.prog 63 rawE
  have HM0 := hid_of hm0
  clear hm0 hmm
  go_loopw [9] (fun i W => ∃ (k n : Nat) (D : DataW Value) (V : Nat → Value), k ≤ hs.length ∧ i = .int .i64 (k : Int) ∧ n ≤ k ∧ Groups W w.heap.size (w.heap.size + 1) n D V (occ hs k) ∧ w.heap.size + 1 ≤ W.heap.size ∧ Below w.heap.size w W)
    (fun i _ => hs.length - (intOf i).toNat)
  case atStart =>
    refine ⟨0, 0, _, fun _ => .slice none 0 0, by omega, rfl, Nat.le_refl _, ⟨HM0.out, fun h _ => by rw [atM_empty]; rfl, fun h => World.ownsRow_nil _ _ _ _, fun _ _ _ _ e => by simp [Value.ownBlock] at e⟩, by simp, (Below.refl _ _).alloc (Nat.le_refl _) _⟩
  case round =>
    clear HM0
    obtain ⟨k, n, D, V, hk, rfl, hnk, hG, hszw, hbl⟩ := hrel
    by_cases hlt : k < hs.length
    · obtain ⟨bb, off, rfl, hc0⟩ := HRD.out k (.int .u64 (hs[k] : Int)) (by simp [u64V, hlt])
      have d1 : wr.cell? ⟨bb, off + k, none⟩ = some (.int .u64 (hs[k] : Int)) := by rw [hbl.cell (World.block_lt_of_cell? w _ hc0)]; exact hc0
      have hx64 := HH.out hs[k] (List.getElem_mem hlt)
      obtain ⟨x, hx⟩ : ∃ x, x = hs[k] := ⟨_, rfl⟩
      rw [← hx] at d1 hx64
      have HX := hid_of hx
      have HG := hid_of hG
      have HB := hid_of hbl
      have hkey := hashK_key x hx64
      have hlk := own_look hG.own Tryz.lawU64 Tryz.underlying185 (Tryz.zeroInts wr) hkey
      rw [hG.at' x hx64] at hlk
      have HKEY := hid_of hkey
      have hol := occ_len hs k x
      have hrow := hG.row x
      have HROW := hid_of hrow
      have hlM := hG.own.lt
      clear hc0 hx hG hbl hkey hrow
      go_wp2_with (at_builtin; refine wpList_append_own_at _ rfl (.tmp 18) (.tmp 20) 31 rfl (w.heap.size + 1) 3 i0 (.int .i64 0) 1 8 Tryz.underlying31 hi hz0 hz1 hz2 rfl (by decide) _ _ _ rfl (HROW.out.alloc _) ⟨wr.heap.size, 0, none⟩ 1 1 [.int .i64 (k : Int)] rfl rfl (cell_one_new _ _ _) ?c2 ?c3 ?c4 ?c5 ?_)
      case c2 =>
        intro u hu
        simp at hu
        subst hu
        rfl
      case c3 => unfold maxLen; omega
      case c4 => omega
      case c5 => simp; omega
      intro v6 w6 hown6 hg6 _ hloc
      have hvb : ∀ h j, (V h).ownBlock = some j → w.heap.size + 1 ≤ j ∧ j < wr.heap.size := fun h j hj => (HG.out.row h).lt j hj
      have hm6 : w6.ownsMap Tryz.prog 63 rawE w.heap.size n D := (HG.out.own.alloc (Obj.cells #[.int .i64 (k : Int)] 3)).kept hg6 (fun e => by have := (hvb x _ e.symm).1; omega)
      have hb6 : Below w.heap.size w w6 := (HB.out.alloc (by omega) (Obj.cells #[.int .i64 (k : Int)] 3)).trans ⟨hg6.os, hg6.tape, hg6.output, hg6.size, fun j hj => hg6.block j (by simp; omega) (fun e => by have := (hvb x _ e.symm).1; omega)⟩
      have ht6 : Touch (blkL (V x)) wr w6 := ((Touch.refl (blkL (V x)) wr).alloc (Obj.cells #[.int .i64 (k : Int)] 3)).trans (Touch.of_row hg6)
      have hs6 : wr.heap.size + 1 ≤ w6.heap.size := by have := hg6.size; simpa using this
      have M6 := hid_of hm6
      have B6 := hid_of hb6
      have T6 := hid_of ht6
      have O6 := hid_of hown6
      have HLOC := hid_of hloc
      have HVB := hid_of hvb
      clear hown6 hg6 hloc hm6 hb6 ht6 hvb HB HROW hlk
      go_wp2_with (at_mapUpdate; refine wpList_store _ rfl _ _ _ 185 rfl 63 31 Tryz.lawU64 Tryz.underlying185 w.heap.size n D rfl M6.out (by unfold maxLen; omega) _ _ _ rfl rfl HKEY.out ?_)
      intro w7 hm7 ht7
      have hfin : Groups w7 w.heap.size (w.heap.size + 1) (n + 1) (D.put (hashK x) (.held v6)) (fun h => if h = x then v6 else V h) (occ hs (k + 1)) := by
        have hgx : hs.getD k 0 = x := by rw [HX.out]; simp [hlt]
        refine ⟨hm7, fun h hh => ?_, fun h => ?_, fun h h' j hne hj hj' => ?_⟩
        · by_cases c : h = x
          · subst c
            rw [atM_put_same HG.out.own.isMap (hashK_isKey _), if_pos rfl]
            rfl
          · rw [atM_put_other _ (hashK_ne c), if_neg c]
            exact HG.out.at' h hh
        · rw [occ_succ, hgx]
          by_cases c : h = x
          · subst c
            rw [if_pos rfl, if_pos rfl, List.length_append]
            have e : natsV (occ hs k h ++ [k]) = natsV (occ hs k h) ++ [.int .i64 (k : Int)] := by simp [natsV]
            rw [e]
            exact owns_touch O6.out ht7 (by simp)
          · rw [if_neg c, if_neg (Ne.symm c)]
            refine owns_touch (owns_touch' (HG.out.row h) T6.out (fun j hj hm => ?_)) ht7 (by simp)
            exact HG.out.apart h x j c hj (blkL_mem.1 hm)
        · by_cases c : h = x
          · subst c
            rw [if_pos rfl] at hj
            rw [if_neg (Ne.symm hne)] at hj'
            rcases HLOC.out with e | e
            · rw [hj] at e
              exact HG.out.apart h h' j hne e.symm hj'
            · rw [hj] at e
              cases e
              have := (HVB.out h' _ hj').2
              omega
          · rw [if_neg c] at hj
            by_cases c' : h' = x
            · subst c'
              rw [if_pos rfl] at hj'
              rcases HLOC.out with e | e
              · rw [hj'] at e
                exact HG.out.apart h h' j hne hj e.symm
              · rw [hj'] at e
                cases e
                have := (HVB.out h _ hj).2
                omega
            · rw [if_neg c'] at hj'
              exact HG.out.apart h h' j hne hj hj'
      have FIN := hid_of hfin
      have B7 := hid_of (B6.out.trans (ht7.below (by omega) (by simp)))
      have hs7 : w.heap.size + 1 ≤ w7.heap.size := by have := ht7.size; omega
      clear hfin hm7 ht7 M6 B6 T6 O6 HLOC HVB HG
      go_wp2_with fail
      exact ⟨⟨k + 1, n + 1, _, _, by omega, by go_num, by omega, FIN.out, hs7, B7.out⟩, by simp [intOf]; omega⟩
    · obtain rfl : hs.length = k := by omega
      have HG := hid_of hG
      have HB := hid_of hbl
      clear hG hbl
      go_wp2_with fail
      go_ret
      exact ⟨n, D, V, rfl, hnk, HG.out, HB.out⟩
end Go.Proofs.YtonjphollmdicaaGreatDoor
