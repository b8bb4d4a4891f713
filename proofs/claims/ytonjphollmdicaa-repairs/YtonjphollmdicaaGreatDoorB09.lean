import Derived.Test.YtonjphollmdicaaGreatDoorB07
import Derived.Test.YtonjphollmdicaaGreatDoorB08
namespace Go.Proofs.YtonjphollmdicaaGreatDoor
open Go.ChangeShapes Go.WideShapes Go.ChangeAt Go.RowKit
open Go.Maps
theorem Tryz.lawByte : Keyed Tryz.prog 5 := int_keyed Tryz.underlying5
theorem Tryz.zeroPackets (w : World) : (zeroValue 180).run Tryz.prog w = .ok (.slice none 0 0) w := by kernel_rfl
theorem Tryz.infoPk : (Tryz.prog.info? 181).map (fun i => (i.zero, i.size, i.bytes)) = some (some (.agg #[.int .u8 0, .int .u64 0, .string ByteArray.empty]), 3, 32) := by kernel_rfl
theorem wf8 (k : UInt8) : (Lit.int .u8 (k.toNat : Int)).wf = true := by
 have := k.toNat_lt
 exact WalkArith.wf_u8 (by omega)
set_option linter.unusedSimpArgs false in
set_option maxRecDepth 100000 in
set_option maxHeartbeats 2000000 in
theorem add_walk (M n : Nat) (D : DataW Value) (base : Nat) (L : List FoundL) (v : Value) (f : FoundL) (w : World) (hn : n < 1000000000) (hl : L.length ≤ 1000000000) (hown : w.ownsMap Tryz.prog 5 rawE M n D) (hb : base ≤ w.heap.size) (hMb : M < base)
  (hat : (atM D (.int .u8 (f.kind.toNat : Int))).getD (.slice none 0 0) = v) (hv : w.ownsRow base 181 3 v L.length (foundsV L)) :
  Calls Tryz.prog 109 #[.map (some M), packV f.kind.toNat f.set f.body] w fun e w' => ∃ v', e = .returned (.tuple #[]) ∧ w'.ownsMap Tryz.prog 5 rawE M (n + 1) (D.put (.int .u8 (f.kind.toNat : Int)) (.held v')) ∧ w'.ownsRow base 181 3 v' (L.length + 1) (foundsV (L ++ [f])) ∧ Touch (M :: blkL v) w w' ∧ (v'.ownBlock = v.ownBlock ∨ ∃ j, v'.ownBlock = some j ∧ w.heap.size ≤ j) := by
 obtain ⟨i0, hi, hz0, hz1, hz2⟩ := info_parts Tryz.infoPk
 have hMlt := hown.lt
 have HOWN := hid_of hown
 have HAT := hid_of hat
 have HV := hid_of hv
 clear hown hat hv
 unfold packV
 obtain ⟨k, hk⟩ : ∃ k : Int, k = (f.kind.toNat : Int) := ⟨_, rfl⟩
 have hkey : keyOf Tryz.prog 5 (.int .u8 k) = some (.int .u8 k) := keyOf_int_mk Tryz.underlying5 (by rw [hk]; exact wf8 _)
 rw [← hk] at HAT ⊢
 have hsn := foundsV_snoc L f
 rw [← hk] at hsn
 have HSN := hid_of hsn
 have HKEY := hid_of hkey
 clear hk hsn hkey
 go_enter Tryz.func109, Tryz.ntmps109
 go_wp2_with fail
 obtain ⟨W9, hW9⟩ : ∃ W, W = ((w.alloc (Obj.cells #[Value.int IntKind.u8 k, Value.int IntKind.u64 (f.set : Int), Value.string (str f.body)] 181)).alloc (Obj.cells #[Value.int IntKind.u8 k, Value.int IntKind.u64 (f.set : Int), Value.string (str f.body)] 181)).drew := ⟨_, rfl⟩
 have ht9 : Touch [] w W9 := by rw [hW9]; exact (((Touch.refl [] w).alloc _).alloc _).drew
 have hs9 : W9.heap.size = w.heap.size + 2 := by rw [hW9]; simp
 have h9 : W9.ownsRow base 181 3 v L.length (foundsV L) := owns_touch HV.out ht9 (by simp)
 have hm9 : W9.ownsMap Tryz.prog 5 rawE M n D := HOWN.out.kept ht9.grown_none (by simp)
 have hc1 : ∀ j u, [Value.int .u8 k, .int .u64 (f.set : Int), .string (str f.body)][j]? = some u → W9.cell? ((⟨w.heap.size + 1, 0, none⟩ : Addr).add j) = some u := by
  have := three_new (w.alloc (Obj.cells #[Value.int IntKind.u8 k, Value.int IntKind.u64 (f.set : Int), Value.string (str f.body)] 181)) (.int .u8 k) (.int .u64 (f.set : Int)) (.string (str f.body)) 181
  rw [hW9]
  simpa using this
 have hcl : W9.cell? ⟨w.heap.size, 0, none⟩ = some (.int .u8 k) ∧ W9.cell? ⟨w.heap.size, 1, none⟩ = some (.int .u64 (f.set : Int)) ∧ W9.cell? ⟨w.heap.size, 2, none⟩ = some (.string (str f.body)) := by
  rw [hW9]
  exact ⟨by simp, by simp, by simp⟩
 have hvb : ∀ j, v.ownBlock = some j → base ≤ j ∧ j < w.heap.size := fun j hj => HV.out.lt j hj
 have hcq : ∀ {X Y : World} {T : List Nat}, Touch T X Y → w.heap.size < X.heap.size → w.heap.size ∉ T → (X.cell? ⟨w.heap.size, 0, none⟩ = some (.int .u8 k) ∧ X.cell? ⟨w.heap.size, 1, none⟩ = some (.int .u64 (f.set : Int)) ∧ X.cell? ⟨w.heap.size, 2, none⟩ = some (.string (str f.body))) → (Y.cell? ⟨w.heap.size, 0, none⟩ = some (.int .u8 k) ∧ Y.cell? ⟨w.heap.size, 1, none⟩ = some (.int .u64 (f.set : Int)) ∧ Y.cell? ⟨w.heap.size, 2, none⟩ = some (.string (str f.body))) := fun {X Y T} ht hlt hT h =>
  ⟨by rw [ht.cell (x := ⟨w.heap.size, 0, none⟩) hlt hT]; exact h.1, by rw [ht.cell (x := ⟨w.heap.size, 1, none⟩) hlt hT]; exact h.2.1, by rw [ht.cell (x := ⟨w.heap.size, 2, none⟩) hlt hT]; exact h.2.2⟩
 have haft : ∀ (v' : Value) (w' : World), W9.grownBy w' v.ownBlock → Touch (blkL v) w w' ∧ w'.ownsMap Tryz.prog 5 rawE M n D ∧ (w'.cell? ⟨w.heap.size, 0, none⟩ = some (.int .u8 k) ∧ w'.cell? ⟨w.heap.size, 1, none⟩ = some (.int .u64 (f.set : Int)) ∧ w'.cell? ⟨w.heap.size, 2, none⟩ = some (.string (str f.body))) := by
  intro v' w' hg
  refine ⟨(ht9.mono (by simp)).trans (Touch.of_row hg), hm9.kept hg (fun e => ?_), hcq (Touch.of_row hg) (by omega) (fun e => ?_) hcl⟩
  ·have := hvb M e.symm
   omega
  ·have := hvb _ (blkL_mem.1 e)
   omega
 have hfin : ∀ (v' : Value) (w' w'' : World), (w'.cell? ⟨w.heap.size, 0, none⟩ = some (.int .u8 k) ∧ w'.cell? ⟨w.heap.size, 1, none⟩ = some (.int .u64 (f.set : Int)) ∧ w'.cell? ⟨w.heap.size, 2, none⟩ = some (.string (str f.body))) → Touch [M] w' w'' → (w''.cell? ⟨w.heap.size, 0, none⟩ = some (.int .u8 k) ∧ w''.cell? ⟨w.heap.size, 1, none⟩ = some (.int .u64 (f.set : Int)) ∧ w''.cell? ⟨w.heap.size, 2, none⟩ = some (.string (str f.body))) :=
  fun v' w' w'' h ht => hcq ht (World.block_lt_of_cell? w' _ h.1) (by simp; omega) h
 have hrow : ∀ (v' : Value) (w' w'' : World), w'.ownsRow base 181 3 v' (L.length + 1) (foundsV L ++ [.int .u8 k, .int .u64 (f.set : Int), .string (str f.body)]) → (v'.ownBlock = v.ownBlock ∨ v'.ownBlock = some W9.heap.size) → Touch [M] w' w'' → w''.ownsRow base 181 3 v' (L.length + 1) (foundsV L ++ [.int .u8 k, .int .u64 (f.set : Int), .string (str f.body)]) :=
  fun v' w' w'' h _ ht => owns_touch h ht (by simpa using hMb)
 have H9 := hid_of h9
 have HC1 := hid_of hc1
 have HAFT := hid_of haft
 have HFIN := hid_of hfin
 have HROW := hid_of hrow
 have HCL := hid_of hcl
 have HT9 := hid_of ht9
 clear h9 hm9 hc1 haft hfin hrow hcl hvb hcq ht9
 have hlk : ∀ X : World, X.ownsMap Tryz.prog 5 rawE M n D → (Instr.lookup 174 (.map (some M)) (.int .u8 k) false).run Tryz.prog X = .ok v X := fun X hX => by
  have := own_look hX Tryz.lawByte Tryz.underlying174 (Tryz.zeroPackets X) HKEY.out
  rw [HAT.out] at this
  exact this
 have lk1 := hlk _ (HOWN.out.alloc (Obj.cells #[Value.int IntKind.u8 k, Value.int IntKind.u64 (f.set : Int), Value.string (str f.body)] 181))
 have lk2 := hlk _ (HOWN.out.alloc (Obj.cells #[Value.int IntKind.u8 k, Value.int IntKind.u64 (f.set : Int), Value.string (str f.body)] 181)).drew
 have lk3 := hlk _ ((HOWN.out.alloc (Obj.cells #[Value.int IntKind.u8 k, Value.int IntKind.u64 (f.set : Int), Value.string (str f.body)] 181)).alloc (Obj.cells #[Value.int IntKind.u8 k, Value.int IntKind.u64 (f.set : Int), Value.string (str f.body)] 181))
 have lk4 := hlk _ ((HOWN.out.alloc (Obj.cells #[Value.int IntKind.u8 k, Value.int IntKind.u64 (f.set : Int), Value.string (str f.body)] 181)).alloc (Obj.cells #[Value.int IntKind.u8 k, Value.int IntKind.u64 (f.set : Int), Value.string (str f.body)] 181)).drew
 clear hlk
 refine wp_region_held_drew (S := fun X => X.cell? ⟨w.heap.size, 0, none⟩ = some (.int .u8 k) ∧ X.cell? ⟨w.heap.size, 1, none⟩ = some (.int .u64 (f.set : Int)) ∧ X.cell? ⟨w.heap.size, 2, none⟩ = some (.string (str f.body))) (by kernel_rfl) ⟨by simp, by simp, by simp⟩ (fun hHeld => ?_)
 (refine tY 0 4 ?v1 ?a1 rfl (by kernel_rfl) (by rfl) (fun _ _ _ h => h) ?y1 (by assumption) rfl ?p1 ?_; (case y1 => (intro w hSw; (try dsimp only at hSw); simp only [gA, gB, gC, gD, gE]; go_simp; (try with_reducible rfl))); (case p1 => (simp only [Act.put, sA, sB, sC]; try rfl)))
 (refine tY 1 5 ?v2 ?a2 rfl (by kernel_rfl) (by rfl) (fun _ _ _ h => h) ?y2 (by assumption) rfl ?p2 ?_; (case y2 => (intro w hSw; (try dsimp only at hSw); simp only [gA, gB, gC, gD, gE]; go_simp; (try with_reducible rfl))); (case p2 => (simp only [Act.put, sA, sB, sC]; try rfl)))
 (refine tY 2 6 ?v3 ?a3 rfl (by kernel_rfl) (by rfl) (fun _ _ _ h => h) ?y3 (by assumption) rfl ?p3 ?_; (case y3 => (intro w hSw; (try dsimp only at hSw); simp only [gA, gB, gC, gD, gE]; go_simp; (try with_reducible rfl))); (case p3 => (simp only [Act.put, sA, sB, sC]; try rfl)))
 (refine tY 3 7 ?v4 ?a4 rfl (by kernel_rfl) (by rfl) (fun _ _ _ h => h) ?y4 (by assumption) rfl ?p4 ?_; (case y4 => (intro w hSw; (try dsimp only at hSw); simp only [gA, gB, gC, gD, gE]; go_simp; (try with_reducible rfl))); (case p4 => (simp only [Act.put, sA, sB, sC]; try rfl)))
 (refine tY 4 8 ?v5 ?a5 rfl (by kernel_rfl) (by rfl) (fun _ _ _ h => h) ?y5 (by assumption) rfl ?p5 ?_; (case y5 => (intro w hSw; (try dsimp only at hSw); simp only [gA, gB, gC, gD, gE]; go_simp; (try with_reducible rfl))); (case p5 => (simp only [Act.put, sA, sB, sC]; try rfl)))
 (refine tY 5 9 ?v6 ?a6 rfl (by kernel_rfl) (by rfl) (fun _ _ _ h => h) ?y6 (by assumption) rfl ?p6 ?_; (case y6 => (intro w hSw; (try dsimp only at hSw); simp only [gA, gB, gC, gD, gE]; go_simp; (try with_reducible rfl))); (case p6 => (simp only [Act.put, sA, sB, sC]; try rfl)))
 (refine tY 7 11 ?v7 ?a7 rfl (by kernel_rfl) (by rfl) (fun _ _ _ h => h) ?y7 (by assumption) rfl ?p7 ?_; (case y7 => (intro w hSw; (try dsimp only at hSw); simp only [gA, gB, gC, gD, gE]; go_simp; (try with_reducible rfl))); (case p7 => (simp only [Act.put, sA, sB, sC]; try rfl)))
 refine step_two (i := 6) (j := 8) (by kernel_rfl) (fun K o ho hK => ?_) (fun K o ho hK => ?_)
 focus
  simp only [List.getElem?_toArray, List.getElem?_cons_succ, List.getElem?_cons_zero, Option.some.injEq] at ho
  subst ho
  go_simp
  refine hK.out _ _ ?_ (fun hHeld => ?_)
  focus exact ⟨by simp, by simp, by simp⟩
  clear hK K
  try simp only [Act.put, List.setIfInBounds_toArray, List.set_cons_zero, List.set_cons_succ]
  refine step_one (i := 8) (by kernel_rfl) (fun K o ho hK => ?_)
  simp only [List.getElem?_toArray, List.getElem?_cons_succ, List.getElem?_cons_zero, Option.some.injEq] at ho
  subst ho
  go_simp
  refine hK.out _ _ ?_ (fun hHeld => ?_)
  focus exact ⟨by simp, by simp, by simp⟩
  clear hK K
  try simp only [Act.put, List.setIfInBounds_toArray, List.set_cons_zero, List.set_cons_succ]
  rw [← hW9]
  refine step_one (i := 9) (by kernel_rfl) (fun K o ho hK => ?_)
  simp only [List.getElem?_toArray, List.getElem?_cons_succ, List.getElem?_cons_zero, Option.some.injEq] at ho
  subst ho
  rw [if_pos (by rfl)]
  refine wp_append_at _ (.tmp 10) (.tmp 12) 180 rfl base 181 i0 (.agg #[.int .u8 0, .int .u64 0, .string ByteArray.empty]) 3 32 Tryz.underlying180 hi hz0 hz1 hz2 rfl (by decide) v L.length (foundsV L) rfl H9.out ⟨w.heap.size + 1, 0, none⟩ 1 1 [.int .u8 k, .int .u64 (f.set : Int), .string (str f.body)] rfl rfl HC1.out ?c2 (by unfold maxLen; omega) (by omega) (by omega) ?_
  case c2 =>
   intro u hu
   simp at hu
   rcases hu with rfl | rfl | rfl <;> rfl
  intro v' w' hown' hg hloc
  obtain ⟨ht', hm', hc'⟩ := HAFT.out v' w' hg
  refine hK.out _ _ ?_ (fun hHeld => ?_)
  focus exact hc'
  clear hK K
  try simp only [Act.put, List.setIfInBounds_toArray, List.set_cons_zero, List.set_cons_succ]
  refine step_one (i := 10) (by kernel_rfl) (fun K o ho hK => ?_)
  simp only [List.getElem?_toArray, List.getElem?_cons_succ, List.getElem?_cons_zero, Option.some.injEq] at ho
  subst ho
  rw [if_pos (by rfl)]
  refine wp_mapUpdate _ (.tmp 4) (.tmp 6) (.tmp 13) 174 rfl 5 180 Tryz.lawByte Tryz.underlying174 M n D rfl hm' (by unfold maxLen; omega) _ v' _ rfl rfl HKEY.out ?_
  intro w'' hm'' ht''
  refine hK.out _ _ ?_ (fun hHeld => ?_)
  focus exact HFIN.out v' w' w'' hc' ht''
  clear hK K
  try simp only [Act.put, List.setIfInBounds_toArray, List.set_cons_zero, List.set_cons_succ]
  refine wpAnyH_done (by kernel_rfl) ?_ _
  go_wp2_with fail
  go_end0
  exact ⟨v', rfl, hm'', by rw [HSN.out]; exact HROW.out v' w' w'' hown' hloc ht'', (ht'.mono (by simp +contextual)).trans (ht''.mono (by simp +contextual)), hloc.imp id (fun h => ⟨_, h, by omega⟩)⟩
 focus
  simp only [List.getElem?_toArray, List.getElem?_cons_succ, List.getElem?_cons_zero, Option.some.injEq] at ho
  subst ho
  go_simp
  refine hK.out _ _ ?_ (fun hHeld => ?_)
  focus exact ⟨by simp, by simp, by simp⟩
  clear hK K
  try simp only [Act.put, List.setIfInBounds_toArray, List.set_cons_zero, List.set_cons_succ]
  refine step_one (i := 6) (by kernel_rfl) (fun K o ho hK => ?_)
  simp only [List.getElem?_toArray, List.getElem?_cons_succ, List.getElem?_cons_zero, Option.some.injEq] at ho
  subst ho
  go_simp
  refine hK.out _ _ ?_ (fun hHeld => ?_)
  focus exact ⟨by simp, by simp, by simp⟩
  clear hK K
  try simp only [Act.put, List.setIfInBounds_toArray, List.set_cons_zero, List.set_cons_succ]
  rw [← hW9]
  refine step_one (i := 9) (by kernel_rfl) (fun K o ho hK => ?_)
  simp only [List.getElem?_toArray, List.getElem?_cons_succ, List.getElem?_cons_zero, Option.some.injEq] at ho
  subst ho
  rw [if_pos (by rfl)]
  refine wp_append_at _ (.tmp 10) (.tmp 12) 180 rfl base 181 i0 (.agg #[.int .u8 0, .int .u64 0, .string ByteArray.empty]) 3 32 Tryz.underlying180 hi hz0 hz1 hz2 rfl (by decide) v L.length (foundsV L) rfl H9.out ⟨w.heap.size + 1, 0, none⟩ 1 1 [.int .u8 k, .int .u64 (f.set : Int), .string (str f.body)] rfl rfl HC1.out ?c2 (by unfold maxLen; omega) (by omega) (by omega) ?_
  case c2 =>
   intro u hu
   simp at hu
   rcases hu with rfl | rfl | rfl <;> rfl
  intro v' w' hown' hg hloc
  obtain ⟨ht', hm', hc'⟩ := HAFT.out v' w' hg
  refine hK.out _ _ ?_ (fun hHeld => ?_)
  focus exact hc'
  clear hK K
  try simp only [Act.put, List.setIfInBounds_toArray, List.set_cons_zero, List.set_cons_succ]
  refine step_one (i := 10) (by kernel_rfl) (fun K o ho hK => ?_)
  simp only [List.getElem?_toArray, List.getElem?_cons_succ, List.getElem?_cons_zero, Option.some.injEq] at ho
  subst ho
  rw [if_pos (by rfl)]
  refine wp_mapUpdate _ (.tmp 4) (.tmp 6) (.tmp 13) 174 rfl 5 180 Tryz.lawByte Tryz.underlying174 M n D rfl hm' (by unfold maxLen; omega) _ v' _ rfl rfl HKEY.out ?_
  intro w'' hm'' ht''
  refine hK.out _ _ ?_ (fun hHeld => ?_)
  focus exact HFIN.out v' w' w'' hc' ht''
  clear hK K
  try simp only [Act.put, List.setIfInBounds_toArray, List.set_cons_zero, List.set_cons_succ]
  refine wpAnyH_done (by kernel_rfl) ?_ _
  go_wp2_with fail
  go_end0
  exact ⟨v', rfl, hm'', by rw [HSN.out]; exact HROW.out v' w' w'' hown' hloc ht'', (ht'.mono (by simp +contextual)).trans (ht''.mono (by simp +contextual)), hloc.imp id (fun h => ⟨_, h, by omega⟩)⟩
def nilSl : Value := .slice none 0 0
def Pile (w : World) (M base : Nat) (l : List FoundL) : Prop := ∃ (n : Nat) (D : DataW Value) (V : UInt8 → Value), n ≤ l.length ∧ w.ownsMap Tryz.prog 5 rawE M n D ∧
 (∀ k, (atM D (.int .u8 (k.toNat : Int))).getD nilSl = V k ∧ w.ownsRow base 181 3 (V k) (l.filter (·.kind == k)).length (foundsV (l.filter (·.kind == k)))) ∧
 (∀ k k' j, k ≠ k' → (V k).ownBlock = some j → (V k').ownBlock ≠ some j)
theorem lit8_ne {k k' : UInt8} (h : k ≠ k') : Lit.int .u8 (k.toNat : Int) ≠ Lit.int .u8 (k'.toNat : Int) := fun e => by
 simp only [Lit.int.injEq, true_and] at e
 exact h (UInt8.toNat_inj.1 (by exact_mod_cast e))
theorem isKeyLit8 (k : UInt8) : WideAt.IsKeyLit (Lit.int .u8 (k.toNat : Int)) := by trivial
theorem Pile.lt {w : World} {M base : Nat} {l : List FoundL} (h : Pile w M base l) : M < w.heap.size := by
 obtain ⟨n, D, V, _, h1, _⟩ := h
 exact h1.lt
theorem Pile.touch {w w' : World} {M base : Nat} {l : List FoundL} (h : Pile w M base l) {L : List Nat} (ht : Touch L w w') (hL : ∀ x ∈ L, x < base ∧ x ≠ M) : Pile w' M base l := by
 obtain ⟨n, D, V, hn, h1, h2, h3⟩ := h
 have hblk : w'.heap[M]? = w.heap[M]? := ht.block M h1.lt (fun e => (hL M e).2 rfl)
 refine ⟨n, D, V, hn, ?_, fun k => ⟨(h2 k).1, owns_touch (h2 k).2 ht (fun x hx => (hL x hx).1)⟩, h3⟩
 obtain ⟨es, clock, hb, F, hs, hD⟩ := h1
 exact ⟨es, clock, hblk.trans hb, F, hs, hD⟩
theorem Pile.later {w w' : World} {M base : Nat} {l : List FoundL} (h : Pile w M base l) (hb : Below w.heap.size w w') : Pile w' M base l := h.touch (Touch.of_below hb []) (by simp)
theorem pile_add (M base : Nat) (l : List FoundL) (f : FoundL) (w : World) (hl : l.length < 1000000000) (hb : base ≤ w.heap.size) (hMb : M < base) (hp : Pile w M base l) :
  Calls Tryz.prog 109 #[.map (some M), packV f.kind.toNat f.set f.body] w fun e w' => e = .returned (.tuple #[]) ∧ Pile w' M base (l ++ [f]) ∧ Below M w w' := by
 obtain ⟨n, D, V, hn, h1, h2, h3⟩ := hp
 have hlf : (l.filter (·.kind == f.kind)).length ≤ l.length := List.length_filter_le _ _
 refine (add_walk M n D base (l.filter (·.kind == f.kind)) (V f.kind) f w (by omega) (by omega) h1 hb hMb (h2 f.kind).1 (h2 f.kind).2).mono ?_
 rintro e w' ⟨v', rfl, hm', ho', ht', hloc⟩
 have hvb : ∀ k j, (V k).ownBlock = some j → base ≤ j ∧ j < w.heap.size := fun k j hj => (h2 k).2.lt j hj
 refine ⟨rfl, ⟨n + 1, _, fun k => if k = f.kind then v' else V k, by simp; omega, hm', fun k => ?_, ?_⟩, ht'.below (by omega) (fun x hx => ?_)⟩
 ·by_cases hk : k = f.kind
  ·subst hk
   simp only [if_pos]
   rw [atM_put_same h1.isMap (isKeyLit8 _)]
   refine ⟨rfl, ?_⟩
   rw [List.filter_append, List.filter_cons]
   simp only [beq_self_eq_true, if_pos, List.filter_nil, List.length_append, List.length_cons, List.length_nil]
   exact ho'
  ·simp only [if_neg hk]
   rw [atM_put_other _ (lit8_ne hk)]
   refine ⟨(h2 k).1, ?_⟩
   rw [List.filter_append, List.filter_cons, beq_eq_false_iff_ne.2 (Ne.symm hk)]
   simp only [Bool.false_eq_true, if_false, List.filter_nil, List.append_nil]
   refine owns_touch' (h2 k).2 ht' (fun j hj hm => ?_)
   rw [List.mem_cons, blkL_mem] at hm
   rcases hm with e | e
   ·have := hvb k j hj
    omega
   ·exact h3 k f.kind j hk hj e
 ·intro k k' j hne hj hj'
  by_cases hk : k = f.kind
  ·subst hk
   simp only [if_pos, if_neg (Ne.symm hne)] at hj hj'
   rcases hloc with e | ⟨i, e, hi⟩
   ·rw [hj] at e
    exact h3 f.kind k' j hne e.symm hj'
   ·rw [hj] at e
    cases e
    have := hvb k' j hj'
    omega
  ·simp only [if_neg hk] at hj
   by_cases hk' : k' = f.kind
   ·subst hk'
    simp only [if_pos] at hj'
    rcases hloc with e | ⟨i, e, hi⟩
    ·rw [hj'] at e
     exact h3 k f.kind j hne hj e.symm
    ·rw [hj'] at e
     cases e
     have := hvb k j hj
     omega
   ·simp only [if_neg hk'] at hj'
    exact h3 k k' j hne hj hj'
 ·rw [List.mem_cons, blkL_mem] at hx
  rcases hx with e | e
  ·omega
  ·have := hvb f.kind x e
   omega
end Go.Proofs.YtonjphollmdicaaGreatDoor
namespace Go.Proofs.YtonjphollmdicaaGreatDoor
open Go.ChangeShapes Go.WideShapes Go.ChangeAt Go.RowKit
structure MainL where
 size : Nat
 files : List Nat
 set : Nat
def mainOf (f : FoundL) : MainL := ⟨mainSize f.body, mainFiles f.body, f.set⟩
def takesF (m : MainL) (f : FoundL) : Option Nat := if f.set = m.set ∧ fRight f.body m.size = true ∧ fNumber f.body < m.files.length ∧ hashL f.body = m.files.getD (fNumber f.body) 0 then some (fNumber f.body) else none
def takesE (m : MainL) (f : FoundL) : Option Nat := if f.set = m.set ∧ eRight f.body m.size = true then some (eNumber f.body) else none
def firstOf (g : FoundL → Option Nat) (l : List FoundL) (i : Nat) : Option FoundL := l.find? (fun f => g f == some i)
def keysOf (g : FoundL → Option Nat) (l : List FoundL) (N : Nat) : List Nat := (List.range N).filter fun i => (firstOf g l i).isSome
theorem firstOf_snoc (g : FoundL → Option Nat) (l : List FoundL) (f : FoundL) (i : Nat) : firstOf g (l ++ [f]) i = (firstOf g l i).or (if g f = some i then some f else none) := by
 unfold firstOf
 rw [List.find?_append, List.find?_cons, List.find?_nil]
 by_cases h : g f = some i
 ·rw [if_pos h, beq_iff_eq.2 h]
 ·rw [if_neg h, beq_eq_false_iff_ne.2 h]
theorem firstOf_same {g : FoundL → Option Nat} {l : List FoundL} {f : FoundL} (h : ∀ i, g f = some i → (firstOf g l i).isSome = true) (i : Nat) : firstOf g (l ++ [f]) i = firstOf g l i := by
 rw [firstOf_snoc]
 by_cases c : g f = some i
 ·have := h i c
  cases hh : firstOf g l i with
  | none => rw [hh] at this; simp at this
  | some x => rfl
 ·rw [if_neg c, Option.or_none]
theorem firstOf_new {g : FoundL → Option Nat} {l : List FoundL} {f : FoundL} {j : Nat} (hf : g f = some j) (h : firstOf g l j = none) (i : Nat) : firstOf g (l ++ [f]) i = if i = j then some f else firstOf g l i := by
 rw [firstOf_snoc, hf]
 by_cases c : i = j
 ·subst c
  rw [h, if_pos rfl, if_pos rfl]
  rfl
 ·rw [if_neg c, if_neg (fun e => c (Option.some.inj e).symm), Option.or_none]
theorem filter_add (N : Nat) (p q : Nat → Bool) (j : Nat) (hj : j < N) (hp : p j = false) (hq : ∀ i, q i = (decide (i = j) || p i)) : ((List.range N).filter q).length = ((List.range N).filter p).length + 1 := by
 induction N with
 | zero => omega
 | succ N ih =>
  rw [List.range_succ, List.filter_append, List.filter_append, List.length_append, List.length_append]
  by_cases c : j = N
  ·subst c
   have e : (List.range j).filter q = (List.range j).filter p := List.filter_congr (fun i hi => by
    rw [List.mem_range] at hi
    rw [hq, decide_eq_false (by omega), Bool.false_or])
   have q1 : q j = true := by rw [hq]; simp
   rw [e, List.filter_cons, q1, List.filter_cons, hp]
   simp
  ·have h1 := ih (by omega)
   have e : q N = p N := by rw [hq, decide_eq_false (by omega), Bool.false_or]
   rw [h1, List.filter_cons, List.filter_cons, e]
   cases p N <;> simp
theorem keys_new {g : FoundL → Option Nat} {l : List FoundL} {f : FoundL} {j N : Nat} (hf : g f = some j) (h : firstOf g l j = none) (hj : j < N) : (keysOf g (l ++ [f]) N).length = (keysOf g l N).length + 1 :=
 filter_add N _ _ j hj (by rw [h]; rfl) (fun i => by
  rw [firstOf_new hf h]
  by_cases c : i = j
  ·rw [if_pos c, decide_eq_true c]; rfl
  ·rw [if_neg c, decide_eq_false c, Bool.false_or])
theorem keys_same {g : FoundL → Option Nat} {l : List FoundL} {f : FoundL} (h : ∀ i, g f = some i → (firstOf g l i).isSome = true) (N : Nat) : keysOf g (l ++ [f]) N = keysOf g l N :=
 List.filter_congr (fun i _ => by rw [firstOf_same h])
def isMain (f : FoundL) : Bool := mainRight f.body && (hashL f.body == f.set)
theorem find_filter (p q : FoundL → Bool) (l : List FoundL) : (l.filter p).find? q = l.find? (fun f => p f && q f) := by
 induction l with
 | nil => rfl
 | cons f r ih =>
  rw [List.filter_cons, List.find?_cons]
  cases hp : p f with
  | true => simp [List.find?_cons, ih]
  | false => simp
theorem chief_of_pile (l : List FoundL) : (l.filter (·.kind == 77)).find? isMain = chiefL l := by
 rw [find_filter]
 unfold chiefL
 congr 1
 funext f
 rw [isChief_eq]
 unfold isMain
 rw [Bool.and_assoc]
theorem takesF_iff (m : MainL) (f : FoundL) (i : Nat) (hi : i < m.files.length) (hk : f.kind = 70) : (takesF m f = some i) ↔ (speaksOf m.set i (m.files.getD i 0) f = true ∧ isForm f.body m.size = true) := by
 unfold takesF speaksOf
 rw [fRight_eq, hk]
 constructor
 ·intro h
  split at h
  ·rename_i hc
   obtain ⟨h1, h2, h3, h4⟩ := hc
   have hn := (fInfo_eq h2).2
   cases h
   refine ⟨?_, h2⟩
   have hl : 1 ≤ f.body.length := by
    unfold isForm at h2
    simp only [Bool.and_eq_true, decide_eq_true_eq] at h2
    omega
   rw [hn] at h4
   simp [h1, hl, hn, h4]
  ·cases h
 ·rintro ⟨h1, h2⟩
  simp only [Bool.and_eq_true, decide_eq_true_eq, beq_iff_eq] at h1
  obtain ⟨⟨⟨⟨_, h3⟩, _⟩, h5⟩, h6⟩ := h1
  have hn := (fInfo_eq h2).2
  rw [h5] at hn
  rw [hn, if_pos ⟨h3, h2, hi, h6⟩]
theorem described_of_pile (m : MainL) (i : Nat) (hi : i < m.files.length) (l : List FoundL) : (firstOf (takesF m) (l.filter (·.kind == 70)) i).map (fun f => formAt f.body m.size) = describedL l m.set i (m.files.getD i 0) m.size := by
 unfold firstOf
 rw [find_filter]
 unfold describedL
 induction l with
 | nil => rfl
 | cons f r ih =>
  rw [List.find?_cons, List.findSome?_cons]
  by_cases hk : f.kind = 70
  ·rw [hk]
   have hiff := takesF_iff m f i hi hk
   by_cases h : takesF m f = some i
   ·obtain ⟨h1, h2⟩ := hiff.1 h
    rw [h, h1]
    unfold formL
    simp [h2]
   ·rw [beq_eq_false_iff_ne.2 h]
    simp only [Bool.and_false]
    by_cases h1 : speaksOf m.set i (m.files.getD i 0) f = true
    ·have h2 : isForm f.body m.size = false := by
      cases c : isForm f.body m.size
      ·rfl
      ·exact absurd (hiff.2 ⟨h1, c⟩) h
     rw [h1]
     unfold formL
     simp only [h2]
     exact ih
    ·rw [if_neg h1]
     exact ih
  ·have h1 : speaksOf m.set i (m.files.getD i 0) f = false := by
    unfold speaksOf
    rw [beq_eq_false_iff_ne.2 hk]
    rfl
   rw [h1, beq_eq_false_iff_ne.2 hk]
   exact ih
def isExtra (set b j : Nat) (f : FoundL) : Bool := f.kind == 82 && (f.set == set) && decide (f.body.length = 2 + b) && (numL (f.body.take 2) == j)
def exL (l : List FoundL) (set b j : Nat) : Option (List UInt8) := (l.find? (isExtra set b j)).map fun f => f.body.drop 2
theorem takesE_iff (m : MainL) (f : FoundL) (j : Nat) (hj : j < 20) : (f.kind == 82 && takesE m f == some j) = isExtra m.set m.size j f := by
 unfold takesE isExtra
 rw [eRight_eq]
 cases f.kind == 82
 ·rfl
 ·simp only [Bool.true_and]
  by_cases h1 : f.set = m.set
  ·by_cases h2 : f.body.length = 2 + m.size
   ·have he := (eInfo_eq h2).1
    by_cases h3 : numL (f.body.take 2) < 20
    ·rw [if_pos ⟨h1, by simp [h2, h3]⟩, he]
     simp [h1, h2]
    ·rw [if_neg (by simp [h3])]
     have : ¬ numL (f.body.take 2) = j := by omega
     simp [this]
   ·rw [if_neg (by simp [h2])]
    simp [h2]
  ·rw [if_neg (by simp [h1])]
   simp [h1]
theorem extra_of_pile (m : MainL) (j : Nat) (hj : j < 20) (l : List FoundL) : (firstOf (takesE m) (l.filter (·.kind == 82)) j).map (fun f => eSlice f.body m.size) = exL l m.set m.size j := by
 unfold firstOf exL
 rw [find_filter]
 have e : (fun f : FoundL => f.kind == 82 && takesE m f == some j) = isExtra m.set m.size j := funext fun f => takesE_iff m f j hj
 rw [e]
 cases h : l.find? (isExtra m.set m.size j) with
 | none => rfl
 | some f =>
  have hf := List.find?_some h
  unfold isExtra at hf
  simp only [Bool.and_eq_true, decide_eq_true_eq] at hf
  simp only [Option.map_some, Option.some.injEq]
  exact (eInfo_eq hf.1.2).2
theorem takesE_lt {m : MainL} {f : FoundL} {j : Nat} (h : takesE m f = some j) : j < 20 := by
 unfold takesE at h
 split at h
 ·rename_i hc
  cases h
  have := hc.2
  unfold eRight at this
  simp only [Bool.and_eq_true, decide_eq_true_eq] at this
  exact this.2
 ·cases h
theorem takesF_lt {m : MainL} {f : FoundL} {j : Nat} (h : takesF m f = some j) : j < m.files.length := by
 unfold takesF at h
 split at h
 ·rename_i hc
  cases h
  exact hc.2.2.1
 ·cases h
end Go.Proofs.YtonjphollmdicaaGreatDoor
