import Derived.Test.YtonjphollmdicaaGreatDoorB01
import Derived.Test.YtonjphollmdicaaGreatDoorB17
import Derived.Test.YtonjphollmdicaaGreatDoorB19
import Derived.Test.YtonjphollmdicaaGreatDoorB20
import Derived.Test.YtonjphollmdicaaGreatDoorB21
set_option maxRecDepth 100000
set_option maxHeartbeats 4000000
set_option linter.unusedSimpArgs false
namespace Go.Proofs.YtonjphollmdicaaGreatDoor
open Go.ChangeShapes Go.WideShapes Go.ChangeAt Go.RowKit
open Go.Maps
theorem Tryz.lawByte : Keyed Tryz.prog 5 := int_keyed Tryz.underlying5
theorem Tryz.zeroPackets (w : World) : (zeroValue 180).run Tryz.prog w = .ok (.slice none 0 0) w := by kernel_rfl
theorem Tryz.infoPk : (Tryz.prog.info? 181).map (fun i => (i.zero, i.size, i.bytes)) = some (some (.agg #[.int .u8 0, .int .u64 0, .string ByteArray.empty]), 3, 32) := by kernel_rfl
theorem wf8 (k : UInt8) : (Lit.int .u8 (k.toNat : Int)).wf = true := by
 have := k.toNat_lt
 exact WalkArith.wf_u8 (by omega)
theorem Rl (M n : Nat) (D : DataW Value) (base : Nat) (L : List FoundL) (v : Value) (f : FoundL) (w : World) (hn : n < 1000000000) (hl : L.length ≤ 1000000000) (hown : w.ownsMap Tryz.prog 5 CK M n D) (hb : base ≤ w.heap.size) (hMb : M < base)
  (hat : (atM D (.int .u8 (f.kind.toNat : Int))).getD (.slice none 0 0) = v) (hv : w.ownsRow base 181 3 v L.length (A8 L)) :
  Calls Tryz.prog 109 #[.map (some M), CC f.kind.toNat f.set f.body] w fun e w' => ∃ v', e = .returned (.tuple #[]) ∧ w'.ownsMap Tryz.prog 5 CK M (n + 1) (D.put (.int .u8 (f.kind.toNat : Int)) (.held v')) ∧ w'.ownsRow base 181 3 v' (L.length + 1) (A8 (L ++ [f])) ∧ Touch (M :: Ed v) w w' ∧ (v'.ownBlock = v.ownBlock ∨ ∃ j, v'.ownBlock = some j ∧ w.heap.size ≤ j) := by
 obtain ⟨i0, hi, hz0, hz1, hz2⟩ := info_parts Tryz.infoPk
 have hMlt := hown.lt
 have HOWN := Aa hown
 have HAT := Aa hat
 have HV := Aa hv
 clear hown hat hv
 unfold CC
 obtain ⟨k, hk⟩ : ∃ k : Int, k = (f.kind.toNat : Int) := ⟨_, rfl⟩
 have hkey : keyOf Tryz.prog 5 (.int .u8 k) = some (.int .u8 k) := keyOf_int_mk Tryz.underlying5 (by rw [hk]; exact wf8 _)
 rw [← hk] at HAT ⊢
 have hsn := G0 L f
 rw [← hk] at hsn
 have HSN := Aa hsn
 have HKEY := Aa hkey
 clear hk hsn hkey
 go_enter Tryz.func109, Tryz.ntmps109
 go_wp2_with fail
 obtain ⟨W9, hW9⟩ : ∃ W, W = ((w.alloc (Obj.cells #[Value.int IntKind.u8 k, Value.int IntKind.u64 (f.set : Int), Value.string (str f.body)] 181)).alloc (Obj.cells #[Value.int IntKind.u8 k, Value.int IntKind.u64 (f.set : Int), Value.string (str f.body)] 181)).drew := ⟨_, rfl⟩
 have ht9 : Touch [] w W9 := by rw [hW9]; exact (((Touch.refl [] w).alloc _).alloc _).drew
 have hs9 : W9.heap.size = w.heap.size + 2 := by rw [hW9]; simp
 have h9 : W9.ownsRow base 181 3 v L.length (A8 L) := Ac HV.out ht9 (by simp)
 have hm9 : W9.ownsMap Tryz.prog 5 CK M n D := HOWN.out.kept ht9.grown_none (by simp)
 have hc1 : ∀ j u, [Value.int .u8 k, .int .u64 (f.set : Int), .string (str f.body)][j]? = some u → W9.cell? ((⟨w.heap.size + 1, 0, none⟩ : Addr).add j) = some u := by
  have := LH (w.alloc (Obj.cells #[Value.int IntKind.u8 k, Value.int IntKind.u64 (f.set : Int), Value.string (str f.body)] 181)) (.int .u8 k) (.int .u64 (f.set : Int)) (.string (str f.body)) 181
  rw [hW9]
  simpa using this
 have hcl : W9.cell? ⟨w.heap.size, 0, none⟩ = some (.int .u8 k) ∧ W9.cell? ⟨w.heap.size, 1, none⟩ = some (.int .u64 (f.set : Int)) ∧ W9.cell? ⟨w.heap.size, 2, none⟩ = some (.string (str f.body)) := by
  rw [hW9]
  exact ⟨by simp, by simp, by simp⟩
 have hvb : ∀ j, v.ownBlock = some j → base ≤ j ∧ j < w.heap.size := fun j hj => HV.out.lt j hj
 have hcq : ∀ {X Y : World} {T : List Nat}, Touch T X Y → w.heap.size < X.heap.size → w.heap.size ∉ T → (X.cell? ⟨w.heap.size, 0, none⟩ = some (.int .u8 k) ∧ X.cell? ⟨w.heap.size, 1, none⟩ = some (.int .u64 (f.set : Int)) ∧ X.cell? ⟨w.heap.size, 2, none⟩ = some (.string (str f.body))) → (Y.cell? ⟨w.heap.size, 0, none⟩ = some (.int .u8 k) ∧ Y.cell? ⟨w.heap.size, 1, none⟩ = some (.int .u64 (f.set : Int)) ∧ Y.cell? ⟨w.heap.size, 2, none⟩ = some (.string (str f.body))) := fun {X Y T} ht hlt hT h =>
  ⟨by rw [ht.cell (x := ⟨w.heap.size, 0, none⟩) hlt hT]; exact h.1, by rw [ht.cell (x := ⟨w.heap.size, 1, none⟩) hlt hT]; exact h.2.1, by rw [ht.cell (x := ⟨w.heap.size, 2, none⟩) hlt hT]; exact h.2.2⟩
 have haft : ∀ (v' : Value) (w' : World), W9.grownBy w' v.ownBlock → Touch (Ed v) w w' ∧ w'.ownsMap Tryz.prog 5 CK M n D ∧ (w'.cell? ⟨w.heap.size, 0, none⟩ = some (.int .u8 k) ∧ w'.cell? ⟨w.heap.size, 1, none⟩ = some (.int .u64 (f.set : Int)) ∧ w'.cell? ⟨w.heap.size, 2, none⟩ = some (.string (str f.body))) := by
  intro v' w' hg
  refine ⟨(ht9.mono (by simp)).trans (Touch.of_row hg), hm9.kept hg (fun e => ?_), hcq (Touch.of_row hg) (by omega) (fun e => ?_) hcl⟩
  ·have := hvb M e.symm
   omega
  ·have := hvb _ (blkL_mem.1 e)
   omega
 have hfin : ∀ (v' : Value) (w' w'' : World), (w'.cell? ⟨w.heap.size, 0, none⟩ = some (.int .u8 k) ∧ w'.cell? ⟨w.heap.size, 1, none⟩ = some (.int .u64 (f.set : Int)) ∧ w'.cell? ⟨w.heap.size, 2, none⟩ = some (.string (str f.body))) → Touch [M] w' w'' → (w''.cell? ⟨w.heap.size, 0, none⟩ = some (.int .u8 k) ∧ w''.cell? ⟨w.heap.size, 1, none⟩ = some (.int .u64 (f.set : Int)) ∧ w''.cell? ⟨w.heap.size, 2, none⟩ = some (.string (str f.body))) :=
  fun v' w' w'' h ht => hcq ht (World.block_lt_of_cell? w' _ h.1) (by simp; omega) h
 have hrow : ∀ (v' : Value) (w' w'' : World), w'.ownsRow base 181 3 v' (L.length + 1) (A8 L ++ [.int .u8 k, .int .u64 (f.set : Int), .string (str f.body)]) → (v'.ownBlock = v.ownBlock ∨ v'.ownBlock = some W9.heap.size) → Touch [M] w' w'' → w''.ownsRow base 181 3 v' (L.length + 1) (A8 L ++ [.int .u8 k, .int .u64 (f.set : Int), .string (str f.body)]) :=
  fun v' w' w'' h _ ht => Ac h ht (by simpa using hMb)
 have H9 := Aa h9
 have HC1 := Aa hc1
 have HAFT := Aa haft
 have HFIN := Aa hfin
 have HROW := Aa hrow
 have HCL := Aa hcl
 have HT9 := Aa ht9
 clear h9 hm9 hc1 haft hfin hrow hcl hvb hcq ht9
 have hlk : ∀ X : World, X.ownsMap Tryz.prog 5 CK M n D → (Instr.lookup 174 (.map (some M)) (.int .u8 k) false).run Tryz.prog X = .ok v X := fun X hX => by
  have := FJ hX Tryz.lawByte Tryz.underlying174 (Tryz.zeroPackets X) HKEY.out
  rw [HAT.out] at this
  exact this
 have lk1 := hlk _ (HOWN.out.alloc (Obj.cells #[Value.int IntKind.u8 k, Value.int IntKind.u64 (f.set : Int), Value.string (str f.body)] 181))
 have lk2 := hlk _ (HOWN.out.alloc (Obj.cells #[Value.int IntKind.u8 k, Value.int IntKind.u64 (f.set : Int), Value.string (str f.body)] 181)).drew
 have lk3 := hlk _ ((HOWN.out.alloc (Obj.cells #[Value.int IntKind.u8 k, Value.int IntKind.u64 (f.set : Int), Value.string (str f.body)] 181)).alloc (Obj.cells #[Value.int IntKind.u8 k, Value.int IntKind.u64 (f.set : Int), Value.string (str f.body)] 181))
 have lk4 := hlk _ ((HOWN.out.alloc (Obj.cells #[Value.int IntKind.u8 k, Value.int IntKind.u64 (f.set : Int), Value.string (str f.body)] 181)).alloc (Obj.cells #[Value.int IntKind.u8 k, Value.int IntKind.u64 (f.set : Int), Value.string (str f.body)] 181)).drew
 clear hlk
 refine wp_region_held_drew (S := fun X => X.cell? ⟨w.heap.size, 0, none⟩ = some (.int .u8 k) ∧ X.cell? ⟨w.heap.size, 1, none⟩ = some (.int .u64 (f.set : Int)) ∧ X.cell? ⟨w.heap.size, 2, none⟩ = some (.string (str f.body))) (by kernel_rfl) ⟨by simp, by simp, by simp⟩ (fun hHeld => ?_)
 refine tY 0 4 ?_
 refine tY 1 5 ?_
 refine tY 2 6 ?_
 refine tY 3 7 ?_
 refine tY 4 8 ?_
 refine tY 5 9 ?_
 refine tY 7 11 ?_
 refine EK (i := 6) (j := 8) (by kernel_rfl) (fun K o ho hK => ?_) (fun K o ho hK => ?_)
 focus
  simp only [gA, gB, gC, gE] at ho
  subst ho
  go_simp
  refine hK.out _ _ ?_ (fun hHeld => ?_)
  focus exact ⟨by simp, by simp, by simp⟩
  clear hK K
  try simp only [Act.put, sA, sB, sC]
  refine Ah (i := 8) (by kernel_rfl) (fun K o ho hK => ?_)
  simp only [gA, gB, gC, gE] at ho
  subst ho
  go_simp
  refine hK.out _ _ ?_ (fun hHeld => ?_)
  focus exact ⟨by simp, by simp, by simp⟩
  clear hK K
  try simp only [Act.put, sA, sB, sC]
  rw [← hW9]
  refine Ah (i := 9) (by kernel_rfl) (fun K o ho hK => ?_)
  simp only [gA, gB, gC, gE] at ho
  subst ho
  rw [if_pos (by rfl)]
  refine BG _ (.tmp 10) (.tmp 12) 180 rfl base 181 i0 (.agg #[.int .u8 0, .int .u64 0, .string ByteArray.empty]) 3 32 Tryz.underlying180 hi hz0 hz1 hz2 rfl (by decide) v L.length (A8 L) rfl H9.out ⟨w.heap.size + 1, 0, none⟩ 1 1 [.int .u8 k, .int .u64 (f.set : Int), .string (str f.body)] rfl rfl HC1.out ?c2 (by unfold maxLen; omega) (by omega) (by omega) ?_
  case c2 =>
   intro u hu
   simp at hu
   rcases hu with rfl | rfl | rfl <;> rfl
  intro v' w' hown' hg hloc
  obtain ⟨ht', hm', hc'⟩ := HAFT.out v' w' hg
  refine hK.out _ _ ?_ (fun hHeld => ?_)
  focus exact hc'
  clear hK K
  try simp only [Act.put, sA, sB, sC]
  refine Ah (i := 10) (by kernel_rfl) (fun K o ho hK => ?_)
  simp only [gA, gB, gC, gE] at ho
  subst ho
  rw [if_pos (by rfl)]
  refine GW _ (.tmp 4) (.tmp 6) (.tmp 13) 174 rfl 5 180 Tryz.lawByte Tryz.underlying174 M n D rfl hm' (by unfold maxLen; omega) _ v' _ rfl rfl HKEY.out ?_
  intro w'' hm'' ht''
  refine hK.out _ _ ?_ (fun hHeld => ?_)
  focus exact HFIN.out v' w' w'' hc' ht''
  clear hK K
  try simp only [Act.put, sA, sB, sC]
  refine wpAnyH_done (by kernel_rfl) ?_ _
  go_wp2_with fail
  go_end0
  exact ⟨v', rfl, hm'', by rw [HSN.out]; exact HROW.out v' w' w'' hown' hloc ht'', (ht'.mono (by simp +contextual)).trans (ht''.mono (by simp +contextual)), hloc.imp id (fun h => ⟨_, h, by omega⟩)⟩
 focus
  simp only [gA, gB, gC, gE] at ho
  subst ho
  go_simp
  refine hK.out _ _ ?_ (fun hHeld => ?_)
  focus exact ⟨by simp, by simp, by simp⟩
  clear hK K
  try simp only [Act.put, sA, sB, sC]
  refine Ah (i := 6) (by kernel_rfl) (fun K o ho hK => ?_)
  simp only [gA, gB, gC, gE] at ho
  subst ho
  go_simp
  refine hK.out _ _ ?_ (fun hHeld => ?_)
  focus exact ⟨by simp, by simp, by simp⟩
  clear hK K
  try simp only [Act.put, sA, sB, sC]
  rw [← hW9]
  refine Ah (i := 9) (by kernel_rfl) (fun K o ho hK => ?_)
  simp only [gA, gB, gC, gE] at ho
  subst ho
  rw [if_pos (by rfl)]
  refine BG _ (.tmp 10) (.tmp 12) 180 rfl base 181 i0 (.agg #[.int .u8 0, .int .u64 0, .string ByteArray.empty]) 3 32 Tryz.underlying180 hi hz0 hz1 hz2 rfl (by decide) v L.length (A8 L) rfl H9.out ⟨w.heap.size + 1, 0, none⟩ 1 1 [.int .u8 k, .int .u64 (f.set : Int), .string (str f.body)] rfl rfl HC1.out ?c2 (by unfold maxLen; omega) (by omega) (by omega) ?_
  case c2 =>
   intro u hu
   simp at hu
   rcases hu with rfl | rfl | rfl <;> rfl
  intro v' w' hown' hg hloc
  obtain ⟨ht', hm', hc'⟩ := HAFT.out v' w' hg
  refine hK.out _ _ ?_ (fun hHeld => ?_)
  focus exact hc'
  clear hK K
  try simp only [Act.put, sA, sB, sC]
  refine Ah (i := 10) (by kernel_rfl) (fun K o ho hK => ?_)
  simp only [gA, gB, gC, gE] at ho
  subst ho
  rw [if_pos (by rfl)]
  refine GW _ (.tmp 4) (.tmp 6) (.tmp 13) 174 rfl 5 180 Tryz.lawByte Tryz.underlying174 M n D rfl hm' (by unfold maxLen; omega) _ v' _ rfl rfl HKEY.out ?_
  intro w'' hm'' ht''
  refine hK.out _ _ ?_ (fun hHeld => ?_)
  focus exact HFIN.out v' w' w'' hc' ht''
  clear hK K
  try simp only [Act.put, sA, sB, sC]
  refine wpAnyH_done (by kernel_rfl) ?_ _
  go_wp2_with fail
  go_end0
  exact ⟨v', rfl, hm'', by rw [HSN.out]; exact HROW.out v' w' w'' hown' hloc ht'', (ht'.mono (by simp +contextual)).trans (ht''.mono (by simp +contextual)), hloc.imp id (fun h => ⟨_, h, by omega⟩)⟩
def SU : Value := .slice none 0 0
def Pile (w : World) (M base : Nat) (l : List FoundL) : Prop := ∃ (n : Nat) (D : DataW Value) (V : UInt8 → Value), n ≤ l.length ∧ w.ownsMap Tryz.prog 5 CK M n D ∧
 (∀ k, (atM D (.int .u8 (k.toNat : Int))).getD SU = V k ∧ w.ownsRow base 181 3 (V k) (l.filter (·.kind == k)).length (A8 (l.filter (·.kind == k)))) ∧
 (∀ k k' j, k ≠ k' → (V k).ownBlock = some j → (V k').ownBlock ≠ some j)
theorem Sg {k k' : UInt8} (h : k ≠ k') : Lit.int .u8 (k.toNat : Int) ≠ Lit.int .u8 (k'.toNat : Int) := fun e => by
 simp only [Lit.int.injEq, true_and] at e
 exact h (UInt8.toNat_inj.1 (by exact_mod_cast e))
theorem Pi (k : UInt8) : WideAt.IsKeyLit (Lit.int .u8 (k.toNat : Int)) := by trivial
theorem Pile.lt {w : World} {M base : Nat} {l : List FoundL} (h : Pile w M base l) : M < w.heap.size := by
 obtain ⟨n, D, V, _, h1, _⟩ := h
 exact h1.lt
theorem Pile.touch {w w' : World} {M base : Nat} {l : List FoundL} (h : Pile w M base l) {L : List Nat} (ht : Touch L w w') (hL : ∀ x ∈ L, x < base ∧ x ≠ M) : Pile w' M base l := by
 obtain ⟨n, D, V, hn, h1, h2, h3⟩ := h
 have hblk : w'.heap[M]? = w.heap[M]? := ht.block M h1.lt (fun e => (hL M e).2 rfl)
 refine ⟨n, D, V, hn, ?_, fun k => ⟨(h2 k).1, Ac (h2 k).2 ht (fun x hx => (hL x hx).1)⟩, h3⟩
 obtain ⟨es, clock, hb, F, hs, hD⟩ := h1
 exact ⟨es, clock, hblk.trans hb, F, hs, hD⟩
theorem Pile.later {w w' : World} {M base : Nat} {l : List FoundL} (h : Pile w M base l) (hb : Below w.heap.size w w') : Pile w' M base l := h.touch (Touch.of_below hb []) (by simp)
theorem Rn (M base : Nat) (l : List FoundL) (f : FoundL) (w : World) (hl : l.length < 1000000000) (hb : base ≤ w.heap.size) (hMb : M < base) (hp : Pile w M base l) :
  Calls Tryz.prog 109 #[.map (some M), CC f.kind.toNat f.set f.body] w fun e w' => e = .returned (.tuple #[]) ∧ Pile w' M base (l ++ [f]) ∧ Below M w w' := by
 obtain ⟨n, D, V, hn, h1, h2, h3⟩ := hp
 have hlf : (l.filter (·.kind == f.kind)).length ≤ l.length := List.length_filter_le _ _
 refine (Rl M n D base (l.filter (·.kind == f.kind)) (V f.kind) f w (by omega) (by omega) h1 hb hMb (h2 f.kind).1 (h2 f.kind).2).mono ?_
 rintro e w' ⟨v', rfl, hm', ho', ht', hloc⟩
 have hvb : ∀ k j, (V k).ownBlock = some j → base ≤ j ∧ j < w.heap.size := fun k j hj => (h2 k).2.lt j hj
 refine ⟨rfl, ⟨n + 1, _, fun k => if k = f.kind then v' else V k, by simp; omega, hm', fun k => ?_, ?_⟩, ht'.below (by omega) (fun x hx => ?_)⟩
 ·by_cases hk : k = f.kind
  ·subst hk
   simp only [if_pos]
   rw [Ej h1.isMap (Pi _)]
   refine ⟨rfl, ?_⟩
   rw [List.filter_append, List.filter_cons]
   simp only [beq_self_eq_true, if_pos, List.filter_nil, List.length_append, List.length_cons, List.length_nil]
   exact ho'
  ·simp only [if_neg hk]
   rw [Dg _ (Sg hk)]
   refine ⟨(h2 k).1, ?_⟩
   rw [List.filter_append, List.filter_cons, beq_eq_false_iff_ne.2 (Ne.symm hk)]
   simp only [Bool.false_eq_true, if_false, List.filter_nil, List.append_nil]
   refine AQ (h2 k).2 ht' (fun j hj hm => ?_)
   rw [List.mem_cons, blkL_mem] at hm
   rcases hm with e | e
   ·have := hvb k j hj
    omega
   ·exact h3 k f.kind j hk hj e
 ·intro k k' j hne hj hj'
  by_cases hk : k = f.kind
  ·subst hk
   simp only [if_pos, if_neg (Ne.symm hne)] at hj hj'
   rcases hloc with e | ⟨i, e, hi⟩
   ·rw [hj] at e
    exact h3 f.kind k' j hne e.symm hj'
   ·rw [hj] at e
    cases e
    have := hvb k' j hj'
    omega
  ·simp only [if_neg hk] at hj
   by_cases hk' : k' = f.kind
   ·subst hk'
    simp only [if_pos] at hj'
    rcases hloc with e | ⟨i, e, hi⟩
    ·rw [hj'] at e
     exact h3 k f.kind j hne hj e.symm
    ·rw [hj'] at e
     cases e
     have := hvb k j hj
     omega
   ·simp only [if_neg hk'] at hj'
    exact h3 k k' j hne hj hj'
 ·rw [List.mem_cons, blkL_mem] at hx
  rcases hx with e | e
  ·omega
  ·have := hvb f.kind x e
   omega
end Go.Proofs.YtonjphollmdicaaGreatDoor
namespace Go.Proofs.YtonjphollmdicaaGreatDoor
open Go.ChangeShapes Go.WideShapes Go.ChangeAt Go.RowKit
def Bb (kn : Bool) (h sz : Nat) (fl : Value) (F E : Nat) : List Value := [.bool kn, .int .u64 (h : Int), .int .i64 (sz : Int), fl, .map (some F), .map (some E)]
theorem Gv (B : Nat) (kn : Bool) (h sz : Nat) (av : Option Addr) (ln cp F E : Nat) (f : FoundL) (hf : f.body.length ≤ 1000000) (w : World) (hB : Blk w B (Bb kn h sz (.slice av ln cp) F E)) :
  Calls Tryz.prog 185 #[.pointer (some ⟨B, 0, none⟩), CC f.kind.toNat f.set f.body] w fun e w' => e = .returned (.tuple #[]) ∧
   if kn = false ∧ Cs f = true then ∃ v, Blk w' B (Bb true f.set (Al f.body) v F E) ∧ w'.ownsRow w.heap.size 63 1 v (Ax f.body).length (Cz (Ax f.body)) ∧ Touch [B] w w' else Below w.heap.size w w' := by
 have hBlt : B < w.heap.size := hB.lt (by simp [Bb])
 have hR := Aa (fun W => Kd f.body hf W)
 have hH := Aa (fun W => FR f.body hf W)
 have him : Cs f = (Cn f.body && (AC f.body == f.set)) := rfl
 have HIM := Aa him
 unfold CC
 have HB := Aa hB
 clear him hB
 obtain ⟨R, hRe⟩ : ∃ x, x = Cn f.body := ⟨_, rfl⟩
 obtain ⟨ms, hms⟩ : ∃ x, x = Al f.body := ⟨_, rfl⟩
 obtain ⟨mf, hmf⟩ : ∃ x, x = Ax f.body := ⟨_, rfl⟩
 obtain ⟨hv, hhv⟩ : ∃ x, x = AC f.body := ⟨_, rfl⟩
 rw [← hRe] at hR HIM
 rw [← hms] at hR ⊢
 rw [← hmf] at hR ⊢
 rw [← hhv] at hH HIM
 clear hRe hms hmf hhv hf
 obtain ⟨Q0, hQ0⟩ : ∃ Q : World → Prop, Q = (fun w' => if kn = false ∧ Cs f = true then ∃ v, Blk w' B (Bb true f.set ms v F E) ∧ w'.ownsRow w.heap.size 63 1 v mf.length (Cz mf) ∧ Touch [B] w w' else Below w.heap.size w w') := ⟨_, rfl⟩
 have hQno : (kn = true ∨ Cs f = false) → ∀ w', Below w.heap.size w w' → Q0 w' := by
  intro hc w' hw'
  rw [hQ0]
  simp only
  rw [if_neg]
  ·exact hw'
  ·rintro ⟨h1, h2⟩
   rcases hc with h3 | h3
   ·rw [h1] at h3; cases h3
   ·rw [h2] at h3; cases h3
 have hQyes : (kn = false ∧ Cs f = true) → ∀ w' v, Blk w' B (Bb true f.set ms v F E) → w'.ownsRow w.heap.size 63 1 v mf.length (Cz mf) → Touch [B] w w' → Q0 w' := by
  intro hc w' v h1 h2 h3
  rw [hQ0]
  simp only
  rw [if_pos hc]
  exact ⟨v, h1, h2, h3⟩
 have HNO := Aa hQno
 have HYES := Aa hQyes
 have hpost : ∀ (e : Ending) (w' : World), (e = .returned (.tuple #[]) ∧ Q0 w') → (e = .returned (.tuple #[]) ∧ if kn = false ∧ Cs f = true then ∃ v, Blk w' B (Bb true f.set ms v F E) ∧ w'.ownsRow w.heap.size 63 1 v mf.length (Cz mf) ∧ Touch [B] w w' else Below w.heap.size w w') := by
  intro e w' hh
  rw [hQ0] at hh
  exact hh
 refine Calls.mono ?_ hpost
 clear hQ0 hQno hQyes hpost
 go_enter Tryz.func185, Tryz.ntmps185
 go_wp2_with fail
 refine (hR.out _).mono ?_
 rintro e w1 ⟨v, rfl, hown, hb1⟩
 obtain ⟨va, vc, rfl, -⟩ := Aw hown
 have hs1 : w.heap.size + 1 ≤ w1.heap.size := by have := hb1.size; simpa using this
 have hbw : Below w.heap.size w (w1.alloc (Obj.cells #[Value.int IntKind.i64 (ms : Int), Value.slice va mf.length vc] 128)) := Below.alloc (Below.trans ((Below.refl w.heap.size w).alloc (Nat.le_refl _) _) (hb1.mono (by simp))) (by omega) _
 have kf := ((Blk.new w #[Value.int IntKind.u8 (f.kind.toNat : Int), Value.int IntKind.u64 (f.set : Int), Value.string (str f.body)] 181).touch (Touch.of_below hb1 []) (by simp)).alloc (Obj.cells #[Value.int IntKind.i64 (ms : Int), Value.slice va mf.length vc] 128)
 have km := Blk.new w1 #[Value.int IntKind.i64 (ms : Int), Value.slice va mf.length vc] 128
 have kb := HB.out.touch (Touch.of_below hbw []) (by simp)
 have ho1 : (w1.alloc (Obj.cells #[Value.int IntKind.i64 (ms : Int), Value.slice va mf.length vc] 128)).ownsRow w.heap.size 63 1 (.slice va mf.length vc) mf.length (Cz mf) := (Ad (by simp) hown).alloc _
 go_wp2_with fail
 obtain ⟨g, hg⟩ : ∃ g, g = w1.heap.size := ⟨_, rfl⟩
 obtain ⟨W, hW⟩ : ∃ W, W = w1.alloc (Obj.cells #[Value.int IntKind.i64 (ms : Int), Value.slice va mf.length vc] 128) := ⟨_, rfl⟩
 rw [← hg] at km hs1 ⊢
 rw [← hW] at hbw kf km kb ho1 ⊢
 have f1 := (kf 1 _ rfl).1
 have f2 := (kf 2 _ rfl).1
 have m0 := (km 0 _ rfl).1
 have m1 := (km 1 _ rfl).1
 have b0 := (kb 0 _ rfl).1
 have b1 := (kb 1 _ rfl).1
 have b2 := (kb 2 _ rfl).1
 have b3 := (kb 3 _ rfl).1
 have z0 := (kb 0 _ rfl).2
 have z1 := (kb 1 _ rfl).2
 have z2 := (kb 2 _ rfl).2
 have z3 := (kb 3 _ rfl).2
 have HBW := Aa hbw
 have HKB := Aa kb
 have HO1 := Aa ho1
 clear hbw kf km kb ho1 hown hb1 hW hg HB hR
 cases kn with
 | true =>
  clear HYES
  go_quiet (fail)
  go_wp2_with fail
  refine bodyPost_ret (v := .tuple #[]) (by simp [results, Tryz.results185, go_sem]) rfl ?_
  exact ⟨rfl, HNO.out (.inl (by simp)) _ (BJ HBW.out _)⟩
 | false =>
  cases R with
  | false =>
   have HM : Hid (Cs f = false) := Aa (by rw [HIM.out]; rfl)
   clear HYES HIM
   go_quiet (fail)
   go_wp2_with fail
   refine bodyPost_ret (v := .tuple #[]) (by simp [results, Tryz.results185, go_sem]) rfl ?_
   exact ⟨rfl, HNO.out (.inr HM.out) _ (BJ HBW.out _)⟩
  | true =>
   by_cases c : hv = f.set
   ·have e1 : ((hv : Int) != (f.set : Int)) = false := by simp [c]
    have e2 : ((hv : Int) == (f.set : Int)) = true := by simp [c]
    have HM : Hid (Cs f = true) := Aa (by rw [HIM.out, c]; simp)
    clear HNO c HIM
    go_quiet (refine Calls.quiet_of_same (hH.out _))
    go_wp2_with fail
    obtain ⟨X, hX⟩ : ∃ X, X = W.drewN nq := ⟨_, rfl⟩
    have hBX : Below w.heap.size w X := by rw [hX]; exact BJ HBW.out _
    have hWX : Touch [] W X := by rw [hX]; exact ⟨rfl, rfl, rfl, Nat.le_refl _, fun _ _ _ => rfl⟩
    rw [← hX]
    clear hX f2 b0 b1 b2 b3 z0 z1 z2 z3
    have kb := HKB.out.touch hWX (by simp)
    have b0 := (kb 0 _ rfl).1
    have b1 := (kb 1 _ rfl).1
    have b2 := (kb 2 _ rfl).1
    have b3 := (kb 3 _ rfl).1
    have z0 := (kb 0 _ rfl).2
    have z1 := (kb 1 _ rfl).2
    have z2 := (kb 2 _ rfl).2
    have z3 := (kb 3 _ rfl).2
    have hlg : w.heap.size < W.heap.size ∧ g < W.heap.size := ⟨World.block_lt_of_cell? W _ f1, World.block_lt_of_cell? W _ m0⟩
    have hSt : ∀ Y : World, Touch [B] W Y → Y.cell? ⟨w.heap.size, 1, none⟩ = some (.int .u64 (f.set : Int)) ∧ Y.cell? ⟨g, 0, none⟩ = some (.int .i64 (ms : Int)) ∧ Y.cell? ⟨g, 1, none⟩ = some (.slice va mf.length vc) := fun Y ht =>
     ⟨by rw [ht.cell (x := ⟨w.heap.size, 1, none⟩) hlg.1 (by simp; omega)]; exact f1, by rw [ht.cell (x := ⟨g, 0, none⟩) hlg.2 (by simp; omega)]; exact m0, by rw [ht.cell (x := ⟨g, 1, none⟩) hlg.2 (by simp; omega)]; exact m1⟩
    have T0 : Touch [B] W X := hWX.mono (by simp)
    have ho := Ac HO1.out hWX (by simp)
    have hfin : ∀ Y : World, Y = ((((X.setCell ⟨B, 0, none⟩ (.bool true)).setCell ⟨B, 1, none⟩ (.int .u64 (f.set : Int))).setCell ⟨B, 2, none⟩ (.int .i64 (ms : Int))).setCell ⟨B, 3, none⟩ (.slice va mf.length vc)).drew → Q0 Y := by
     rintro Y rfl
     have hk := ((((kb.set 0 (.bool true)).set 1 (.int .u64 (f.set : Int))).set 2 (.int .i64 (ms : Int))).set 3 (.slice va mf.length vc)).drew
     have ht := (((((Touch.refl [B] X).setCell (x := ⟨B, 0, none⟩) (.inl (by simp)) (.bool true)).setCell (x := ⟨B, 1, none⟩) (.inl (by simp)) (.int .u64 (f.set : Int))).setCell (x := ⟨B, 2, none⟩) (.inl (by simp)) (.int .i64 (ms : Int))).setCell (x := ⟨B, 3, none⟩) (.inl (by simp)) (.slice va mf.length vc)).drew
     simp only [Bb, List.set_cons_succ, List.set_cons_zero] at hk
     refine HYES.out ⟨by simp, HM.out⟩ _ (.slice va mf.length vc) hk (Ac ho ht (by simpa using hBlt)) ?_
     exact (Touch.of_below hBX [B]).trans ht
    have HST := Aa hSt
    have HFIN := Aa hfin
    clear hSt hfin kb ho hBX HO1 HKB HBW HYES
    refine wp_region_held_drew (S := fun Y => Y.cell? ⟨w.heap.size, 1, none⟩ = some (.int .u64 (f.set : Int)) ∧ Y.cell? ⟨g, 0, none⟩ = some (.int .i64 (ms : Int)) ∧ Y.cell? ⟨g, 1, none⟩ = some (.slice va mf.length vc)) (by kernel_rfl) (HST.out _ T0.drew) (fun hHeld => ?_)
    refine tY 0 28 ?_
    refine tY 1 29 ?_
    refine tY 2 30 ?_
    refine tY 3 31 ?_
    refine tY 4 32 ?_
    refine tY 5 33 ?_
    refine tY 6 34 ?_
    refine tY 7 35 ?_
    refine Ah (i := 8) (by kernel_rfl) (fun K o ho hK => ?_)
    simp only [gA, gB, gC, gE] at ho
    subst ho
    go_simp
    refine hK.out _ _ ?_ (fun hHeld => ?_)
    focus exact HST.out _ (T0.setCell (.inl (by simp)) _).drew
    clear hK K
    try simp only [Act.put, sA, sB, sC]
    refine tY 9 36 ?_
    refine tY 10 37 ?_
    refine Ah (i := 11) (by kernel_rfl) (fun K o ho hK => ?_)
    simp only [gA, gB, gC, gE] at ho
    subst ho
    go_simp
    refine hK.out _ _ ?_ (fun hHeld => ?_)
    focus exact HST.out _ ((T0.setCell (.inl (by simp)) _).setCell (.inl (by simp)) _).drew
    clear hK K
    try simp only [Act.put, sA, sB, sC]
    refine tY 12 38 ?_
    refine tY 13 39 ?_
    refine Ah (i := 14) (by kernel_rfl) (fun K o ho hK => ?_)
    simp only [gA, gB, gC, gE] at ho
    subst ho
    go_simp
    refine hK.out _ _ ?_ (fun hHeld => ?_)
    focus exact HST.out _ ((((T0.setCell (.inl (by simp)) _).setCell (.inl (by simp)) _).setCell (.inl (by simp)) _).setCell (.inl (by simp)) _).drew
    clear hK K
    try simp only [Act.put, sA, sB, sC]
    refine wpAnyH_done (by kernel_rfl) ?_ _
    go_wp2_with fail
    go_end0
    exact ⟨rfl, HFIN.out _ rfl⟩
   ·have e1 : ((hv : Int) != (f.set : Int)) = true := by simp; omega
    have e2 : ((hv : Int) == (f.set : Int)) = false := by simp; omega
    have HM : Hid (Cs f = false) := Aa (by rw [HIM.out, beq_eq_false_iff_ne.2 c]; rfl)
    clear HYES c HIM
    go_quiet (refine Calls.quiet_of_same (hH.out _))
    go_wp2_with fail
    refine bodyPost_ret (v := .tuple #[]) (by simp [results, Tryz.results185, go_sem]) rfl ?_
    exact ⟨rfl, HNO.out (.inr HM.out) _ (BJ HBW.out _)⟩
open Go.Maps
theorem LD (B : Nat) (kn : Bool) (h sz : Nat) (fl : Value) (F E : Nat) (f : FoundL) (w : World) (hB : Blk w B (Bb kn h sz fl F E)) :
  Calls Tryz.prog 189 #[.pointer (some ⟨B, 0, none⟩), CC f.kind.toNat f.set f.body] w fun e w' => e = .returned (.bool (kn && decide (f.set = h))) ∧ Below w.heap.size w w' := by
 have hBlt : B < w.heap.size := hB.lt (by simp [Bb])
 unfold CC
 have kb := hB.alloc (Obj.cells #[Value.int IntKind.u8 (f.kind.toNat : Int), Value.int IntKind.u64 (f.set : Int), Value.string (str f.body)] 181)
 have b0 := (kb 0 _ rfl).1
 have b1 := (kb 1 _ rfl).1
 go_enter Tryz.func189, Tryz.ntmps189
 go_wp2_with fail
 cases kn with
 | false =>
  go_quiet (fail)
  go_wp2_with fail
  go_ret
  exact ⟨rfl, BJ ((Below.refl _ _).alloc (Nat.le_refl _) _) _⟩
 | true =>
  by_cases c : f.set = h
  ·have e1 : ((f.set : Int) == (h : Int)) = true := by simp [c]
   have hR : decide (f.set = h) = true := decide_eq_true c
   have HR := Aa hR
   clear c hR
   go_quiet (fail)
   go_wp2_with fail
   go_ret
   exact ⟨by rw [HR.out]; rfl, BJ ((Below.refl _ _).alloc (Nat.le_refl _) _) _⟩
  ·have e1 : ((f.set : Int) == (h : Int)) = false := by simp; omega
   have hR : decide (f.set = h) = false := decide_eq_false c
   have HR := Aa hR
   clear c hR
   go_quiet (fail)
   go_wp2_with fail
   go_ret
   exact ⟨by rw [HR.out]; rfl, BJ ((Below.refl _ _).alloc (Nat.le_refl _) _) _⟩
theorem Tryz.lawInt : Keyed Tryz.prog 3 := int_keyed Tryz.underlying3
theorem Tryz.zeroFI (w : World) : (zeroValue 143).run Tryz.prog w = .ok (.agg #[.int .i64 0, .string ⟨#[]⟩, .int .i64 0, .int .u64 0, .slice none 0 0]) w := by kernel_rfl
theorem Tryz.zeroEI (w : World) : (zeroValue 192).run Tryz.prog w = .ok (.agg #[.int .i64 0, .string ⟨#[]⟩]) w := by kernel_rfl
def Bo (n : Nat) : Lit := .int .i64 (n : Int)
theorem Di (n : Nat) (h : n < 1000000) : keyOf Tryz.prog 3 (.int .i64 (n : Int)) = some (Bo n) := keyOf_int_mk Tryz.underlying3 (WalkArith.wf_i64 (by omega))
theorem GD {n m : Nat} (h : n ≠ m) : Bo n ≠ Bo m := fun e => by
 unfold Bo at e
 simp only [Lit.int.injEq, true_and] at e
 exact h (by exact_mod_cast e)
theorem JK (n : Nat) : WideAt.IsKeyLit (Bo n) := by trivial
def R9 (v : Value) : Prop := ∃ (y0 : Int) (y1 : ByteArray) (y2 y3 : Int) (ya : Option Addr) (yl yc : Nat), v = .agg #[.int .i64 y0, .string y1, .int .i64 y2, .int .u64 y3, .slice ya yl yc]
def Sr (v : Value) : Prop := ∃ (y0 : Int) (y1 : ByteArray), v = .agg #[.int .i64 y0, .string y1]
theorem Fs (F c n : Nat) (D : DataW Value) (x1 : List UInt8) (x0 x2 x3 : Nat) (sl : Option Addr) (ln cp : Nat) (hn : n < 1000000) (hc : c < 1000000) (hsh : ∀ v, atM D (Bo n) = some v → R9 v) (w : World) (hm : w.ownsMap Tryz.prog 3 CK F c D) :
  Calls Tryz.prog 191 #[.map (some F), .int .i64 (n : Int), .agg #[.int .i64 (x0 : Int), .string (str x1), .int .i64 (x2 : Int), .int .u64 (x3 : Int), .slice sl ln cp]] w fun e w' => e = .returned (.tuple #[]) ∧
   if (atM D (Bo n)).isSome = true then Below w.heap.size w w' else w'.ownsMap Tryz.prog 3 CK F (c + 1) (D.put (Bo n) (.held (.agg #[.int .i64 (x0 : Int), .string (str x1), .int .i64 (x2 : Int), .int .u64 (x3 : Int), .slice sl ln cp]))) ∧ Touch [F] w w' := by
 have hkey := Di n hn
 have hm1 := hm.alloc (Obj.cells #[.int .i64 (x0 : Int), .string (str x1), .int .i64 (x2 : Int), .int .u64 (x3 : Int), .slice sl ln cp] 143)
 have hlk := EN hm1 Tryz.lawInt Tryz.underlying129 (Tryz.zeroFI _) hkey
 have HM1 := Aa hm1
 have HKEY := Aa hkey
 clear hm hm1 hkey
 obtain ⟨x, hx⟩ : ∃ x, x = (atM D (Bo n)).getD (.agg #[.int .i64 0, .string ⟨#[]⟩, .int .i64 0, .int .u64 0, .slice none 0 0]) := ⟨_, rfl⟩
 rw [← hx] at hlk
 have hxi : R9 x := by
  rw [hx]
  cases ha : atM D (Bo n) with
  | none => exact ⟨0, ⟨#[]⟩, 0, 0, none, 0, 0, rfl⟩
  | some v => exact hsh v ha
 clear hx hsh
 obtain ⟨y0, y1, y2, y3, ya, yl, yc, rfl⟩ := hxi
 cases hs : (atM D (Bo n)).isSome with
 | true =>
  rw [hs] at hlk
  simp only [if_pos]
  go_enter Tryz.func191, Tryz.ntmps191
  go_wp2_with fail
  go_end0
  exact ⟨rfl, ((Below.refl _ _).alloc (Nat.le_refl _) _).alloc (by simp) _⟩
 | false =>
  rw [hs] at hlk
  simp only [Bool.false_eq_true, if_false]
  go_enter Tryz.func191, Tryz.ntmps191
  go_wp2_with (at_mapUpdate; refine Dy _ rfl _ _ _ 129 rfl 3 143 Tryz.lawInt Tryz.underlying129 F c D rfl (HM1.out.alloc _) (by unfold maxLen; omega) _ _ _ rfl rfl HKEY.out ?_)
  intro w' hm' ht'
  go_wp2_with fail
  go_end0
  exact ⟨rfl, hm', (((Touch.refl [F] _).alloc _).alloc _).trans ht'⟩
theorem Fx (F c n : Nat) (D : DataW Value) (x1 : List UInt8) (x0 : Nat) (hn : n < 1000000) (hc : c < 1000000) (hsh : ∀ v, atM D (Bo n) = some v → Sr v) (w : World) (hm : w.ownsMap Tryz.prog 3 CK F c D) :
  Calls Tryz.prog 193 #[.map (some F), .int .i64 (n : Int), .agg #[.int .i64 (x0 : Int), .string (str x1)]] w fun e w' => e = .returned (.tuple #[]) ∧
   if (atM D (Bo n)).isSome = true then Below w.heap.size w w' else w'.ownsMap Tryz.prog 3 CK F (c + 1) (D.put (Bo n) (.held (.agg #[.int .i64 (x0 : Int), .string (str x1)]))) ∧ Touch [F] w w' := by
 have hkey := Di n hn
 have hm1 := hm.alloc (Obj.cells #[.int .i64 (x0 : Int), .string (str x1)] 192)
 have hlk := EN hm1 Tryz.lawInt Tryz.underlying130 (Tryz.zeroEI _) hkey
 have HM1 := Aa hm1
 have HKEY := Aa hkey
 clear hm hm1 hkey
 obtain ⟨x, hx⟩ : ∃ x, x = (atM D (Bo n)).getD (.agg #[.int .i64 0, .string ⟨#[]⟩]) := ⟨_, rfl⟩
 rw [← hx] at hlk
 have hxi : Sr x := by
  rw [hx]
  cases ha : atM D (Bo n) with
  | none => exact ⟨0, ⟨#[]⟩, rfl⟩
  | some v => exact hsh v ha
 clear hx hsh
 obtain ⟨y0, y1, rfl⟩ := hxi
 cases hs : (atM D (Bo n)).isSome with
 | true =>
  rw [hs] at hlk
  simp only [if_pos]
  go_enter Tryz.func193, Tryz.ntmps193
  go_wp2_with fail
  go_end0
  exact ⟨rfl, ((Below.refl _ _).alloc (Nat.le_refl _) _).alloc (by simp) _⟩
 | false =>
  rw [hs] at hlk
  simp only [Bool.false_eq_true, if_false]
  go_enter Tryz.func193, Tryz.ntmps193
  go_wp2_with (at_mapUpdate; refine Dy _ rfl _ _ _ 130 rfl 3 192 Tryz.lawInt Tryz.underlying130 F c D rfl (HM1.out.alloc _) (by unfold maxLen; omega) _ _ _ rfl rfl HKEY.out ?_)
  intro w' hm' ht'
  go_wp2_with fail
  go_end0
  exact ⟨rfl, hm', (((Touch.refl [F] _).alloc _).alloc _).trans ht'⟩
end Go.Proofs.YtonjphollmdicaaGreatDoor
