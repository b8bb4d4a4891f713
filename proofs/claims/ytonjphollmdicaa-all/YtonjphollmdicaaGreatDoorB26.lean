import Derived.Test.YtonjphollmdicaaGreatDoorB25
import Derived.Shelf.Sort.Plain
import Derived.Shelf.Slices.In.SortNone
import Derived.Test.YtonjphollmdicaaGreatDoorProg
import Derived.Sort.OwnSortedInts
set_option maxRecDepth 100000
set_option maxHeartbeats 4000000
set_option linter.unusedSimpArgs false
namespace Go.Proofs.YtonjphollmdicaaGreatDoor
open Go.ChangeShapes Go.WideShapes Go.ChangeAt Go.RowKit
open Go.Maps
theorem Blk.later {w w' : World} {B N : Nat} {vs : List Value} (h : Blk w B vs) (hb : Below N w w') (hN : B < N) : Blk w' B vs := fun k u hk => by
 have h1 := h k u hk
 exact ⟨by rw [hb.cell hN]; exact h1.1, by rw [World.frozen?_of_block (w := w) (hb.block _ hN)]; exact h1.2⟩
def Qn (l : List FoundL) (w : World) (e : Ending) (w' : World) : Prop := ∃ (h sz F E base : Nat) (fl : Value), w.heap.size ≤ base ∧ base ≤ w'.heap.size ∧ Below w.heap.size w w' ∧
 e = .returned (.tuple #[.agg #[.bool (AV l).isSome, .int .u64 (h : Int), .int .i64 (sz : Int), fl, .map (some F), .map (some E)], .bool (AV l).isSome]) ∧
 FSt w' F base (AV l) (l.filter (·.kind == 70)) ∧ ESt w' E (AV l) (l.filter (·.kind == 82)) ∧ w.heap.size ≤ F ∧ w.heap.size ≤ E ∧ F < base ∧ E < base ∧ F ≠ E ∧ (∃ a n c, fl = .slice a n c) ∧
 (∀ f, AV l = some f → h = f.set ∧ sz = Al f.body ∧ w'.ownsRow base 63 1 fl (Ax f.body).length (Cz (Ax f.body)))
theorem Qu (vs : List (List UInt8)) (a : Option Addr) (cap : Nat) (hn : vs.length ≤ 40) (hv : ∀ v ∈ vs, v.length ≤ 4000) (w : World) (hK : Kinds w) (hrd : Rd w a (AM vs)) :
  Calls Tryz.prog 76 #[.slice a vs.length cap] w fun e w' => Qn (At vs) w e w' := by
 have HRD := Aa hrd
 have HV := Aa hv
 have HK := Aa hK
 have h0 := hK.lt
 clear hrd hK
 have hbod0 := Js vs 4000 hv
 have hlen0 : (At vs).length ≤ 160000 := by
  have hlen := Gh vs 4000 hv
  have h8 := Nat.mul_le_mul_right 4000 hn
  omega
 obtain ⟨l, hl⟩ : ∃ l, l = At vs := ⟨_, rfl⟩
 rw [← hl] at hbod0 hlen0 ⊢
 have HL := Aa hl
 have HBOD := Aa hbod0
 clear hl hbod0 hv
 have hmm := @run_makeMap Tryz.prog
 go_enter Tryz.func76, Tryz.ntmps76
 go_wp2_with fail
 obtain ⟨W0, hW0⟩ : ∃ W, W = (w.alloc (Obj.cells #[Value.bool false, Value.int IntKind.u64 0, Value.int IntKind.i64 0, Value.slice none 0 0, Value.map none, Value.map none] 132)).alloc (Obj.map #[] 0) := ⟨_, rfl⟩
 have hs0 : W0.heap.size = w.heap.size + 2 := by rw [hW0]; simp
 have hb0 : Below w.heap.size w W0 := by rw [hW0]; exact ((Below.refl _ _).alloc (Nat.le_refl _) _).alloc (by simp) _
 have kq0 : Blk W0 w.heap.size [.bool false, .int .u64 0, .int .i64 0, .slice none 0 0, .map none, .map none] := by rw [hW0]; exact (Blk.new w #[.bool false, .int .u64 0, .int .i64 0, .slice none 0 0, .map none, .map none] 132).alloc _
 have hp0 : Pile W0 (w.heap.size + 1) (w.heap.size + 2) [] := by
  have hm := World.ownsMap_made (H := Value) (w.alloc (Obj.cells #[Value.bool false, Value.int IntKind.u64 0, Value.int IntKind.i64 0, Value.slice none 0 0, Value.map none, Value.map none] 132)) Tryz.prog 5 CK
  have e1 : (w.alloc (Obj.cells #[Value.bool false, Value.int IntKind.u64 0, Value.int IntKind.i64 0, Value.slice none 0 0, Value.map none, Value.map none] 132)).heap.size = w.heap.size + 1 := by simp
  rw [e1] at hm
  refine ⟨0, .map [], fun _ => .slice none 0 0, Nat.le_refl _, by rw [hW0]; exact hm, fun k => ⟨by rw [EE]; rfl, ?_⟩, fun _ _ _ _ h => by simp [Value.ownBlock] at h⟩
  exact World.ownsRow_nil _ _ _ _
 rw [← hW0]
 have HP0 := Aa hp0
 have HB0 := Aa hb0
 have HQ0 := Aa kq0
 have HKW : Hid (∀ W, Below (w.heap.size + 1) W0 W → Kinds W) := Aa (fun W hW => (HK.out.later hb0 h0).later hW (by omega))
 clear hp0 hb0 kq0 hW0
 go_loopw [15] (fun i W => ∃ k : Nat, k ≤ vs.length ∧ i = .int .i64 (k : Int) ∧ Pile W (w.heap.size + 1) (w.heap.size + 2) (At (vs.take k)) ∧ Below (w.heap.size + 1) W0 W)
  (fun i _ => vs.length - (intOf i).toNat)
 case atStart => exact ⟨0, by omega, rfl, HP0.out, Below.refl _ _⟩
 case round =>
  obtain ⟨k, hk, rfl, hpr, hbl⟩ := hrel
  have hsz := hbl.size
  by_cases hlt : k < vs.length
  ·have hvl := HV.out vs[k] (List.getElem_mem hlt)
   have hsn := JF vs k hlt
   have hll := Gh (vs.take k) 4000 (fun v hv => HV.out v (List.mem_of_mem_take hv))
   rw [List.length_take] at hll
   have hll2 : (At (vs.take k)).length ≤ 160000 := by have h8 := Nat.mul_le_mul_right 4000 (show min k vs.length ≤ 40 from by omega); omega
   obtain ⟨bb, off, rfl, hc0⟩ := HRD.out k (.string (str vs[k])) (by simp [AM, hlt])
   have hc : wr.cell? ⟨bb, off + k, none⟩ = some (.string (str vs[k])) := by
    have hlb := World.block_lt_of_cell? w _ hc0
    rw [hbl.cell (show bb < w.heap.size + 1 from by simp at hlb; omega), HB0.out.cell hlb]
    exact hc0
   have hW := Aa (Qm (w.heap.size + 1) (w.heap.size + 2) (At (vs.take k)) vs[k] wr (by omega) (by omega) (by omega) (by omega) (by omega) (HKW.out wr hbl) hpr)
   rw [← hsn] at hW
   have HB := Aa hbl
   obtain ⟨x, hx⟩ : ∃ x, x = vs[k] := ⟨_, rfl⟩
   rw [← hx] at hc hW
   clear hpr hbl hsn hll hll2 hc0 hx hvl
   go_wp2_with fail
   refine hW.out.mono ?_
   rintro e w2 ⟨rfl, hp2, hb2⟩
   have P2 := Aa hp2
   have B2 := Aa (HB.out.trans hb2)
   clear hp2 hb2 HB hW
   go_wp2_with fail
   exact ⟨⟨k + 1, by omega, by go_num, P2.out, B2.out⟩, by simp [intOf]; omega⟩
  ·obtain rfl : vs.length = k := by omega
   rw [List.take_length, ← HL.out] at hpr
   have HP := Aa hpr
   have HB := Aa hbl
   clear hpr hbl HP0
   have hk1 : Kinds (((wr.alloc (Obj.map #[] 0)).alloc (Obj.map #[] 0)).alloc (Obj.cells #[Value.bool false, Value.int IntKind.u64 0, Value.int IntKind.i64 0, Value.slice none 0 0, Value.map (some wr.heap.size), Value.map (some (wr.heap.size + 1))] 132)) := (HKW.out wr HB.out).touch ((((Touch.refl [] wr).alloc _).alloc _).alloc _) (by simp)
   have HK1 := Aa hk1
   obtain ⟨c0, c1, c2, c3, c4, c5⟩ := hk1
   have hr1 : RSt (((wr.alloc (Obj.map #[] 0)).alloc (Obj.map #[] 0)).alloc (Obj.cells #[Value.bool false, Value.int IntKind.u64 0, Value.int IntKind.i64 0, Value.slice none 0 0, Value.map (some wr.heap.size), Value.map (some (wr.heap.size + 1))] 132)) (wr.heap.size + 1 + 1) wr.heap.size (wr.heap.size + 1) (wr.heap.size + 3) [] [] [] := by
    have e1 : (wr.alloc (Obj.map #[] 0)).heap.size = wr.heap.size + 1 := by simp
    have e2 : ((wr.alloc (Obj.map #[] 0)).alloc (Obj.map #[] 0)).heap.size = wr.heap.size + 1 + 1 := by simp
    have k1 := Blk.new ((wr.alloc (Obj.map #[] 0)).alloc (Obj.map #[] 0)) #[Value.bool false, Value.int IntKind.u64 0, Value.int IntKind.i64 0, Value.slice none 0 0, Value.map (some wr.heap.size), Value.map (some (wr.heap.size + 1))] 132
    rw [e2] at k1
    have m1 := ((World.ownsMap_made (H := Value) wr Tryz.prog 3 CK).alloc (Obj.map #[] 0)).alloc (Obj.cells #[Value.bool false, Value.int IntKind.u64 0, Value.int IntKind.i64 0, Value.slice none 0 0, Value.map (some wr.heap.size), Value.map (some (wr.heap.size + 1))] 132)
    have m2 := (World.ownsMap_made (H := Value) (wr.alloc (Obj.map #[] 0)) Tryz.prog 3 CK).alloc (Obj.cells #[Value.bool false, Value.int IntKind.u64 0, Value.int IntKind.i64 0, Value.slice none 0 0, Value.map (some wr.heap.size), Value.map (some (wr.heap.size + 1))] 132)
    rw [e1] at m2
    exact ⟨k1, ⟨0, _, Nat.le_refl _, m1, rfl⟩, ⟨0, _, Nat.le_refl _, m2, rfl⟩⟩
   go_wp2_with fail
   obtain ⟨W1, hW1⟩ : ∃ W, W = (((wr.alloc (Obj.map #[] 0)).alloc (Obj.map #[] 0)).alloc (Obj.cells #[Value.bool false, Value.int IntKind.u64 0, Value.int IntKind.i64 0, Value.slice none 0 0, Value.map (some wr.heap.size), Value.map (some (wr.heap.size + 1))] 132)) := ⟨_, rfl⟩
   have hs1 : W1.heap.size = wr.heap.size + 3 := by rw [hW1]; simp
   have tw1 : Touch [] wr W1 := by rw [hW1]; exact (((Touch.refl [] wr).alloc _).alloc _).alloc _
   have hb1 : Below w.heap.size w W1 := HB0.out.trans ((HB.out.mono (by omega)).trans (tw1.below (by omega) (by simp)))
   have kq1 := (HQ0.out.later HB.out (by omega)).touch tw1 (by simp)
   obtain ⟨pn, pD, V, hpn, hpm, hpV, hpd⟩ := HP.out
   have hlookup : ∀ (k : UInt8) (X : World), Touch [wr.heap.size + 2, wr.heap.size, wr.heap.size + 1] W1 X → (Instr.lookup 174 (.map (some (w.heap.size + 1))) (.int .u8 (k.toNat : Int)) false).run Tryz.prog X = .ok (V k) X := fun k X hX => by
    have hmX := Ar (Ar hpm tw1 (by simp)) hX (by simp; omega)
    have := FJ hmX Tryz.lawByte Tryz.underlying174 (Tryz.zeroPackets X) (keyOf_int_mk Tryz.underlying5 (wf8 k))
    rw [show (atM pD (.int .u8 (k.toNat : Int))).getD (.slice none 0 0) = V k from (hpV k).1] at this
    exact this
   have hrows : ∀ (k : UInt8) (X : World), Touch [wr.heap.size + 2, wr.heap.size, wr.heap.size + 1] W1 X → X.ownsRow (w.heap.size + 2) 181 3 (V k) (l.filter (·.kind == k)).length (A8 (l.filter (·.kind == k))) := fun k X hX => by
    refine AQ (Ac (hpV k).2 tw1 (by simp)) hX (fun j hj => ?_)
    have := ((hpV k).2.lt j hj).2
    simp
    omega
   obtain ⟨F, hF⟩ : ∃ F, F = wr.heap.size := ⟨_, rfl⟩
   rw [← hF] at hlookup hrows hs1
   rw [← hW1] at hr1 ⊢
   rw [← hF] at hr1 ⊢
   have HLK := Aa hlookup
   have HROW := Aa hrows
   have HB1 := Aa hb1
   have HQ1 := Aa kq1
   have hFw : w.heap.size + 2 ≤ F := by omega
   have HR1 := Aa hr1
   have ix0 := Lj
   have ix1 := Le
   have ix2 := LV
   unfold Lm at ix0 ix1 ix2
   clear hlookup hrows hb1 kq1 hr1 hpn hpm hpV hpd HP HB HQ0 HB0 HKW HK1 HK hW1 hF hmm c0 c1 c2 c3 c4 c5 tw1 HL HRD HV hs0 hsz
   go_loopw [28] (fun i X => ∃ j : Nat, j ≤ 3 ∧ i = .int .i64 (j : Int) ∧ RSt X (F + 1 + 1) F (F + 1) (F + 3) (if 1 ≤ j then l.filter (·.kind == 77) else []) (if 2 ≤ j then l.filter (·.kind == 70) else []) (if 3 ≤ j then l.filter (·.kind == 82) else []) ∧ Touch [F + 2, F, F + 1] W1 X)
    (fun i _ => 3 - (intOf i).toNat)
   case atStart => exact ⟨0, by omega, rfl, HR1.out, Touch.refl _ _⟩
   case round =>
    obtain ⟨j, hj, rfl, hst, htr⟩ := hrel
    have hj4 : j = 0 ∨ j = 1 ∨ j = 2 ∨ j = 3 := by omega
    rcases hj4 with rfl | rfl | rfl | rfl
    ·have hrow := HROW.out 77 wr htr
     obtain ⟨av, cv, hve, -⟩ := AE hrow
     have hlk := HLK.out 77 (wr.alloc (Obj.cells #[Value.int IntKind.u8 77, Value.func (Fn.func 185) #[] #[]] 178)) (htr.alloc _)
     rw [hve] at hlk
     have HROWS : Hid (∀ X, Touch [F + 2, F, F + 1] W1 X → Rd X av (A8 (l.filter (·.kind == 77)))) := Aa (fun X hX => by
      have h9 := HROW.out 77 X hX
      rw [hve] at h9
      obtain ⟨a9, c9, e9, r9⟩ := AE h9
      cases e9
      exact r9)
     have hlenk : (l.filter (·.kind == 77)).length ≤ 160000 := Nat.le_trans (List.length_filter_le _ _) hlen0
     have HBODK : Hid (∀ f ∈ (l.filter (·.kind == 77)), f.body.length ≤ 1000000) := Aa (fun f hf => Nat.le_trans (HBOD.out f (List.mem_filter.1 hf).1) (by omega))
     have kk := Blk.new wr #[Value.int IntKind.u8 77, Value.func (Fn.func 185) #[] #[]] 178
     have hst1 := hst.touch ((Touch.refl [] wr).alloc (Obj.cells #[Value.int IntKind.u8 77, Value.func (Fn.func 185) #[] #[]] 178)) (by simp)
     simp only [Nat.reduceLeDiff, if_pos, if_neg, Nat.le_refl, ↓reduceIte, Nat.not_succ_le_zero] at hst1
     have HKK := Aa kk
     have HST1 := Aa hst1
     have HTR1 := Aa (htr.alloc (Obj.cells #[Value.int IntKind.u8 77, Value.func (Fn.func 185) #[] #[]] 178))
     have hszr : F + 3 ≤ wr.heap.size := by have := htr.size; omega
     have hnat : ((77 : UInt8).toNat : Int) = 77 := rfl
     rw [hnat] at hlk
     clear htr hst hst1 kk hrow hnat hve
     obtain ⟨L, hL⟩ : ∃ L, L = (l.filter (·.kind == 77)) := ⟨_, rfl⟩
     rw [← hL] at hlk HROWS hlenk HBODK
     have HL := Aa hL
     clear hL
     go_wp2_with fail
     obtain ⟨g, hg⟩ : ∃ g, g = wr.heap.size := ⟨_, rfl⟩
     rw [← hg] at HKK hszr ⊢
     clear hlk hg
     go_loopw [36] (fun i X => ∃ k : Nat, k ≤ L.length ∧ i = .int .i64 (k : Int) ∧ RSt X (F + 1 + 1) F (F + 1) (F + 3) (L.take k) [] [] ∧ Touch [F + 2, F, F + 1] W1 X ∧ Blk X g [.int .u8 77, .func (.func 185) #[] #[]])
      (fun i _ => L.length - (intOf i).toNat)
     case atStart =>
      refine ⟨0, by omega, rfl, ?_, HTR1.out, HKK.out⟩
      have := HST1.out
      simpa using this
     case round =>
      obtain ⟨k, hk, rfl, hst, htr, hkk⟩ := hrel
      by_cases hlt : k < L.length
      ·obtain ⟨bb, off, rfl, d0, d1, d2⟩ := DN (HROWS.out _ htr) k hlt
       have htk := Ap L k hlt
       have hbd := HBODK.out L[k] (List.getElem_mem hlt)
       obtain ⟨f, hf⟩ : ∃ f, f = L[k] := ⟨_, rfl⟩
       rw [← hf] at d0 d1 d2 htk hbd
       have kk1 := (hkk 1 _ rfl).1
       have hgl : g < wr.heap.size := World.block_lt_of_cell? wr _ kk1
       obtain ⟨P, hP⟩ : ∃ P, P = Obj.cells #[Value.int IntKind.u8 (f.kind.toNat : Int), Value.int IntKind.u64 (f.set : Int), Value.string (str f.body)] 181 := ⟨_, rfl⟩
       have hsP := hst.touch ((Touch.refl [] wr).alloc P) (by simp)
       have htP := htr.alloc P
       have hkP := hkk.alloc P
       have hszP : F + 3 ≤ (wr.alloc P).heap.size := by have := htP.size; omega
       have kk1P := (hkP 1 _ rfl).1
       have hCall := Aa (RSt.stepM (f := f) hbd hszP (by omega) (by omega) (by omega) hsP)
       rw [hP] at hCall htP hkP kk1P
       unfold CC at hCall
       have HTP := Aa htP
       have HKP := Aa hkP
       have HTK := Aa htk
       clear hst htr hkk hsP htP hkP hP htk hf kk1
       go_wp2_with fail
       refine hCall.out.mono ?_
       rintro e w2 ⟨rfl, hs2, ht2⟩
       have S2 := Aa hs2
       have T2 := Aa (HTP.out.trans ht2)
       have K2 := Aa (HKP.out.touch ht2 (by simp; omega))
       clear hs2 ht2 HTP HKP hCall
       go_wp2_with fail
       exact ⟨⟨k + 1, by omega, by go_num, by rw [HTK.out]; exact S2.out, T2.out, K2.out⟩, by simp [intOf]; omega⟩
      ·obtain rfl : L.length = k := by omega
       rw [List.take_length, HL.out] at hst
       have S2 := Aa hst
       have T2 := Aa htr
       clear hst htr hkk
       go_wp2_with fail
       exact ⟨⟨1, by omega, rfl, S2.out, T2.out⟩, by simp [intOf]⟩
    ·have hrow := HROW.out 70 wr htr
     obtain ⟨av, cv, hve, -⟩ := AE hrow
     have hlk := HLK.out 70 (wr.alloc (Obj.cells #[Value.int IntKind.u8 70, Value.func (Fn.func 186) #[] #[]] 178)) (htr.alloc _)
     rw [hve] at hlk
     have HROWS : Hid (∀ X, Touch [F + 2, F, F + 1] W1 X → Rd X av (A8 (l.filter (·.kind == 70)))) := Aa (fun X hX => by
      have h9 := HROW.out 70 X hX
      rw [hve] at h9
      obtain ⟨a9, c9, e9, r9⟩ := AE h9
      cases e9
      exact r9)
     have hlenk : (l.filter (·.kind == 70)).length ≤ 160000 := Nat.le_trans (List.length_filter_le _ _) hlen0
     have HBODK : Hid (∀ f ∈ (l.filter (·.kind == 70)), f.body.length ≤ 1000000) := Aa (fun f hf => Nat.le_trans (HBOD.out f (List.mem_filter.1 hf).1) (by omega))
     have kk := Blk.new wr #[Value.int IntKind.u8 70, Value.func (Fn.func 186) #[] #[]] 178
     have hst1 := hst.touch ((Touch.refl [] wr).alloc (Obj.cells #[Value.int IntKind.u8 70, Value.func (Fn.func 186) #[] #[]] 178)) (by simp)
     simp only [Nat.reduceLeDiff, if_pos, if_neg, Nat.le_refl, ↓reduceIte, Nat.not_succ_le_zero] at hst1
     have HKK := Aa kk
     have HST1 := Aa hst1
     have HTR1 := Aa (htr.alloc (Obj.cells #[Value.int IntKind.u8 70, Value.func (Fn.func 186) #[] #[]] 178))
     have hszr : F + 3 ≤ wr.heap.size := by have := htr.size; omega
     have hnat : ((70 : UInt8).toNat : Int) = 70 := rfl
     rw [hnat] at hlk
     clear htr hst hst1 kk hrow hnat hve
     obtain ⟨L, hL⟩ : ∃ L, L = (l.filter (·.kind == 70)) := ⟨_, rfl⟩
     rw [← hL] at hlk HROWS hlenk HBODK
     have HL := Aa hL
     clear hL
     go_wp2_with fail
     obtain ⟨g, hg⟩ : ∃ g, g = wr.heap.size := ⟨_, rfl⟩
     rw [← hg] at HKK hszr ⊢
     clear hlk hg
     go_loopw [36] (fun i X => ∃ k : Nat, k ≤ L.length ∧ i = .int .i64 (k : Int) ∧ RSt X (F + 1 + 1) F (F + 1) (F + 3) (l.filter (·.kind == 77)) (L.take k) [] ∧ Touch [F + 2, F, F + 1] W1 X ∧ Blk X g [.int .u8 70, .func (.func 186) #[] #[]])
      (fun i _ => L.length - (intOf i).toNat)
     case atStart =>
      refine ⟨0, by omega, rfl, ?_, HTR1.out, HKK.out⟩
      have := HST1.out
      simpa using this
     case round =>
      obtain ⟨k, hk, rfl, hst, htr, hkk⟩ := hrel
      by_cases hlt : k < L.length
      ·obtain ⟨bb, off, rfl, d0, d1, d2⟩ := DN (HROWS.out _ htr) k hlt
       have htk := Ap L k hlt
       have hbd := HBODK.out L[k] (List.getElem_mem hlt)
       obtain ⟨f, hf⟩ : ∃ f, f = L[k] := ⟨_, rfl⟩
       rw [← hf] at d0 d1 d2 htk hbd
       have kk1 := (hkk 1 _ rfl).1
       have hgl : g < wr.heap.size := World.block_lt_of_cell? wr _ kk1
       obtain ⟨P, hP⟩ : ∃ P, P = Obj.cells #[Value.int IntKind.u8 (f.kind.toNat : Int), Value.int IntKind.u64 (f.set : Int), Value.string (str f.body)] 181 := ⟨_, rfl⟩
       have hsP := hst.touch ((Touch.refl [] wr).alloc P) (by simp)
       have htP := htr.alloc P
       have hkP := hkk.alloc P
       have hszP : F + 3 ≤ (wr.alloc P).heap.size := by have := htP.size; omega
       have kk1P := (hkP 1 _ rfl).1
       have hCall := Aa (RSt.stepF (f := f) (by rw [List.length_take]; omega) hbd hszP (by omega) (by omega) (by omega) hsP)
       rw [hP] at hCall htP hkP kk1P
       unfold CC at hCall
       have HTP := Aa htP
       have HKP := Aa hkP
       have HTK := Aa htk
       clear hst htr hkk hsP htP hkP hP htk hf kk1
       go_wp2_with fail
       refine hCall.out.mono ?_
       rintro e w2 ⟨rfl, hs2, ht2⟩
       have S2 := Aa hs2
       have T2 := Aa (HTP.out.trans ht2)
       have K2 := Aa (HKP.out.touch ht2 (by simp; omega))
       clear hs2 ht2 HTP HKP hCall
       go_wp2_with fail
       exact ⟨⟨k + 1, by omega, by go_num, by rw [HTK.out]; exact S2.out, T2.out, K2.out⟩, by simp [intOf]; omega⟩
      ·obtain rfl : L.length = k := by omega
       rw [List.take_length, HL.out] at hst
       have S2 := Aa hst
       have T2 := Aa htr
       clear hst htr hkk
       go_wp2_with fail
       exact ⟨⟨2, by omega, rfl, S2.out, T2.out⟩, by simp [intOf]⟩
    ·have hrow := HROW.out 82 wr htr
     obtain ⟨av, cv, hve, -⟩ := AE hrow
     have hlk := HLK.out 82 (wr.alloc (Obj.cells #[Value.int IntKind.u8 82, Value.func (Fn.func 187) #[] #[]] 178)) (htr.alloc _)
     rw [hve] at hlk
     have HROWS : Hid (∀ X, Touch [F + 2, F, F + 1] W1 X → Rd X av (A8 (l.filter (·.kind == 82)))) := Aa (fun X hX => by
      have h9 := HROW.out 82 X hX
      rw [hve] at h9
      obtain ⟨a9, c9, e9, r9⟩ := AE h9
      cases e9
      exact r9)
     have hlenk : (l.filter (·.kind == 82)).length ≤ 160000 := Nat.le_trans (List.length_filter_le _ _) hlen0
     have HBODK : Hid (∀ f ∈ (l.filter (·.kind == 82)), f.body.length ≤ 1000000) := Aa (fun f hf => Nat.le_trans (HBOD.out f (List.mem_filter.1 hf).1) (by omega))
     have kk := Blk.new wr #[Value.int IntKind.u8 82, Value.func (Fn.func 187) #[] #[]] 178
     have hst1 := hst.touch ((Touch.refl [] wr).alloc (Obj.cells #[Value.int IntKind.u8 82, Value.func (Fn.func 187) #[] #[]] 178)) (by simp)
     simp only [Nat.reduceLeDiff, if_pos, if_neg, Nat.le_refl, ↓reduceIte, Nat.not_succ_le_zero] at hst1
     have HKK := Aa kk
     have HST1 := Aa hst1
     have HTR1 := Aa (htr.alloc (Obj.cells #[Value.int IntKind.u8 82, Value.func (Fn.func 187) #[] #[]] 178))
     have hszr : F + 3 ≤ wr.heap.size := by have := htr.size; omega
     have hnat : ((82 : UInt8).toNat : Int) = 82 := rfl
     rw [hnat] at hlk
     clear htr hst hst1 kk hrow hnat hve
     obtain ⟨L, hL⟩ : ∃ L, L = (l.filter (·.kind == 82)) := ⟨_, rfl⟩
     rw [← hL] at hlk HROWS hlenk HBODK
     have HL := Aa hL
     clear hL
     go_wp2_with fail
     obtain ⟨g, hg⟩ : ∃ g, g = wr.heap.size := ⟨_, rfl⟩
     rw [← hg] at HKK hszr ⊢
     clear hlk hg
     go_loopw [36] (fun i X => ∃ k : Nat, k ≤ L.length ∧ i = .int .i64 (k : Int) ∧ RSt X (F + 1 + 1) F (F + 1) (F + 3) (l.filter (·.kind == 77)) (l.filter (·.kind == 70)) (L.take k) ∧ Touch [F + 2, F, F + 1] W1 X ∧ Blk X g [.int .u8 82, .func (.func 187) #[] #[]])
      (fun i _ => L.length - (intOf i).toNat)
     case atStart =>
      refine ⟨0, by omega, rfl, ?_, HTR1.out, HKK.out⟩
      have := HST1.out
      simpa using this
     case round =>
      obtain ⟨k, hk, rfl, hst, htr, hkk⟩ := hrel
      by_cases hlt : k < L.length
      ·obtain ⟨bb, off, rfl, d0, d1, d2⟩ := DN (HROWS.out _ htr) k hlt
       have htk := Ap L k hlt
       have hbd := HBODK.out L[k] (List.getElem_mem hlt)
       obtain ⟨f, hf⟩ : ∃ f, f = L[k] := ⟨_, rfl⟩
       rw [← hf] at d0 d1 d2 htk hbd
       have kk1 := (hkk 1 _ rfl).1
       have hgl : g < wr.heap.size := World.block_lt_of_cell? wr _ kk1
       obtain ⟨P, hP⟩ : ∃ P, P = Obj.cells #[Value.int IntKind.u8 (f.kind.toNat : Int), Value.int IntKind.u64 (f.set : Int), Value.string (str f.body)] 181 := ⟨_, rfl⟩
       have hsP := hst.touch ((Touch.refl [] wr).alloc P) (by simp)
       have htP := htr.alloc P
       have hkP := hkk.alloc P
       have hszP : F + 3 ≤ (wr.alloc P).heap.size := by have := htP.size; omega
       have kk1P := (hkP 1 _ rfl).1
       have hCall := Aa (RSt.stepE (f := f) (by rw [List.length_take]; omega) hbd (by omega) (by omega) (by omega) hsP)
       rw [hP] at hCall htP hkP kk1P
       unfold CC at hCall
       have HTP := Aa htP
       have HKP := Aa hkP
       have HTK := Aa htk
       clear hst htr hkk hsP htP hkP hP htk hf kk1
       go_wp2_with fail
       refine hCall.out.mono ?_
       rintro e w2 ⟨rfl, hs2, ht2⟩
       have S2 := Aa hs2
       have T2 := Aa (HTP.out.trans ht2)
       have K2 := Aa (HKP.out.touch ht2 (by simp; omega))
       clear hs2 ht2 HTP HKP hCall
       go_wp2_with fail
       exact ⟨⟨k + 1, by omega, by go_num, by rw [HTK.out]; exact S2.out, T2.out, K2.out⟩, by simp [intOf]; omega⟩
      ·obtain rfl : L.length = k := by omega
       rw [List.take_length, HL.out] at hst
       have S2 := Aa hst
       have T2 := Aa htr
       clear hst htr hkk
       go_wp2_with fail
       exact ⟨⟨3, by omega, rfl, S2.out, T2.out⟩, by simp [intOf]⟩
    ·simp only [Nat.reduceLeDiff, if_pos, Nat.le_refl, ↓reduceIte] at hst
     have HST := Aa hst
     have HTR := Aa htr
     clear hst htr HR1 HLK HROW ix0 ix1 ix2
     obtain ⟨kn, hkn⟩ : ∃ b, b = (AV l).isSome := ⟨_, rfl⟩
     obtain ⟨h, sz, fa, fn, fc, hblk, hprop⟩ : ∃ h sz fa fn fc, Blk wr (F + 1 + 1) (Bb kn h sz (.slice fa fn fc) F (F + 1)) ∧ ∀ f, AV l = some f → h = f.set ∧ sz = Al f.body ∧ wr.ownsRow (F + 3) 63 1 (.slice fa fn fc) (Ax f.body).length (Cz (Ax f.body)) := by
      have hm := HST.out.m
      rw [Gi] at hm
      cases hc : AV l with
      | none =>
       rw [hc] at hm hkn
       rw [hkn]
       exact ⟨0, 0, none, 0, 0, hm, fun f hf => by cases hf⟩
      | some g =>
       rw [hc] at hm hkn
       obtain ⟨ga, gc, h1, h2⟩ := hm
       rw [hkn]
       exact ⟨g.set, Al g.body, ga, _, gc, h1, fun f hf => by cases hf; exact ⟨rfl, rfl, h2⟩⟩
     have hq := HQ1.out.touch HTR.out (by simp; omega)
     obtain ⟨q0, z0⟩ := hq 0 _ rfl
     obtain ⟨q1, z1⟩ := hq 1 _ rfl
     obtain ⟨q2, z2⟩ := hq 2 _ rfl
     obtain ⟨q3, z3⟩ := hq 3 _ rfl
     obtain ⟨q4, z4⟩ := hq 4 _ rfl
     obtain ⟨q5, z5⟩ := hq 5 _ rfl
     have hbr : Below w.heap.size w wr := HB1.out.trans (HTR.out.below (by omega) (by simp; omega))
     have hszr : F + 3 ≤ wr.heap.size := by have := HTR.out.size; omega
     have hfin : ∀ X : World, X = ((((((wr.setCell ⟨w.heap.size, 0, none⟩ (.bool kn)).setCell ⟨w.heap.size, 1, none⟩ (.int .u64 (h : Int))).setCell ⟨w.heap.size, 2, none⟩ (.int .i64 (sz : Int))).setCell ⟨w.heap.size, 3, none⟩ (.slice fa fn fc)).setCell ⟨w.heap.size, 4, none⟩ (.map (some F))).setCell ⟨w.heap.size, 5, none⟩ (.map (some (F + 1)))).drew → Qn l w (.returned (.tuple #[.agg #[.bool kn, .int .u64 (h : Int), .int .i64 (sz : Int), .slice fa fn fc, .map (some F), .map (some (F + 1))], .bool kn])) X := by
      rintro X rfl
      have ht := (((((((Touch.refl [w.heap.size] wr).setCell (x := ⟨w.heap.size, 0, none⟩) (.inl (by simp)) (.bool kn)).setCell (x := ⟨w.heap.size, 1, none⟩) (.inl (by simp)) (.int .u64 (h : Int))).setCell (x := ⟨w.heap.size, 2, none⟩) (.inl (by simp)) (.int .i64 (sz : Int))).setCell (x := ⟨w.heap.size, 3, none⟩) (.inl (by simp)) (.slice fa fn fc)).setCell (x := ⟨w.heap.size, 4, none⟩) (.inl (by simp)) (.map (some F))).setCell (x := ⟨w.heap.size, 5, none⟩) (.inl (by simp)) (.map (some (F + 1)))).drew
      have hf := HST.out.f.touch ht (by simp; omega) (by simp; omega)
      have he := HST.out.e.touch ht (by simp; omega)
      rw [Gi] at hf he
      refine ⟨h, sz, F, F + 1, F + 3, .slice fa fn fc, by omega, by have := ht.size; omega, hbr.trans (ht.below (by omega) (by simp)), by rw [hkn], hf, he, by omega, by omega, by omega, by omega, by omega, ⟨_, _, _, rfl⟩, fun f hfc => ?_⟩
      obtain ⟨p1, p2, p3⟩ := hprop f hfc
      exact ⟨p1, p2, Ac p3 ht (by simp; omega)⟩
     have hS0 : ∀ X : World, Touch [w.heap.size] wr X → X.cell? ⟨F + 1 + 1, 0, none⟩ = some (.bool kn) ∧ X.cell? ⟨F + 1 + 1, 1, none⟩ = some (.int .u64 (h : Int)) ∧ X.cell? ⟨F + 1 + 1, 2, none⟩ = some (.int .i64 (sz : Int)) ∧ X.cell? ⟨F + 1 + 1, 3, none⟩ = some (.slice fa fn fc) ∧ X.cell? ⟨F + 1 + 1, 4, none⟩ = some (.map (some F)) ∧ X.cell? ⟨F + 1 + 1, 5, none⟩ = some (.map (some (F + 1))) := by
      intro X hX
      have hk := hblk.touch hX (by simp; omega)
      exact ⟨(hk 0 _ rfl).1, (hk 1 _ rfl).1, (hk 2 _ rfl).1, (hk 3 _ rfl).1, (hk 4 _ rfl).1, (hk 5 _ rfl).1⟩
     have HFIN := Aa hfin
     have HS0 := Aa hS0
     have HTQ : Hid (Touch [w.heap.size] wr (((((((wr.setCell ⟨w.heap.size, 0, none⟩ (.bool kn)).setCell ⟨w.heap.size, 1, none⟩ (.int .u64 (h : Int))).setCell ⟨w.heap.size, 2, none⟩ (.int .i64 (sz : Int))).setCell ⟨w.heap.size, 3, none⟩ (.slice fa fn fc)).setCell ⟨w.heap.size, 4, none⟩ (.map (some F))).setCell ⟨w.heap.size, 5, none⟩ (.map (some (F + 1)))).drew)) := Aa ((((((((Touch.refl [w.heap.size] wr).setCell (x := ⟨w.heap.size, 0, none⟩) (.inl (by simp)) (.bool kn)).setCell (x := ⟨w.heap.size, 1, none⟩) (.inl (by simp)) (.int .u64 (h : Int))).setCell (x := ⟨w.heap.size, 2, none⟩) (.inl (by simp)) (.int .i64 (sz : Int))).setCell (x := ⟨w.heap.size, 3, none⟩) (.inl (by simp)) (.slice fa fn fc)).setCell (x := ⟨w.heap.size, 4, none⟩) (.inl (by simp)) (.map (some F))).setCell (x := ⟨w.heap.size, 5, none⟩) (.inl (by simp)) (.map (some (F + 1)))).drew)
     clear hfin hS0 hblk hprop hq hbr HST HTR HB1 HQ1 hkn HBOD
     go_wp2_with fail
     refine wp_region_held_drew (S := fun X => X.cell? ⟨F + 1 + 1, 0, none⟩ = some (.bool kn) ∧ X.cell? ⟨F + 1 + 1, 1, none⟩ = some (.int .u64 (h : Int)) ∧ X.cell? ⟨F + 1 + 1, 2, none⟩ = some (.int .i64 (sz : Int)) ∧ X.cell? ⟨F + 1 + 1, 3, none⟩ = some (.slice fa fn fc) ∧ X.cell? ⟨F + 1 + 1, 4, none⟩ = some (.map (some F)) ∧ X.cell? ⟨F + 1 + 1, 5, none⟩ = some (.map (some (F + 1)))) (by kernel_rfl) (HS0.out _ (Touch.refl _ _).drew) (fun hHeld => ?_)
     refine tY 0 46 ?_
     refine tY 1 47 ?_
     refine tY 2 48 ?_
     refine Ah (i := 3) (by kernel_rfl) (fun K o ho hK => ?_)
     simp only [gA, gB, gC, gE] at ho
     subst ho
     go_simp
     refine hK.out _ _ ?_ (fun hHeld => ?_)
     focus exact HS0.out _ HTQ.out
     clear hK K
     try simp only [Act.put, sA, sB, sC]
     refine tY 4 3 ?_
     refine wpAnyH_done (by kernel_rfl) ?_ _
     go_wp2_with fail
     refine bodyPost_ret (v := .tuple #[.agg #[.bool kn, .int .u64 (h : Int), .int .i64 (sz : Int), .slice fa fn fc, .map (some F), .map (some (F + 1))], .bool kn]) (by simp [results, Tryz.results76, go_sem, q0, q1, q2, q3, q4, q5]) rfl ?_
     exact HFIN.out _ rfl
end Go.Proofs.YtonjphollmdicaaGreatDoor
namespace Go.Proofs
open Go.Shelf
def Tryz.lays189_ren : Go.Shelf.Ren := ⟨fun | 189 => 128 | 125 => 142 | 257 => 141 | 128 => 157 | 129 => 158 | 294 => 148 | 295 => 149 | 296 => 150 | 297 => 151 | 298 => 152 | 299 => 153 | 216 => 154 | 300 => 155 | 301 => 156 | 328 => 161 | 329 => 162 | 330 => 163 | 331 => 164 | 332 => 165 | 215 => 166 | 343 => 167 | n => n, fun | 28 => 31 | 3 => 3 | 46 => 156 | 0 => 0 | 51 => 155 | 53 => 63 | 4 => 4 | 183 => 238 | 182 => 237 | 131 => 243 | 5 => 5 | 9 => 9 | 218 => 250 | 222 => 254 | 228 => 256 | 229 => 257 | n => n, fun | n => n⟩
theorem Tryz.lays189 : Go.Proofs.Lays.n189 Tryz.prog Tryz.lays189_ren := {
 mixed := by kernel_rfl
 f125 := Tryz.func142.trans (congrArg some (by kernel_rfl))
 f128 := Tryz.func157.trans (congrArg some (by kernel_rfl))
 f129 := Tryz.func158.trans (congrArg some (by kernel_rfl))
 f189 := Tryz.func128.trans (congrArg some (by kernel_rfl))
 f215 := Tryz.func166.trans (congrArg some (by kernel_rfl))
 f216 := Tryz.func154.trans (congrArg some (by kernel_rfl))
 f257 := Tryz.func141.trans (congrArg some (by kernel_rfl))
 f294 := Tryz.func148.trans (congrArg some (by kernel_rfl))
 f295 := Tryz.func149.trans (congrArg some (by kernel_rfl))
 f296 := Tryz.func150.trans (congrArg some (by kernel_rfl))
 f297 := Tryz.func151.trans (congrArg some (by kernel_rfl))
 f298 := Tryz.func152.trans (congrArg some (by kernel_rfl))
 f299 := Tryz.func153.trans (congrArg some (by kernel_rfl))
 f300 := Tryz.func155.trans (congrArg some (by kernel_rfl))
 f301 := Tryz.func156.trans (congrArg some (by kernel_rfl))
 f328 := Tryz.func161.trans (congrArg some (by kernel_rfl))
 f329 := Tryz.func162.trans (congrArg some (by kernel_rfl))
 f330 := Tryz.func163.trans (congrArg some (by kernel_rfl))
 f331 := Tryz.func164.trans (congrArg some (by kernel_rfl))
 f332 := Tryz.func165.trans (congrArg some (by kernel_rfl))
 f343 := Tryz.func167.trans (congrArg some (by kernel_rfl))
 t0 := Tryz.underlying0
 a0 := Tryz.isAgg0
 z0 := Tryz.sizeOf0
 v0 := Tryz.zeroValue0
 t3 := Tryz.underlying3
 a3 := Tryz.isAgg3
 z3 := Tryz.sizeOf3
 v3 := Tryz.zeroValue3
 t4 := Tryz.underlying4
 a4 := Tryz.isAgg4
 z4 := Tryz.sizeOf4
 v4 := Tryz.zeroValue4
 t5 := Tryz.underlying5
 a5 := Tryz.isAgg5
 z5 := Tryz.sizeOf5
 v5 := Tryz.zeroValue5
 t9 := Tryz.underlying9
 a9 := Tryz.isAgg9
 z9 := Tryz.sizeOf9
 v9 := Tryz.zeroValue9
 t28 := Tryz.underlying31
 a28 := Tryz.isAgg31
 z28 := Tryz.sizeOf31
 v28 := Tryz.zeroValue31
 t46 := Tryz.underlying156
 a46 := Tryz.isAgg156
 z46 := Tryz.sizeOf156
 v46 := Tryz.zeroValue156
 t51 := Tryz.underlying155
 a51 := Tryz.isAgg155
 z51 := Tryz.sizeOf155
 v51 := Tryz.zeroValue155
 t53 := Tryz.underlying63
 a53 := Tryz.isAgg63
 z53 := Tryz.sizeOf63
 v53 := Tryz.zeroValue63
 t131 := Tryz.underlying243
 a131 := Tryz.isAgg243
 z131 := Tryz.sizeOf243
 v131 := Tryz.zeroValue243
 t182 := Tryz.underlying237
 a182 := Tryz.isAgg237
 z182 := Tryz.sizeOf237
 v182 := Tryz.zeroValue237
 t183 := Tryz.underlying238
 a183 := Tryz.isAgg238
 z183 := Tryz.sizeOf238
 v183 := Tryz.zeroValue238
 t218 := Tryz.underlying250
 a218 := Tryz.isAgg250
 z218 := Tryz.sizeOf250
 v218 := Tryz.zeroValue250
 t222 := Tryz.underlying254
 a222 := Tryz.isAgg254
 z222 := Tryz.sizeOf254
 v222 := Tryz.zeroValue254
 t228 := Tryz.underlying256
 a228 := Tryz.isAgg256
 z228 := Tryz.sizeOf256
 v228 := Tryz.zeroValue256
 t229 := Tryz.underlying257
 a229 := Tryz.isAgg257
 z229 := Tryz.sizeOf257
 v229 := Tryz.zeroValue257 }
open Go.Sort Go.RowKit in
theorem Tryz.slices_Sort_int (blk off cap : Nat) (zs : List Int) (w : World) (hH : Holds (Value.int .i64) w blk off zs.toArray) (hblk : blk < w.heap.size) (hsz : zs.length < 4611686018427387904) :
  Calls Tryz.prog 128 #[.slice (some ⟨blk, off, none⟩) zs.length cap] w fun e w' =>
   e = .returned (.tuple #[]) ∧ ∃ n os, w' = grow (putRow (Value.int .i64) (Sort.ahead w n) blk off (zs.mergeSort fun x y => decide (x ≤ y)).toArray) os := Any.slices_Sort_int Tryz.lays189 blk off cap zs w hH hblk hsz
open Go.RowKit Go.Sort in
theorem Tryz.slices_Sort_int_none (p : Option Addr) (cap : Nat) (w : World) :
  Calls Tryz.prog 128 #[.slice p 0 cap] w fun e w' => e = .returned (.tuple #[]) ∧ w' = w := Any.slices_Sort_int_none Tryz.lays189 p cap w
end Go.Proofs
namespace Go.Proofs.YtonjphollmdicaaGreatDoor
open Go.ChangeShapes Go.WideShapes Go.ChangeAt Go.RowKit
open Go.Maps
def Dz (l : List Nat) : List Value := l.map fun (n : Nat) => Value.int .i64 (n : Int)
theorem Pp {ss ks : List Nat} (hp : ss.Perm ks) (hs : ks.Pairwise (· < ·)) : (ss.map (fun n : Nat => (n : Int))).mergeSort (fun x y => decide (x ≤ y)) = ks.map (fun n : Nat => (n : Int)) := by
 have tr : ∀ a b c : Int, decide (a ≤ b) = true → decide (b ≤ c) = true → decide (a ≤ c) = true := fun a b c h1 h2 => by
  have h1 := of_decide_eq_true h1
  have h2 := of_decide_eq_true h2
  exact decide_eq_true (by omega)
 have tot : ∀ a b : Int, (decide (a ≤ b) || decide (b ≤ a)) = true := fun a b => by
  simp only [Bool.or_eq_true, decide_eq_true_eq]
  omega
 refine List.Perm.eq_of_pairwise (le := fun a b => decide (a ≤ b) = true) (fun a b _ _ h1 h2 => ?_) (List.pairwise_mergeSort tr tot _) ?_ ((List.mergeSort_perm _ _).trans (hp.map _))
 ·have h1 := of_decide_eq_true h1
  have h2 := of_decide_eq_true h2
  omega
 ·rw [List.pairwise_map]
  exact hs.imp (fun {a b} h => decide_eq_true (by omega))
theorem KQ (base : Nat) (v : Value) (ss ks : List Nat) (w : World) (hl : ss.length ≤ 100000) (hp : ss.Perm ks) (hs : ks.Pairwise (· < ·)) (hown : w.ownsRow base 3 1 v ss.length (Dz ss)) :
  Calls Tryz.prog 128 #[v] w fun e w' => e = .returned (.tuple #[]) ∧ w'.ownsRow base 3 1 v ss.length (Dz ks) ∧ Touch (Ed v) w w' := by
 rcases hown.2 with ⟨rfl, h0⟩ | ⟨g, cap, cur, rfl, hbase, hb, h1, h2, h3, h4⟩
 ·have e0 : ss = [] := List.length_eq_zero_iff.1 h0
  subst e0
  have e1 : ks = [] := hp.nil_eq.symm
  subst e1
  refine (Tryz.slices_Sort_int_none none 0 w).mono ?_
  rintro e w' ⟨rfl, rfl⟩
  exact ⟨rfl, hown, Touch.refl _ _⟩
 ·have hH : Go.Sort.Holds (Value.int .i64) w g 0 (ss.map (fun n : Nat => (n : Int))).toArray := holds_of_blockI hb (by
   rw [List.length_map]
   have : cur.toList.take (ss.length * 1) = Dz ss := h4
   rw [Nat.mul_one] at this
   rw [this]
   simp [Dz])
  have hlm : (ss.map (fun n : Nat => (n : Int))).length = ss.length := List.length_map _
  have hc := Tryz.slices_Sort_int g 0 cap (ss.map (fun n : Nat => (n : Int))) w hH (Array.getElem?_eq_some_iff.1 hb).1 (by rw [hlm]; omega)
  rw [Pp hp hs, hlm] at hc
  refine hc.mono ?_
  rintro e w' ⟨rfl, n, os, rfl⟩
  have hlk : (ks.map (fun n : Nat => (n : Int))).length = (ss.map (fun n : Nat => (n : Int))).length := by rw [List.length_map, List.length_map, hp.length_eq]
  have ho := ownsRow_sortedI (n := n) (os := os) (base := base) (cap := cap) hlk hbase hb (by rw [hlm]; exact h1) h2 h3
  rw [hlm] at ho
  refine ⟨rfl, ?_, ?_⟩
  ·have e1 : Dz ks = (ks.map (fun n : Nat => (n : Int))).map (Value.int .i64) := by simp [Dz]
   rw [e1]
   exact ho
  ·have := grownBy_sortedI (w := w) (g := g) (n := n) (os := os) (ks.map (fun n : Nat => (n : Int))).toArray
   exact (Touch.of_grown this).mono (by simp [Ed, Value.ownBlock])
end Go.Proofs.YtonjphollmdicaaGreatDoor
