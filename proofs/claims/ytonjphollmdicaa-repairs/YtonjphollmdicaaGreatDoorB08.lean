import Derived.Test.YtonjphollmdicaaGreatDoorB01
import Derived.Test.YtonjphollmdicaaGreatDoorB03
import Derived.Test.YtonjphollmdicaaGreatDoorB05
import Derived.Test.YtonjphollmdicaaGreatDoorB07
import Derived.Laws.EntriesVeiled
import Derived.Maps.RangeWalk
import Derived.Maps.AppendAt
namespace Go.Proofs.YtonjphollmdicaaGreatDoor
open Go.ChangeShapes Go.WideShapes Go.ChangeAt Go.RowKit
def kindsV : List Value := [.int .u8 77, .func (.func 185) #[] #[], .int .u8 70, .func (.func 186) #[] #[], .int .u8 82, .func (.func 187) #[] #[]]
structure Kinds (w : World) : Prop where
  c0 : w.cell? ⟨0, 0, none⟩ = some (.int .u8 77)
  c1 : w.cell? ⟨0, 1, none⟩ = some (.func (.func 185) #[] #[])
  c2 : w.cell? ⟨0, 2, none⟩ = some (.int .u8 70)
  c3 : w.cell? ⟨0, 3, none⟩ = some (.func (.func 186) #[] #[])
  c4 : w.cell? ⟨0, 4, none⟩ = some (.int .u8 82)
  c5 : w.cell? ⟨0, 5, none⟩ = some (.func (.func 187) #[] #[])
theorem Kinds.lt {w : World} (h : Kinds w) : 0 < w.heap.size := World.block_lt_of_cell? w _ h.c0
theorem Kinds.touch {w w' : World} (h : Kinds w) {L : List Nat} (ht : Touch L w w') (hL : 0 ∉ L) : Kinds w' := by
  have e : ∀ o, w'.cell? ⟨0, o, none⟩ = w.cell? ⟨0, o, none⟩ := fun o => ht.cell (x := ⟨0, o, none⟩) h.lt hL
  exact ⟨by rw [e]; exact h.c0, by rw [e]; exact h.c1, by rw [e]; exact h.c2, by rw [e]; exact h.c3, by rw [e]; exact h.c4, by rw [e]; exact h.c5⟩
theorem Kinds.later {w w' : World} (h : Kinds w) {B : Nat} (hb : Below B w w') (hB : 0 < B) : Kinds w' := by
  have e : ∀ o, w'.cell? ⟨0, o, none⟩ = w.cell? ⟨0, o, none⟩ := fun o => hb.cell hB
  exact ⟨by rw [e]; exact h.c0, by rw [e]; exact h.c1, by rw [e]; exact h.c2, by rw [e]; exact h.c3, by rw [e]; exact h.c4, by rw [e]; exact h.c5⟩
def kindsA : Value := .agg #[.int .u8 77, .func (.func 185) #[] #[], .int .u8 70, .func (.func 186) #[] #[], .int .u8 82, .func (.func 187) #[] #[]]
theorem kinds_ix0 (W : World) : (Instr.index 179 kindsA (.int .i64 0)).run Tryz.prog W = .ok (.agg #[.int .u8 77, .func (.func 185) #[] #[]]) W := by kernel_rfl
theorem kinds_ix1 (W : World) : (Instr.index 179 kindsA (.int .i64 1)).run Tryz.prog W = .ok (.agg #[.int .u8 70, .func (.func 186) #[] #[]]) W := by kernel_rfl
theorem kinds_ix2 (W : World) : (Instr.index 179 kindsA (.int .i64 2)).run Tryz.prog W = .ok (.agg #[.int .u8 82, .func (.func 187) #[] #[]]) W := by kernel_rfl
set_option linter.unusedSimpArgs false in
set_option maxRecDepth 100000 in
set_option maxHeartbeats 2000000 in
theorem isKind_walk (k : UInt8) (w : World) (h : Kinds w) :
    Calls Tryz.prog 127 #[.int .u8 (k.toNat : Int)] w fun e w' => e = .returned (.bool (kindL k)) ∧ Below w.heap.size w w' := by
  obtain ⟨c0, c1, c2, c3, c4, c5⟩ := h
  obtain ⟨R, hR⟩ : ∃ R, R = kindL k := ⟨_, rfl⟩
  rw [← hR]
  have HR := hid_of hR
  have hl0 : R = ([77, 70, 82] : List UInt8).contains k := by
    rw [hR]
    unfold kindL
    simp only [List.contains_cons, List.contains_nil, Bool.or_false, Bool.or_assoc]
  have HL0 := hid_of hl0
  clear hR hl0
  have ix0 := kinds_ix0
  have ix1 := kinds_ix1
  have ix2 := kinds_ix2
  unfold kindsA at ix0 ix1 ix2
  go_enter Tryz.func127, Tryz.ntmps127
  go_wp2_with fail
  go_loopw [4, 6] (fun _ i W => ∃ j : Nat, j ≤ 3 ∧ i = .int .i64 (j : Int) ∧ Hid (R = (([77, 70, 82] : List UInt8).drop j).contains k) ∧ Below w.heap.size w W)
    (fun _ i _ => 3 - (intOf i).toNat)
  case atStart => exact ⟨0, by omega, rfl, HL0, Below.refl _ _⟩
  case round =>
    obtain ⟨j, hj, rfl, HL, hbl⟩ := hrel
    have HB := hid_of hbl
    have hsz := hbl.size
    clear hbl c0 c1 c2 c3 c4 c5 HL0
    have hj4 : j = 0 ∨ j = 1 ∨ j = 2 ∨ j = 3 := by omega
    rcases hj4 with rfl | rfl | rfl | rfl
    · by_cases q : k = 77
      · subst q
        have HK : Hid (R = true) := hid_of (by rw [HR.out]; rfl)
        clear HR HL
        go_wp2_with fail
        go_ret
        exact ⟨by rw [HK.out]; rfl, HB.out.alloc HB.out.size _⟩
      · have e1 : ((77 : Int) == (k.toNat : Int)) = false := by
          rw [beq_eq_false_iff_ne]
          intro e
          exact q (UInt8.toNat_inj.1 (by have : k.toNat = 77 := by omega
                                         rw [this]; rfl))
        have H2 : Hid (R = ([70, 82] : List UInt8).contains k) := hid_of (by rw [HL.out]; simp [q])
        clear HL HR q
        go_wp2_with fail
        exact ⟨⟨1, by omega, rfl, H2, HB.out.alloc HB.out.size _⟩, by simp [intOf]⟩
    · by_cases q : k = 70
      · subst q
        have HK : Hid (R = true) := hid_of (by rw [HR.out]; rfl)
        clear HR HL
        go_wp2_with fail
        go_ret
        exact ⟨by rw [HK.out]; rfl, HB.out.alloc HB.out.size _⟩
      · have e1 : ((70 : Int) == (k.toNat : Int)) = false := by
          rw [beq_eq_false_iff_ne]
          intro e
          exact q (UInt8.toNat_inj.1 (by have : k.toNat = 70 := by omega
                                         rw [this]; rfl))
        have H2 : Hid (R = ([82] : List UInt8).contains k) := hid_of (by rw [HL.out]; simp [q])
        clear HL HR q
        go_wp2_with fail
        exact ⟨⟨2, by omega, rfl, H2, HB.out.alloc HB.out.size _⟩, by simp [intOf]⟩
    · by_cases q : k = 82
      · subst q
        have HK : Hid (R = true) := hid_of (by rw [HR.out]; rfl)
        clear HR HL
        go_wp2_with fail
        go_ret
        exact ⟨by rw [HK.out]; rfl, HB.out.alloc HB.out.size _⟩
      · have e1 : ((82 : Int) == (k.toNat : Int)) = false := by
          rw [beq_eq_false_iff_ne]
          intro e
          exact q (UInt8.toNat_inj.1 (by have : k.toNat = 82 := by omega
                                         rw [this]; rfl))
        have H2 : Hid (R = ([] : List UInt8).contains k) := hid_of (by rw [HL.out]; simp [q])
        clear HL HR q
        go_wp2_with fail
        exact ⟨⟨3, by omega, rfl, H2, HB.out.alloc HB.out.size _⟩, by simp [intOf]⟩
    · have HK : Hid (R = false) := hid_of (by rw [HL.out]; rfl)
      clear HR HL
      go_wp2_with fail
      go_ret
      exact ⟨by rw [HK.out]; rfl, HB.out⟩
end Go.Proofs.YtonjphollmdicaaGreatDoor
namespace Go.Proofs.YtonjphollmdicaaGreatDoor
open Go.ChangeShapes Go.WideShapes Go.ChangeAt Go.RowKit
def packV (k s : Nat) (b : List UInt8) : Value := .agg #[.int .u8 (k : Int), .int .u64 (s : Int), .string (str b)]
def openV (t : List UInt8) : Value := if isOpen t then .tuple #[packV (oKind t) (oSet t) (oBody t), .int .i64 (((oAhead t).length + 8 : Nat) : Int)] else .tuple #[packV 0 0 [], .int .i64 0]
theorem numL_byte (l : List UInt8) (h : l.length ≤ 1) : numL l < 256 := by
 match l, h with
 | [], _ => decide
 | [x], _ => rw [numL_one]; exact x.toNat_lt
set_option linter.unusedSimpArgs false in
set_option maxRecDepth 100000 in
set_option maxHeartbeats 2000000 in
theorem Open_walk (b : List UInt8) (hb : b.length ≤ 1000000) (w : World) :
  Calls Tryz.prog 126 #[.string (str b)] w fun e w' => e = .returned (openV b) ∧ Below w.heap.size w w' := by
 have A1 : Hid (RdAt (w.heap.size + 1) (b, false) ((w.alloc (Obj.cells #[.int .u8 0, .int .u64 0, .string ⟨#[]⟩] 181)).alloc (Obj.cells #[Value.string (str b), Value.bool false] 226))) := hid_of ⟨by simp, by simp, by simp, by simp⟩
 have l1 : (oS1 b).1.length ≤ 1000000 := Nat.le_trans (rdS_len _ _) hb
 have l2 : (oS2 b).1.length ≤ 1000000 := Nat.le_trans (rdS_len _ _) l1
 have l3 : (oS3 b).1.length ≤ 1000000 := Nat.le_trans (rdS_len _ _) l2
 have l4 : (oS4 b).1.length ≤ 1000000 := Nat.le_trans (rdS_len _ _) l3
 have l5 : (oS5 b).1.length ≤ 1000000 := Nat.le_trans (rdS_len _ _) l4
 have l5' : (oS5 b).1.length ≤ b.length := Nat.le_trans (rdS_len _ _) (Nat.le_trans (rdS_len _ _) (Nat.le_trans (rdS_len _ _) (Nat.le_trans (rdS_len _ _) (rdS_len _ _))))
 have hk : oKind b < 256 := numL_byte _ (rdT_len _ _)
 have hn : oLen b < 65536 := numL_two _ (rdT_len _ _)
 have N1 : Hid (∀ W, RdAt (w.heap.size + 1) (b, false) W → Calls Tryz.prog 139 #[.pointer (some ⟨w.heap.size + 1, 0, none⟩), .int .i64 ((3 : Nat) : Int)] W fun e w' => e = .returned (.string (str (rdT (b, false) 3))) ∧ RdAt (w.heap.size + 1) (oS1 b) w' ∧ Touch [w.heap.size + 1] W w') := hid_of (fun W h => text_walk (w.heap.size + 1) (b, false) 3 hb W h)
 have N2 : Hid (∀ W, RdAt (w.heap.size + 1) (oS1 b) W → Calls Tryz.prog 140 #[.pointer (some ⟨w.heap.size + 1, 0, none⟩), .int .i64 ((1 : Nat) : Int)] W fun e w' => e = .returned (.int .u64 ((oKind b : Nat) : Int)) ∧ RdAt (w.heap.size + 1) (oS2 b) w' ∧ Touch [w.heap.size + 1] W w') := hid_of (fun W h => number_walk (w.heap.size + 1) (oS1 b) 1 l1 (by omega) W h)
 have N3 : Hid (∀ W, RdAt (w.heap.size + 1) (oS2 b) W → Calls Tryz.prog 140 #[.pointer (some ⟨w.heap.size + 1, 0, none⟩), .int .i64 ((8 : Nat) : Int)] W fun e w' => e = .returned (.int .u64 ((oSet b : Nat) : Int)) ∧ RdAt (w.heap.size + 1) (oS3 b) w' ∧ Touch [w.heap.size + 1] W w') := hid_of (fun W h => number_walk (w.heap.size + 1) (oS2 b) 8 l2 (by omega) W h)
 have N4 : Hid (∀ W, RdAt (w.heap.size + 1) (oS3 b) W → Calls Tryz.prog 140 #[.pointer (some ⟨w.heap.size + 1, 0, none⟩), .int .i64 ((2 : Nat) : Int)] W fun e w' => e = .returned (.int .u64 ((oLen b : Nat) : Int)) ∧ RdAt (w.heap.size + 1) (oS4 b) w' ∧ Touch [w.heap.size + 1] W w') := hid_of (fun W h => number_walk (w.heap.size + 1) (oS3 b) 2 l3 (by omega) W h)
 have N5 : Hid (∀ W, RdAt (w.heap.size + 1) (oS4 b) W → Calls Tryz.prog 139 #[.pointer (some ⟨w.heap.size + 1, 0, none⟩), .int .i64 ((oLen b : Nat) : Int)] W fun e w' => e = .returned (.string (str (oBody b))) ∧ RdAt (w.heap.size + 1) (oS5 b) w' ∧ Touch [w.heap.size + 1] W w') := hid_of (fun W h => text_walk (w.heap.size + 1) (oS4 b) (oLen b) l4 W h)
 have N6 : Hid (∀ W, RdAt (w.heap.size + 1) (oS5 b) W → Calls Tryz.prog 140 #[.pointer (some ⟨w.heap.size + 1, 0, none⟩), .int .i64 ((8 : Nat) : Int)] W fun e w' => e = .returned (.int .u64 ((oHash b : Nat) : Int)) ∧ RdAt (w.heap.size + 1) (oS6 b) w' ∧ Touch [w.heap.size + 1] W w') := hid_of (fun W h => number_walk (w.heap.size + 1) (oS5 b) 8 l5 (by omega) W h)
 have hal : (oAhead b).length ≤ 1000000 := by unfold oAhead; rw [List.length_take]; omega
 have NH : Hid (∀ W, Calls Tryz.prog 92 #[.string (str (oAhead b))] W fun e w' => e = .returned (.int .u64 ((hashL (oAhead b) : Nat) : Int)) ∧ w' = W) := hid_of (fun W => by simpa [str] using Hash_walk (str (oAhead b)) (by rw [str_size]; exact hal) W)
 have hahl : (oAhead b).length = b.length - (oS5 b).1.length := by unfold oAhead; rw [List.length_take]; omega
 have hex : (str b).extract 0 (b.length - (oS5 b).1.length) = str (oAhead b) := by rw [str_extract]; simp [oAhead]
 have hop : isOpen b = ((rdT (b, false) 3 == [83, 65, 76]) && !(oS6 b).2 && (oHash b == hashL (oAhead b))) := rfl
 obtain ⟨R, hR⟩ : ∃ R, R = openV b := ⟨_, rfl⟩
 have hR' : R = if isOpen b then .tuple #[packV (oKind b) (oSet b) (oBody b), .int .i64 (((oAhead b).length + 8 : Nat) : Int)] else .tuple #[packV 0 0 [], .int .i64 0] := hR
 have HR := hid_of hR'
 have HOP := hid_of hop
 rw [← hR]
 clear hR hR' hop l1 l2 l3 l4
 have wk : IntKind.u8.wrap (oKind b : Int) = (oKind b : Int) := by rw [IntKind.wrap_u8']; omega
 have wn : IntKind.i64.wrap (oLen b : Int) = (oLen b : Int) := by rw [IntKind.wrap_i64]; omega
 go_enter Tryz.func126, Tryz.ntmps126
 go_wp2_with fail
 refine (N1.out _ A1.out).mono ?_
 rintro e w1 ⟨rfl, hr1, ht1⟩
 have hsz1 : w.heap.size + 2 ≤ w1.heap.size := by have := ht1.size; simpa using this
 have hb1 : Below w.heap.size w w1 := Below.trans ((((Below.refl w.heap.size w).alloc (Nat.le_refl _) _).alloc (by simp) _)) (ht1.below (by simp; omega) (by simp))
 have k1 : Blk w1 w.heap.size [.int .u8 0, .int .u64 0, .string ⟨#[]⟩] := ((Blk.new w #[.int .u8 0, .int .u64 0, .string ⟨#[]⟩] 181).alloc _).touch ht1 (by simp)
 have HB1 := hid_of hb1
 have HR1 := hid_of hr1
 clear hb1 hr1 ht1 A1 N1
 by_cases c1 : rdT (b, false) 3 = [83, 65, 76]
 ·have e1 : ((str (rdT (b, false) 3)).toList == [83, 65, 76]) = true := by rw [str_toList, c1]; rfl
  have HOP2 : Hid (isOpen b = (!(oS6 b).2 && (oHash b == hashL (oAhead b)))) := hid_of (by rw [HOP.out, c1]; rfl)
  clear HOP c1
  have K1 := hid_of k1
  clear k1
  go_wp2_with fail
  refine (N2.out _ HR1.out).mono ?_
  rintro e w2 ⟨rfl, hr2, ht2⟩
  go_wp2_with fail
  refine (N3.out _ hr2).mono ?_
  rintro e w3 ⟨rfl, hr3, ht3⟩
  have ht13 := ht2.trans ht3
  have hb3 : Below w.heap.size w w3 := HB1.out.trans (ht13.below (by omega) (by simp))
  have hs3 : w.heap.size + 2 ≤ w3.heap.size := Nat.le_trans hsz1 ht13.size
  have k3 := K1.out.touch ht13 (by simp)
  obtain ⟨V, hV⟩ : ∃ V, V = Obj.cells #[.int .u8 (oKind b : Int), .int .u64 (oSet b : Int), .string ⟨#[]⟩] 181 := ⟨_, rfl⟩
  have A4 : Hid (RdAt (w.heap.size + 1) (oS3 b) (w3.alloc (Obj.cells #[.int .u8 (oKind b : Int), .int .u64 (oSet b : Int), .string ⟨#[]⟩] 181))) := hid_of (hr3.touch ((Touch.refl [] _).alloc _) (by simp))
  have K4 := hid_of (k3.alloc (Obj.cells #[.int .u8 (oKind b : Int), .int .u64 (oSet b : Int), .string ⟨#[]⟩] 181))
  have G4 := hid_of (Blk.new w3 #[.int .u8 (oKind b : Int), .int .u64 (oSet b : Int), .string ⟨#[]⟩] 181)
  have B4 := hid_of (hb3.alloc (by omega) (Obj.cells #[.int .u8 (oKind b : Int), .int .u64 (oSet b : Int), .string ⟨#[]⟩] 181))
  clear ht2 ht3 ht13 hr2 hr3 hb3 k3 HB1 HR1 K1 N2 N3 hV V hsz1
  go_wp2_with fail
  refine (N4.out _ A4.out).mono ?_
  rintro e w5 ⟨rfl, hr5, ht5⟩
  go_wp2_with fail
  refine (N5.out _ hr5).mono ?_
  rintro e w6 ⟨rfl, hr6, ht6⟩
  obtain ⟨g, hg⟩ : ∃ g, g = w3.heap.size := ⟨_, rfl⟩
  have hgs : (w3.alloc (Obj.cells #[.int .u8 (oKind b : Int), .int .u64 (oSet b : Int), .string ⟨#[]⟩] 181)).heap.size = g + 1 := by simp [hg]
  rw [← hg] at G4 hs3 ⊢
  have ht46 := ht5.trans ht6
  have kq := K4.out.touch ht46 (by simp)
  have kg := G4.out.touch ht46 (by simp; omega)
  have hb6 : Below w.heap.size w w6 := B4.out.trans (ht46.below (by rw [hgs]; omega) (by simp))
  have hgw : g ≠ w.heap.size := by omega
  have hgw' : w.heap.size + 1 ≠ g := by omega
  have g2 := (kg 2 _ rfl).1
  have y2 := (kg 2 _ rfl).2
  have kg' := kg.set 2 (.string (str (oBody b)))
  have kq' := kq.set_other (a := ⟨g, 2, none⟩) hgw (.string (str (oBody b)))
  have hr' : RdAt (w.heap.size + 1) (oS5 b) (w6.setCell ⟨g, 2, none⟩ (.string (str (oBody b)))) := hr6.touch ((Touch.refl [g] _).setCell (.inl (by simp)) _) (by simpa using hgw')
  have hb' := hb6.setCell (show w.heap.size ≤ (⟨g, 2, none⟩ : Addr).block from by simp; omega) (.string (str (oBody b)))
  have hs' : g + 1 ≤ (w6.setCell ⟨g, 2, none⟩ (.string (str (oBody b)))).heap.size := by
   have := ht46.size
   rw [hgs] at this
   simpa using this
  simp only [List.set_cons_succ, List.set_cons_zero] at kg'
  have HRX := hid_of hr'
  obtain ⟨c0', c1', _, _⟩ := hr'
  have KG' := hid_of kg'
  have KQ' := hid_of kq'
  have HB' := hid_of hb'
  have HS' := hid_of hs'
  clear kg' kq' hb' hs'
  clear hr5 hr6 ht5 ht6 ht46 kq kg hb6 K4 G4 B4 A4 N4 N5 hgs hg
  have hbs := str_size b
  have h5s := str_size (oS5 b).1
  have wsub : IntKind.i64.wrap ((b.length : Int) - ((oS5 b).1.length : Int)) = ((b.length - (oS5 b).1.length : Nat) : Int) := by rw [IntKind.wrap_i64]; omega
  go_wp2_with fail
  refine (N6.out _ HRX.out).mono ?_
  rintro e w7 ⟨rfl, hr7, ht7⟩
  have kq := KQ'.out.touch ht7 (by simp)
  have kg := KG'.out.touch ht7 (by simpa using Ne.symm hgw')
  have hb7 : Below w.heap.size w w7 := HB'.out.trans (ht7.below (by have := HS'.out; omega) (by simp))
  obtain ⟨_, r1, _, _⟩ := hr7
  obtain ⟨g0, y0⟩ := kg 0 _ rfl
  obtain ⟨g1, y1⟩ := kg 1 _ rfl
  obtain ⟨g2', y2'⟩ := kg 2 _ rfl
  obtain ⟨q0, z0⟩ := kq 0 _ rfl
  obtain ⟨q1, z1⟩ := kq 1 _ rfl
  obtain ⟨q2, z2⟩ := kq 2 _ rfl
  have HB7 := hid_of hb7
  clear hb7 kq kg ht7 HRX KQ' KG' HB' HS' N6 c0' c1' g2 y2 hex wsub h5s hbs
  have w8 : IntKind.i64.wrap (((oAhead b).length : Int) + 8) = ((oAhead b).length : Int) + 8 := by rw [IntKind.wrap_i64]; omega
  have hahs := str_size (oAhead b)
  obtain ⟨k, hke⟩ : ∃ x, x = oKind b := ⟨_, rfl⟩
  obtain ⟨s, hse⟩ : ∃ x, x = oSet b := ⟨_, rfl⟩
  obtain ⟨bd, hbde⟩ : ∃ x, x = oBody b := ⟨_, rfl⟩
  obtain ⟨ah, hahe⟩ : ∃ x, x = oAhead b := ⟨_, rfl⟩
  obtain ⟨hs, hhse⟩ : ∃ x, x = oHash b := ⟨_, rfl⟩
  obtain ⟨sh, hshe⟩ : ∃ x, x = (oS6 b).2 := ⟨_, rfl⟩
  obtain ⟨hv, hhve⟩ : ∃ x, x = hashL ah := ⟨_, rfl⟩
  rw [← hahe] at NH w8 hahs HR HOP2 ⊢
  rw [← hhve] at NH HOP2
  rw [← hke] at g0 HR ⊢
  rw [← hse] at g1 HR ⊢
  rw [← hbde] at g2' HR ⊢
  rw [← hhse] at HOP2 ⊢
  rw [← hshe] at r1 HOP2
  clear hke hse hbde hahe hhse hshe hhve hk hn hal hahl wk wn l5 l5' hb hs3 e1
  cases sh with
  | true =>
   have HRR : Hid (R = .tuple #[packV 0 0 [], .int .i64 0]) := hid_of (by rw [HR.out, if_neg]; rw [HOP2.out]; simp)
   clear HR HOP2
   go_wp2_with fail
   refine bodyPost_ret (v := .tuple #[.agg #[.int .u8 0, .int .u64 0, .string ⟨#[]⟩], .int .i64 0]) (by simp [results, Tryz.results126, go_sem, *]) rfl ?_
   exact ⟨by rw [HRR.out]; rfl, ((HB7.out.setCell (Nat.le_refl _) _).setCell (Nat.le_refl _) _).setCell (Nat.le_refl _) _⟩
  | false =>
   by_cases c2 : hs = hv
   ·have e2 : ((hs : Int) != (hv : Int)) = false := by simp [c2]
    have e3 : ((hs : Int) == (hv : Int)) = true := by simp [c2]
    have HRR : Hid (R = .tuple #[packV k s bd, .int .i64 ((ah.length : Int) + 8)]) := hid_of (by rw [HR.out, if_pos]; rfl; rw [HOP2.out, c2]; simp)
    clear HR HOP2 c2
    go_wp2_with fail
    refine (NH.out _).mono ?_
    rintro e w' ⟨rfl, hw'⟩
    have hw' := hw'.symm
    subst hw'
    go_wp2_with fail
    refine bodyPost_ret (v := .tuple #[.agg #[.int .u8 (k : Int), .int .u64 (s : Int), .string (str bd)], .int .i64 ((ah.length : Int) + 8)]) (by simp [results, Tryz.results126, go_sem, *]) rfl ?_
    exact ⟨by rw [HRR.out]; rfl, ((HB7.out.setCell (Nat.le_refl _) _).setCell (Nat.le_refl _) _).setCell (Nat.le_refl _) _⟩
   ·have e2 : ((hs : Int) != (hv : Int)) = true := by simp; omega
    have e3 : ((hs : Int) == (hv : Int)) = false := by simp; omega
    have HRR : Hid (R = .tuple #[packV 0 0 [], .int .i64 0]) := hid_of (by rw [HR.out, if_neg]; rw [HOP2.out, beq_eq_false_iff_ne.2 c2]; simp)
    clear HR HOP2 c2
    go_wp2_with fail
    refine (NH.out _).mono ?_
    rintro e w' ⟨rfl, hw'⟩
    have hw' := hw'.symm
    subst hw'
    go_wp2_with fail
    refine bodyPost_ret (v := .tuple #[.agg #[.int .u8 0, .int .u64 0, .string ⟨#[]⟩], .int .i64 0]) (by simp [results, Tryz.results126, go_sem, *]) rfl ?_
    exact ⟨by rw [HRR.out]; rfl, ((HB7.out.setCell (Nat.le_refl _) _).setCell (Nat.le_refl _) _).setCell (Nat.le_refl _) _⟩
 ·have e1 : ((str (rdT (b, false) 3)).toList == [83, 65, 76]) = false := by rw [str_toList, beq_eq_false_iff_ne]; exact c1
  have q0 := (k1 0 _ rfl).1
  have q1 := (k1 1 _ rfl).1
  have q2 := (k1 2 _ rfl).1
  have z0 := (k1 0 _ rfl).2
  have z1 := (k1 1 _ rfl).2
  have z2 := (k1 2 _ rfl).2
  have HRR : Hid (R = .tuple #[packV 0 0 [], .int .i64 0]) := hid_of (by rw [HR.out, if_neg]; rw [HOP.out, beq_eq_false_iff_ne.2 c1]; simp)
  clear HR HOP k1 c1
  go_wp2_with fail
  refine bodyPost_ret (v := .tuple #[.agg #[.int .u8 0, .int .u64 0, .string ⟨#[]⟩], .int .i64 0]) (by simp [results, Tryz.results126, go_sem, *]) rfl ?_
  exact ⟨by rw [HRR.out]; rfl, ((HB1.out.setCell (Nat.le_refl _) _).setCell (Nat.le_refl _) _).setCell (Nat.le_refl _) _⟩
end Go.Proofs.YtonjphollmdicaaGreatDoor
namespace Go.Proofs.YtonjphollmdicaaGreatDoor
open Go.ChangeShapes Go.WideShapes Go.ChangeAt Go.RowKit
open Go.Maps (Keyed IsMap Tidy)
def rawE : Value → Option (DataW Value × List MemPlace) := fun v => some (.held v, [])
def atM (D : DataW Value) (kl : Lit) : Option Value := if Maps.has D kl then (match D.atKey kl .nil with | .held v => some v | _ => none) else none
theorem atKey_has {D : DataW Value} {kl : Lit} (h : Maps.has D kl = true) (z z' : DataW Value) : D.atKey kl z = D.atKey kl z' := by
 cases D with
 | map es =>
  rw [Maps.has_eq] at h
  obtain ⟨p, hp, hk⟩ := List.any_eq_true.1 h
  simp only [DataW.atKey]
  cases hf : es.find? (fun p => p.1.sameKey kl) with
  | none => exact absurd hk (by simpa using List.find?_eq_none.1 hf p hp)
  | some q => simp
 | _ => simp [Maps.has] at h
theorem atM_put_same {D : DataW Value} (hD : IsMap D) {k : Lit} (hk : WideAt.IsKeyLit k) (v : Value) : atM (D.put k (.held v)) k = some v := by
 unfold atM
 rw [Maps.has_put_same hD hk, Maps.atKey_put_same hD hk]
 rfl
theorem atM_put_other (D : DataW Value) {k k' : Lit} (hne : k' ≠ k) (d : DataW Value) : atM (D.put k d) k' = atM D k' := by
 unfold atM
 rw [Maps.has_put_other hne, Maps.atKey_put_other hne]
theorem atM_del_same (D : DataW Value) (k : Lit) : atM (D.del k) k = none := by
 unfold atM
 rw [Maps.has_del_same]
 rfl
theorem atM_del_other (D : DataW Value) {k k' : Lit} (hne : k' ≠ k) : atM (D.del k) k' = atM D k' := by
 unfold atM
 rw [Maps.has_del_other hne, Maps.atKey_del_other hne]
theorem atM_empty (k : Lit) : atM (.map []) k = none := by simp [atM, Maps.has]
section
variable {P : Program} {k : TypeId} {w : World} {b n : Nat} {D : DataW Value}
theorem atM_has (h : w.ownsMap P k rawE b n D) (K : Keyed P k) {t e : TypeId} (ht : P.underlying t = some (.map k e)) {z : Value} (hz : (zeroValue e).run P w = .ok z w) {key : Value} {kl : Lit} (hkey : keyOf P k key = some kl) : Maps.has D kl = (atM D kl).isSome ∧ (∀ z', D.atKey kl (.held z') = .held ((atM D kl).getD z')) := by
 obtain ⟨v, ps, _, hv⟩ := h.look_ok K ht hz (zd := .held z) (zp := []) rfl hkey
 unfold rawE at hv
 simp only [Option.some.injEq, Prod.mk.injEq] at hv
 unfold atM
 cases hh : Maps.has D kl with
 | false =>
  refine ⟨by simp, fun z' => ?_⟩
  rw [Maps.atKey_of_not_has hh]
  simp
 | true =>
  have e : ∀ d, D.atKey kl d = .held v := fun d => by rw [atKey_has hh d (.held z)]; exact hv.1.symm
  simp [e]
theorem own_look (h : w.ownsMap P k rawE b n D) (K : Keyed P k) {t e : TypeId} (ht : P.underlying t = some (.map k e)) {z : Value} (hz : (zeroValue e).run P w = .ok z w) {key : Value} {kl : Lit} (hkey : keyOf P k key = some kl) :
  (Instr.lookup t (.map (some b)) key false).run P w = .ok ((atM D kl).getD z) w := by
 obtain ⟨v, ps, hr, hv⟩ := h.lookup K ht hz (zd := .held z) (zp := []) rfl hkey
 unfold rawE at hv
 simp only [Option.some.injEq, Prod.mk.injEq] at hv
 have := (atM_has h K ht hz hkey).2 z
 rw [this] at hv
 simp only [DataW.held.injEq] at hv
 rw [← hv.1]
 exact hr
theorem own_look_ok (h : w.ownsMap P k rawE b n D) (K : Keyed P k) {t e : TypeId} (ht : P.underlying t = some (.map k e)) {z : Value} (hz : (zeroValue e).run P w = .ok z w) {key : Value} {kl : Lit} (hkey : keyOf P k key = some kl) :
  (Instr.lookup t (.map (some b)) key true).run P w = .ok (.tuple #[(atM D kl).getD z, .bool (atM D kl).isSome]) w := by
 obtain ⟨v, ps, hr, hv⟩ := h.look_ok K ht hz (zd := .held z) (zp := []) rfl hkey
 unfold rawE at hv
 simp only [Option.some.injEq, Prod.mk.injEq] at hv
 obtain ⟨h1, h2⟩ := atM_has h K ht hz hkey
 rw [h2 z] at hv
 simp only [DataW.held.injEq] at hv
 rw [← hv.1, ← h1]
 exact hr
end
section
variable {P : Program} (w : World) {ops : Array Oper} {rest : List Oper} {o : Oper} {a : Act} {Q : Exit → Act → World → Prop}
theorem wpList_look1 (hg : o.guard = none) (m x : Operand) (t : TypeId) (hop : o.op = Op.lookup t m x false)
  (k e : TypeId) (K : Keyed P k) (ht : P.underlying t = some (.map k e)) {z : Value} (hz : (zeroValue e).run P w = .ok z w) (b n : Nat) (D : DataW Value)
  (hm : a.eval m = .map (some b)) (hown : w.ownsMap P k rawE b n D) (key : Value) (kl : Lit) (hx : a.eval x = key) (hkey : keyOf P k key = some kl)
  (hK : wpList P ops Q rest (a.put o.dst ((atM D kl).getD z)) w) :
  wpList P ops Q (o :: rest) a w := by
 refine wpList_plain hg fun K' hK' => ?_
 have hrun := own_look hown K ht hz hkey
 unfold Oper.wp
 simp [execOp, hop, hm, hx, hrun, Result.andThen]
 exact hK' _ _ hK
theorem wpList_look2 (hg : o.guard = none) (m x : Operand) (t : TypeId) (hop : o.op = Op.lookup t m x true)
  (k e : TypeId) (K : Keyed P k) (ht : P.underlying t = some (.map k e)) {z : Value} (hz : (zeroValue e).run P w = .ok z w) (b n : Nat) (D : DataW Value)
  (hm : a.eval m = .map (some b)) (hown : w.ownsMap P k rawE b n D) (key : Value) (kl : Lit) (hx : a.eval x = key) (hkey : keyOf P k key = some kl)
  (hK : wpList P ops Q rest (a.put o.dst (.tuple #[(atM D kl).getD z, .bool (atM D kl).isSome])) w) :
  wpList P ops Q (o :: rest) a w := by
 refine wpList_plain hg fun K' hK' => ?_
 have hrun := own_look_ok hown K ht hz hkey
 unfold Oper.wp
 simp [execOp, hop, hm, hx, hrun, Result.andThen]
 exact hK' _ _ hK
theorem wpList_store (hg : o.guard = none) (m x v : Operand) (t : TypeId) (hop : o.op = Op.mapUpdate t m x v)
  (k e : TypeId) (K : Keyed P k) (ht : P.underlying t = some (.map k e)) (b n : Nat) (D : DataW Value)
  (hm : a.eval m = .map (some b)) (hown : w.ownsMap P k rawE b n D) (hn : n < maxLen) (key val : Value) (kl : Lit) (hx : a.eval x = key) (hv : a.eval v = val) (hkey : keyOf P k key = some kl)
  (hK : ∀ w', w'.ownsMap P k rawE b (n + 1) (D.put kl (.held val)) → Touch [b] w w' → wpList P ops Q rest (a.put o.dst undef) w') :
  wpList P ops Q (o :: rest) a w :=
 wpList_mapUpdate_own w hg m x v t hop k e K ht rawE b n D hm hown hn key val kl hx hv hkey (.held val) [] rfl (fun w' h1 h2 => hK w' h1 (Touch.of_grown h2))
theorem wpList_step (hg : o.guard = none) (it : Operand) (hop : o.op = Op.next it false) (k : TypeId) (q : IntKind) (K : Keyed P k) (hk : P.underlying k = some (.int q)) (b r n : Nat) (D : DataW Value) (left : Lit → Bool) (cnt : Nat)
  (hit : a.eval it = .pointer (some ⟨r, 0, none⟩)) (h : w.ranges P k rawE b r n D left cnt)
  (hDone : cnt = 0 → (∀ kl, left kl = false) → wpList P ops Q rest (a.put o.dst (.tuple #[.bool false])) w)
  (hMore : ∀ (x : Int) (v : Value) (w' : World) (cnt' : Nat), (Lit.int q x).wf = true → left (.int q x) = true → (∀ zd, D.atKey (.int q x) zd = .held v) → w'.ranges P k rawE b r n D (fun z => left z && !z.sameKey (.int q x)) cnt' → cnt' < cnt →
   w.grownBy w' (some r) → w'.heap.size = w.heap.size → (Instr.entry (.pointer (some ⟨r, 0, none⟩))).run P w' = .ok (.tuple #[.int q x, v]) w' → wpList P ops Q rest (a.put o.dst (.tuple #[.bool true, .int q x, v])) w') :
  wpList P ops Q (o :: rest) a w :=
 wpList_next_ranges w hg it hop k K rawE (Value.int q) (fun v => v) (fun key kl hkey => by obtain ⟨x, rfl, _⟩ := Maps.keyOf_int_inv hk hkey; exact ⟨x, rfl⟩) (fun v _ _ => ⟨v, rfl⟩)
  b r n D left cnt hit h hDone (fun x c kl y w' cnt' hkey hlk hv hat hrg hlt hgr hsz hen => by
   obtain ⟨x', ex, rfl, hwx⟩ := Maps.keyOf_int_inv hk hkey
   cases ex
   unfold rawE at hv
   simp only [Option.some.injEq] at hv
   subst hv
   exact hMore x c w' cnt' hwx hlk hat hrg hlt hgr hsz hen)
end
end Go.Proofs.YtonjphollmdicaaGreatDoor
namespace Go.Proofs.YtonjphollmdicaaGreatDoor
open Go.ChangeShapes Go.WideShapes Go.ChangeAt Go.RowKit
open Go.Maps (Keyed IsMap Tidy)
section
variable {P : Program} (w : World) {o : Oper} {a : Act} {K : Act → World → Prop} {Q : Exit → Act → World → Prop}
theorem wp_append_at (s x : Operand) (t : TypeId) (ho : o.op = .call { callee := .builtin .append, args := #[s, x], argTypes := #[t, t] })
  (base : Nat) (e : TypeId) (i : TypeInfo) (z : Value) (size bytes : Nat) (ht : P.underlying t = some (.slice e)) (hi : P.info? e = some i) (hz : i.zero = some z)
  (hsize : i.size = size) (hby : i.bytes = bytes) (hzs : z.cells.size = size) (hsz : 0 < size)
  (v : Value) (n : Nat) (xs : List Value) (hs : a.eval s = v) (hown : w.ownsRow base e size v n xs)
  (ad : Addr) (m c : Nat) (news : List Value) (hx : a.eval x = .slice (some ad) m c) (hl : news.length = m * size) (hnews : ∀ j u, news[j]? = some u → w.cell? (ad.add j) = some u) (h1 : ∀ u ∈ news, u.oneCell' = true)
  (h63 : n + m ≤ maxLen) (hbytes : (n + m) * bytes ≤ 140737488355328) (hbase : base ≤ w.heap.size)
  (h : ∀ v' w', w'.ownsRow base e size v' (n + m) (xs ++ news) → w.grownBy w' v.ownBlock → (v'.ownBlock = v.ownBlock ∨ v'.ownBlock = some w.heap.size) → K (a.put o.dst v') w') : o.wp P a w K Q := by
 obtain ⟨v', w', hr, h2, h3, _, h5⟩ := run_append_own_at (P := P) w base t o.type e i z size bytes ht hi hz hsize hby hzs hsz v n xs hown ad m c news hl hnews h1 h63 hbytes hbase
 unfold Oper.wp execOp
 simp only [ho, resolve, invoke, builtin, Sem.run_bind, Sem.run_pure, Result.andThen_ok, List.map_toArray, List.map_cons, List.map_nil, hs, hx, hr]
 exact h v' w' h2 h3 h5
theorem wp_mapUpdate (m x v : Operand) (t : TypeId) (hop : o.op = Op.mapUpdate t m x v)
  (k e : TypeId) (L : Keyed P k) (ht : P.underlying t = some (.map k e)) (b n : Nat) (D : DataW Value)
  (hm : a.eval m = .map (some b)) (hown : w.ownsMap P k rawE b n D) (hn : n < maxLen) (key val : Value) (kl : Lit) (hx : a.eval x = key) (hv : a.eval v = val) (hkey : keyOf P k key = some kl)
  (hK : ∀ w', w'.ownsMap P k rawE b (n + 1) (D.put kl (.held val)) → Touch [b] w w' → K (a.put o.dst undef) w') : o.wp P a w K Q := by
 obtain ⟨w', hrun, r1, r2⟩ := hown.update L ht hn hkey (rfl : rawE val = some (.held val, []))
 unfold Oper.wp
 simp [execOp, hop, hm, hx, hv, hrun, Result.andThen]
 exact hK w' r1 (Touch.of_grown r2)
end
def blkL (v : Value) : List Nat := match v.ownBlock with | some k => [k] | none => []
theorem blkL_mem {v : Value} {k : Nat} : k ∈ blkL v ↔ v.ownBlock = some k := by
 unfold blkL
 cases v.ownBlock with
 | none => simp
 | some j => simp [eq_comm]
theorem Touch.of_row {a b : World} {v : Value} (h : a.grownBy b v.ownBlock) : Touch (blkL v) a b := ⟨h.os, h.tape, h.output, h.size, fun i hi hL => h.block i hi (fun e => hL (blkL_mem.2 e.symm))⟩
end Go.Proofs.YtonjphollmdicaaGreatDoor
