import Derived.Test.YtonjphollmdicaaDoorB09
import Derived.Test.YtonjphollmdicaaDoorB10
import Derived.Test.YtonjphollmdicaaDoorB13
import Derived.Test.YtonjphollmdicaaDoorB15
namespace Go.Proofs.YtonjphollmdicaaDoor
open Go.ChangeShapes Go.WideShapes Go.ChangeAt Go.RowKit

def packV (k s : Nat) (b : List UInt8) : Value := .agg #[.int .u8 (k : Int), .int .u64 (s : Int), .string (str b)]
/-- what Open answers -/
def openV (t : List UInt8) : Value := if isOpen t then .tuple #[packV (oKind t) (oSet t) (oBody t), .int .i64 (((oAhead t).length + 8 : Nat) : Int)] else .tuple #[packV 0 0 [], .int .i64 0]

theorem numL_byte (l : List UInt8) (h : l.length ≤ 1) : numL l < 256 := by
  match l, h with
  | [], _ => decide
  | [x], _ => rw [numL_one]; exact x.toNat_lt

set_option linter.unusedSimpArgs false in
set_option maxRecDepth 100000 in
set_option maxHeartbeats 2000000 in
theorem Open_walk (b : List UInt8) (hb : b.length ≤ 1000000) (w : World) :
    Calls Tryd.prog 54 #[.string (str b)] w fun e w' => e = .returned (openV b) ∧ Below w.heap.size w w' := by
  have A1 : Hid (RdAt (w.heap.size + 1) (b, false) ((w.alloc (Obj.cells #[.int .u8 0, .int .u64 0, .string ⟨#[]⟩] 103)).alloc (Obj.cells #[Value.string (str b), Value.bool false] 145))) := hid_of ⟨by simp, by simp, by simp, by simp⟩
  have l1 : (oS1 b).1.length ≤ 1000000 := Nat.le_trans (rdS_len _ _) hb
  have l2 : (oS2 b).1.length ≤ 1000000 := Nat.le_trans (rdS_len _ _) l1
  have l3 : (oS3 b).1.length ≤ 1000000 := Nat.le_trans (rdS_len _ _) l2
  have l4 : (oS4 b).1.length ≤ 1000000 := Nat.le_trans (rdS_len _ _) l3
  have l5 : (oS5 b).1.length ≤ 1000000 := Nat.le_trans (rdS_len _ _) l4
  have l5' : (oS5 b).1.length ≤ b.length := Nat.le_trans (rdS_len _ _) (Nat.le_trans (rdS_len _ _) (Nat.le_trans (rdS_len _ _) (Nat.le_trans (rdS_len _ _) (rdS_len _ _))))
  have hk : oKind b < 256 := numL_byte _ (rdT_len _ _)
  have hn : oLen b < 65536 := numL_two _ (rdT_len _ _)
  have N1 : Hid (∀ W, RdAt (w.heap.size + 1) (b, false) W → Calls Tryd.prog 66 #[.pointer (some ⟨w.heap.size + 1, 0, none⟩), .int .i64 ((3 : Nat) : Int)] W fun e w' => e = .returned (.string (str (rdT (b, false) 3))) ∧ RdAt (w.heap.size + 1) (oS1 b) w' ∧ Touch [w.heap.size + 1] W w') := hid_of (fun W h => text_walk (w.heap.size + 1) (b, false) 3 hb W h)
  have N2 : Hid (∀ W, RdAt (w.heap.size + 1) (oS1 b) W → Calls Tryd.prog 67 #[.pointer (some ⟨w.heap.size + 1, 0, none⟩), .int .i64 ((1 : Nat) : Int)] W fun e w' => e = .returned (.int .u64 ((oKind b : Nat) : Int)) ∧ RdAt (w.heap.size + 1) (oS2 b) w' ∧ Touch [w.heap.size + 1] W w') := hid_of (fun W h => number_walk (w.heap.size + 1) (oS1 b) 1 l1 (by omega) W h)
  have N3 : Hid (∀ W, RdAt (w.heap.size + 1) (oS2 b) W → Calls Tryd.prog 67 #[.pointer (some ⟨w.heap.size + 1, 0, none⟩), .int .i64 ((8 : Nat) : Int)] W fun e w' => e = .returned (.int .u64 ((oSet b : Nat) : Int)) ∧ RdAt (w.heap.size + 1) (oS3 b) w' ∧ Touch [w.heap.size + 1] W w') := hid_of (fun W h => number_walk (w.heap.size + 1) (oS2 b) 8 l2 (by omega) W h)
  have N4 : Hid (∀ W, RdAt (w.heap.size + 1) (oS3 b) W → Calls Tryd.prog 67 #[.pointer (some ⟨w.heap.size + 1, 0, none⟩), .int .i64 ((2 : Nat) : Int)] W fun e w' => e = .returned (.int .u64 ((oLen b : Nat) : Int)) ∧ RdAt (w.heap.size + 1) (oS4 b) w' ∧ Touch [w.heap.size + 1] W w') := hid_of (fun W h => number_walk (w.heap.size + 1) (oS3 b) 2 l3 (by omega) W h)
  have N5 : Hid (∀ W, RdAt (w.heap.size + 1) (oS4 b) W → Calls Tryd.prog 66 #[.pointer (some ⟨w.heap.size + 1, 0, none⟩), .int .i64 ((oLen b : Nat) : Int)] W fun e w' => e = .returned (.string (str (oBody b))) ∧ RdAt (w.heap.size + 1) (oS5 b) w' ∧ Touch [w.heap.size + 1] W w') := hid_of (fun W h => text_walk (w.heap.size + 1) (oS4 b) (oLen b) l4 W h)
  have N6 : Hid (∀ W, RdAt (w.heap.size + 1) (oS5 b) W → Calls Tryd.prog 67 #[.pointer (some ⟨w.heap.size + 1, 0, none⟩), .int .i64 ((8 : Nat) : Int)] W fun e w' => e = .returned (.int .u64 ((oHash b : Nat) : Int)) ∧ RdAt (w.heap.size + 1) (oS6 b) w' ∧ Touch [w.heap.size + 1] W w') := hid_of (fun W h => number_walk (w.heap.size + 1) (oS5 b) 8 l5 (by omega) W h)
  have hal : (oAhead b).length ≤ 1000000 := by unfold oAhead; rw [List.length_take]; omega
  have NH : Hid (∀ W, Calls Tryd.prog 36 #[.string (str (oAhead b))] W fun e w' => e = .returned (.int .u64 ((hashL (oAhead b) : Nat) : Int)) ∧ w' = W) := hid_of (fun W => by simpa [str] using Hash_walk (str (oAhead b)) (by rw [str_size]; exact hal) W)
  have hahl : (oAhead b).length = b.length - (oS5 b).1.length := by unfold oAhead; rw [List.length_take]; omega
  have hex : (str b).extract 0 (b.length - (oS5 b).1.length) = str (oAhead b) := by rw [str_extract]; simp [oAhead]
  have hop : isOpen b = ((rdT (b, false) 3 == [83, 65, 76]) && !(oS6 b).2 && (oHash b == hashL (oAhead b))) := rfl
  obtain ⟨R, hR⟩ : ∃ R, R = openV b := ⟨_, rfl⟩
  have hR' : R = if isOpen b then .tuple #[packV (oKind b) (oSet b) (oBody b), .int .i64 (((oAhead b).length + 8 : Nat) : Int)] else .tuple #[packV 0 0 [], .int .i64 0] := hR
  have HR := hid_of hR'
  have HOP := hid_of hop
  rw [← hR]
  clear hR hR' hop l1 l2 l3 l4
  have wk : IntKind.u8.wrap (oKind b : Int) = (oKind b : Int) := by rw [IntKind.wrap_u8']; omega
  have wn : IntKind.i64.wrap (oLen b : Int) = (oLen b : Int) := by rw [IntKind.wrap_i64]; omega
  go_enter Tryd.func54, Tryd.ntmps54
  go_wp2_with fail
  refine (N1.out _ A1.out).mono ?_
  rintro e w1 ⟨rfl, hr1, ht1⟩
  have hsz1 : w.heap.size + 2 ≤ w1.heap.size := by have := ht1.size; simpa using this
  have hb1 : Below w.heap.size w w1 := Below.trans ((((Below.refl w.heap.size w).alloc (Nat.le_refl _) _).alloc (by simp) _)) (ht1.below (by simp; omega) (by simp))
  have k1 : Blk w1 w.heap.size [.int .u8 0, .int .u64 0, .string ⟨#[]⟩] := ((Blk.new w #[.int .u8 0, .int .u64 0, .string ⟨#[]⟩] 103).alloc _).touch ht1 (by simp)
  have HB1 := hid_of hb1
  have HR1 := hid_of hr1
  clear hb1 hr1 ht1 A1 N1
  by_cases c1 : rdT (b, false) 3 = [83, 65, 76]
  · have e1 : ((str (rdT (b, false) 3)).toList == [83, 65, 76]) = true := by rw [str_toList, c1]; rfl
    have HOP2 : Hid (isOpen b = (!(oS6 b).2 && (oHash b == hashL (oAhead b)))) := hid_of (by rw [HOP.out, c1]; rfl)
    clear HOP c1
    have K1 := hid_of k1
    clear k1
    go_wp2_with fail
    refine (N2.out _ HR1.out).mono ?_
    rintro e w2 ⟨rfl, hr2, ht2⟩
    go_wp2_with fail
    refine (N3.out _ hr2).mono ?_
    rintro e w3 ⟨rfl, hr3, ht3⟩
    have ht13 := ht2.trans ht3
    have hb3 : Below w.heap.size w w3 := HB1.out.trans (ht13.below (by omega) (by simp))
    have hs3 : w.heap.size + 2 ≤ w3.heap.size := Nat.le_trans hsz1 ht13.size
    have k3 := K1.out.touch ht13 (by simp)
    obtain ⟨V, hV⟩ : ∃ V, V = Obj.cells #[.int .u8 (oKind b : Int), .int .u64 (oSet b : Int), .string ⟨#[]⟩] 103 := ⟨_, rfl⟩
    have A4 : Hid (RdAt (w.heap.size + 1) (oS3 b) (w3.alloc (Obj.cells #[.int .u8 (oKind b : Int), .int .u64 (oSet b : Int), .string ⟨#[]⟩] 103))) := hid_of (hr3.touch ((Touch.refl [] _).alloc _) (by simp))
    have K4 := hid_of (k3.alloc (Obj.cells #[.int .u8 (oKind b : Int), .int .u64 (oSet b : Int), .string ⟨#[]⟩] 103))
    have G4 := hid_of (Blk.new w3 #[.int .u8 (oKind b : Int), .int .u64 (oSet b : Int), .string ⟨#[]⟩] 103)
    have B4 := hid_of (hb3.alloc (by omega) (Obj.cells #[.int .u8 (oKind b : Int), .int .u64 (oSet b : Int), .string ⟨#[]⟩] 103))
    clear ht2 ht3 ht13 hr2 hr3 hb3 k3 HB1 HR1 K1 N2 N3 hV V hsz1
    go_wp2_with fail
    refine (N4.out _ A4.out).mono ?_
    rintro e w5 ⟨rfl, hr5, ht5⟩
    go_wp2_with fail
    refine (N5.out _ hr5).mono ?_
    rintro e w6 ⟨rfl, hr6, ht6⟩
    obtain ⟨g, hg⟩ : ∃ g, g = w3.heap.size := ⟨_, rfl⟩
    have hgs : (w3.alloc (Obj.cells #[.int .u8 (oKind b : Int), .int .u64 (oSet b : Int), .string ⟨#[]⟩] 103)).heap.size = g + 1 := by simp [hg]
    rw [← hg] at G4 hs3 ⊢
    have ht46 := ht5.trans ht6
    have kq := K4.out.touch ht46 (by simp)
    have kg := G4.out.touch ht46 (by simp; omega)
    have hb6 : Below w.heap.size w w6 := B4.out.trans (ht46.below (by rw [hgs]; omega) (by simp))
    have hgw : g ≠ w.heap.size := by omega
    have hgw' : w.heap.size + 1 ≠ g := by omega
    have g2 := (kg 2 _ rfl).1
    have y2 := (kg 2 _ rfl).2
    have kg' := kg.set 2 (.string (str (oBody b)))
    have kq' := kq.set_other (a := ⟨g, 2, none⟩) hgw (.string (str (oBody b)))
    have hr' : RdAt (w.heap.size + 1) (oS5 b) (w6.setCell ⟨g, 2, none⟩ (.string (str (oBody b)))) := hr6.touch ((Touch.refl [g] _).setCell (.inl (by simp)) _) (by simpa using hgw')
    have hb' := hb6.setCell (show w.heap.size ≤ (⟨g, 2, none⟩ : Addr).block from by simp; omega) (.string (str (oBody b)))
    have hs' : g + 1 ≤ (w6.setCell ⟨g, 2, none⟩ (.string (str (oBody b)))).heap.size := by
      have := ht46.size
      rw [hgs] at this
      simpa using this
    simp only [List.set_cons_succ, List.set_cons_zero] at kg'
    have HRX := hid_of hr'
    obtain ⟨c0', c1', _, _⟩ := hr'
    have KG' := hid_of kg'
    have KQ' := hid_of kq'
    have HB' := hid_of hb'
    have HS' := hid_of hs'
    clear kg' kq' hb' hs'
    clear hr5 hr6 ht5 ht6 ht46 kq kg hb6 K4 G4 B4 A4 N4 N5 hgs hg
    have hbs := str_size b
    have h5s := str_size (oS5 b).1
    have wsub : IntKind.i64.wrap ((b.length : Int) - ((oS5 b).1.length : Int)) = ((b.length - (oS5 b).1.length : Nat) : Int) := by rw [IntKind.wrap_i64]; omega
    go_wp2_with fail
    refine (N6.out _ HRX.out).mono ?_
    rintro e w7 ⟨rfl, hr7, ht7⟩
    have kq := KQ'.out.touch ht7 (by simp)
    have kg := KG'.out.touch ht7 (by simpa using Ne.symm hgw')
    have hb7 : Below w.heap.size w w7 := HB'.out.trans (ht7.below (by have := HS'.out; omega) (by simp))
    obtain ⟨_, r1, _, _⟩ := hr7
    obtain ⟨g0, y0⟩ := kg 0 _ rfl
    obtain ⟨g1, y1⟩ := kg 1 _ rfl
    obtain ⟨g2', y2'⟩ := kg 2 _ rfl
    obtain ⟨q0, z0⟩ := kq 0 _ rfl
    obtain ⟨q1, z1⟩ := kq 1 _ rfl
    obtain ⟨q2, z2⟩ := kq 2 _ rfl
    have HB7 := hid_of hb7
    clear hb7 kq kg ht7 HRX KQ' KG' HB' HS' N6 c0' c1' g2 y2 hex wsub h5s hbs
    have w8 : IntKind.i64.wrap (((oAhead b).length : Int) + 8) = ((oAhead b).length : Int) + 8 := by rw [IntKind.wrap_i64]; omega
    have hahs := str_size (oAhead b)
    obtain ⟨k, hke⟩ : ∃ x, x = oKind b := ⟨_, rfl⟩
    obtain ⟨s, hse⟩ : ∃ x, x = oSet b := ⟨_, rfl⟩
    obtain ⟨bd, hbde⟩ : ∃ x, x = oBody b := ⟨_, rfl⟩
    obtain ⟨ah, hahe⟩ : ∃ x, x = oAhead b := ⟨_, rfl⟩
    obtain ⟨hs, hhse⟩ : ∃ x, x = oHash b := ⟨_, rfl⟩
    obtain ⟨sh, hshe⟩ : ∃ x, x = (oS6 b).2 := ⟨_, rfl⟩
    obtain ⟨hv, hhve⟩ : ∃ x, x = hashL ah := ⟨_, rfl⟩
    rw [← hahe] at NH w8 hahs HR HOP2 ⊢
    rw [← hhve] at NH HOP2
    rw [← hke] at g0 HR ⊢
    rw [← hse] at g1 HR ⊢
    rw [← hbde] at g2' HR ⊢
    rw [← hhse] at HOP2 ⊢
    rw [← hshe] at r1 HOP2
    clear hke hse hbde hahe hhse hshe hhve hk hn hal hahl wk wn l5 l5' hb hs3 e1
    cases sh with
    | true =>
      have HRR : Hid (R = .tuple #[packV 0 0 [], .int .i64 0]) := hid_of (by rw [HR.out, if_neg]; rw [HOP2.out]; simp)
      clear HR HOP2
      go_wp2_with fail
      refine bodyPost_ret (v := .tuple #[.agg #[.int .u8 0, .int .u64 0, .string ⟨#[]⟩], .int .i64 0]) (by simp [results, Tryd.results54, go_sem, *]) rfl ?_
      exact ⟨by rw [HRR.out]; rfl, ((HB7.out.setCell (Nat.le_refl _) _).setCell (Nat.le_refl _) _).setCell (Nat.le_refl _) _⟩
    | false =>
      by_cases c2 : hs = hv
      · have e2 : ((hs : Int) != (hv : Int)) = false := by simp [c2]
        have e3 : ((hs : Int) == (hv : Int)) = true := by simp [c2]
        have HRR : Hid (R = .tuple #[packV k s bd, .int .i64 ((ah.length : Int) + 8)]) := hid_of (by rw [HR.out, if_pos]; rfl; rw [HOP2.out, c2]; simp)
        clear HR HOP2 c2
        go_wp2_with fail
        refine (NH.out _).mono ?_
        rintro e w' ⟨rfl, hw'⟩
        have hw' := hw'.symm
        subst hw'
        go_wp2_with fail
        refine bodyPost_ret (v := .tuple #[.agg #[.int .u8 (k : Int), .int .u64 (s : Int), .string (str bd)], .int .i64 ((ah.length : Int) + 8)]) (by simp [results, Tryd.results54, go_sem, *]) rfl ?_
        exact ⟨by rw [HRR.out]; rfl, ((HB7.out.setCell (Nat.le_refl _) _).setCell (Nat.le_refl _) _).setCell (Nat.le_refl _) _⟩
      · have e2 : ((hs : Int) != (hv : Int)) = true := by simp; omega
        have e3 : ((hs : Int) == (hv : Int)) = false := by simp; omega
        have HRR : Hid (R = .tuple #[packV 0 0 [], .int .i64 0]) := hid_of (by rw [HR.out, if_neg]; rw [HOP2.out, beq_eq_false_iff_ne.2 c2]; simp)
        clear HR HOP2 c2
        go_wp2_with fail
        refine (NH.out _).mono ?_
        rintro e w' ⟨rfl, hw'⟩
        have hw' := hw'.symm
        subst hw'
        go_wp2_with fail
        refine bodyPost_ret (v := .tuple #[.agg #[.int .u8 0, .int .u64 0, .string ⟨#[]⟩], .int .i64 0]) (by simp [results, Tryd.results54, go_sem, *]) rfl ?_
        exact ⟨by rw [HRR.out]; rfl, ((HB7.out.setCell (Nat.le_refl _) _).setCell (Nat.le_refl _) _).setCell (Nat.le_refl _) _⟩
  · have e1 : ((str (rdT (b, false) 3)).toList == [83, 65, 76]) = false := by rw [str_toList, beq_eq_false_iff_ne]; exact c1
    have q0 := (k1 0 _ rfl).1
    have q1 := (k1 1 _ rfl).1
    have q2 := (k1 2 _ rfl).1
    have z0 := (k1 0 _ rfl).2
    have z1 := (k1 1 _ rfl).2
    have z2 := (k1 2 _ rfl).2
    have HRR : Hid (R = .tuple #[packV 0 0 [], .int .i64 0]) := hid_of (by rw [HR.out, if_neg]; rw [HOP.out, beq_eq_false_iff_ne.2 c1]; simp)
    clear HR HOP k1 c1
    go_wp2_with fail
    refine bodyPost_ret (v := .tuple #[.agg #[.int .u8 0, .int .u64 0, .string ⟨#[]⟩], .int .i64 0]) (by simp [results, Tryd.results54, go_sem, *]) rfl ?_
    exact ⟨by rw [HRR.out]; rfl, ((HB1.out.setCell (Nat.le_refl _) _).setCell (Nat.le_refl _) _).setCell (Nat.le_refl _) _⟩
end Go.Proofs.YtonjphollmdicaaDoor
namespace Go.Proofs.YtonjphollmdicaaDoor
open Go.ChangeShapes Go.WideShapes Go.ChangeAt Go.RowKit
open Go.Maps

theorem Tryd.lawByte : Keyed Tryd.prog 5 := int_keyed Tryd.underlying5
theorem Tryd.zeroPackets (w : World) : (zeroValue 101).run Tryd.prog w = .ok (.slice none 0 0) w := by kernel_rfl
theorem Tryd.infoPk : (Tryd.prog.info? 103).map (fun i => (i.zero, i.size, i.bytes)) = some (some (.agg #[.int .u8 0, .int .u64 0, .string ByteArray.empty]), 3, 32) := by kernel_rfl

theorem wf8 (k : UInt8) : (Lit.int .u8 (k.toNat : Int)).wf = true := by
  have := k.toNat_lt
  exact WalkArith.wf_u8 (by omega)

set_option linter.unusedSimpArgs false in
set_option maxRecDepth 100000 in
set_option maxHeartbeats 2000000 in
theorem add_walk (M n : Nat) (D : DataW Value) (base : Nat) (L : List FoundL) (v : Value) (f : FoundL) (w : World) (hn : n < 1000000000) (hl : L.length ≤ 1000000000) (hown : w.ownsMap Tryd.prog 5 rawE M n D) (hb : base ≤ w.heap.size) (hMb : M < base)
    (hat : (atM D (.int .u8 (f.kind.toNat : Int))).getD (.slice none 0 0) = v) (hv : w.ownsRow base 103 3 v L.length (foundsV L)) :
    Calls Tryd.prog 42 #[.map (some M), packV f.kind.toNat f.set f.body] w fun e w' => ∃ v', e = .returned (.tuple #[]) ∧ w'.ownsMap Tryd.prog 5 rawE M (n + 1) (D.put (.int .u8 (f.kind.toNat : Int)) (.held v')) ∧ w'.ownsRow base 103 3 v' (L.length + 1) (foundsV (L ++ [f])) ∧ Touch (M :: blkL v) w w' ∧ (v'.ownBlock = v.ownBlock ∨ ∃ j, v'.ownBlock = some j ∧ w.heap.size ≤ j) := by
  obtain ⟨i0, hi, hz0, hz1, hz2⟩ := info_parts Tryd.infoPk
  have hMlt := hown.lt
  have HOWN := hid_of hown
  have HAT := hid_of hat
  have HV := hid_of hv
  clear hown hat hv
  unfold packV
  obtain ⟨k, hk⟩ : ∃ k : Int, k = (f.kind.toNat : Int) := ⟨_, rfl⟩
  have hkey : keyOf Tryd.prog 5 (.int .u8 k) = some (.int .u8 k) := keyOf_int_mk Tryd.underlying5 (by rw [hk]; exact wf8 _)
  rw [← hk] at HAT ⊢
  have hsn := foundsV_snoc L f
  rw [← hk] at hsn
  have HSN := hid_of hsn
  have HKEY := hid_of hkey
  clear hk hsn hkey
  go_enter Tryd.func42, Tryd.ntmps42
  go_wp2_with fail
  obtain ⟨W9, hW9⟩ : ∃ W, W = ((w.alloc (Obj.cells #[Value.int IntKind.u8 k, Value.int IntKind.u64 (f.set : Int), Value.string (str f.body)] 103)).alloc (Obj.cells #[Value.int IntKind.u8 k, Value.int IntKind.u64 (f.set : Int), Value.string (str f.body)] 103)).drew := ⟨_, rfl⟩
  have ht9 : Touch [] w W9 := by rw [hW9]; exact (((Touch.refl [] w).alloc _).alloc _).drew
  have hs9 : W9.heap.size = w.heap.size + 2 := by rw [hW9]; simp
  have h9 : W9.ownsRow base 103 3 v L.length (foundsV L) := owns_touch HV.out ht9 (by simp)
  have hm9 : W9.ownsMap Tryd.prog 5 rawE M n D := HOWN.out.kept ht9.grown_none (by simp)
  have hc1 : ∀ j u, [Value.int .u8 k, .int .u64 (f.set : Int), .string (str f.body)][j]? = some u → W9.cell? ((⟨w.heap.size + 1, 0, none⟩ : Addr).add j) = some u := by
    have := three_new (w.alloc (Obj.cells #[Value.int IntKind.u8 k, Value.int IntKind.u64 (f.set : Int), Value.string (str f.body)] 103)) (.int .u8 k) (.int .u64 (f.set : Int)) (.string (str f.body)) 103
    rw [hW9]
    simpa using this
  have hcl : W9.cell? ⟨w.heap.size, 0, none⟩ = some (.int .u8 k) ∧ W9.cell? ⟨w.heap.size, 1, none⟩ = some (.int .u64 (f.set : Int)) ∧ W9.cell? ⟨w.heap.size, 2, none⟩ = some (.string (str f.body)) := by
    rw [hW9]
    exact ⟨by simp, by simp, by simp⟩
  have hvb : ∀ j, v.ownBlock = some j → base ≤ j ∧ j < w.heap.size := fun j hj => HV.out.lt j hj
  have hcq : ∀ {X Y : World} {T : List Nat}, Touch T X Y → w.heap.size < X.heap.size → w.heap.size ∉ T → (X.cell? ⟨w.heap.size, 0, none⟩ = some (.int .u8 k) ∧ X.cell? ⟨w.heap.size, 1, none⟩ = some (.int .u64 (f.set : Int)) ∧ X.cell? ⟨w.heap.size, 2, none⟩ = some (.string (str f.body))) → (Y.cell? ⟨w.heap.size, 0, none⟩ = some (.int .u8 k) ∧ Y.cell? ⟨w.heap.size, 1, none⟩ = some (.int .u64 (f.set : Int)) ∧ Y.cell? ⟨w.heap.size, 2, none⟩ = some (.string (str f.body))) := fun {X Y T} ht hlt hT h =>
    ⟨by rw [ht.cell (x := ⟨w.heap.size, 0, none⟩) hlt hT]; exact h.1, by rw [ht.cell (x := ⟨w.heap.size, 1, none⟩) hlt hT]; exact h.2.1, by rw [ht.cell (x := ⟨w.heap.size, 2, none⟩) hlt hT]; exact h.2.2⟩
  have haft : ∀ (v' : Value) (w' : World), W9.grownBy w' v.ownBlock → Touch (blkL v) w w' ∧ w'.ownsMap Tryd.prog 5 rawE M n D ∧ (w'.cell? ⟨w.heap.size, 0, none⟩ = some (.int .u8 k) ∧ w'.cell? ⟨w.heap.size, 1, none⟩ = some (.int .u64 (f.set : Int)) ∧ w'.cell? ⟨w.heap.size, 2, none⟩ = some (.string (str f.body))) := by
    intro v' w' hg
    refine ⟨(ht9.mono (by simp)).trans (Touch.of_row hg), hm9.kept hg (fun e => ?_), hcq (Touch.of_row hg) (by omega) (fun e => ?_) hcl⟩
    · have := hvb M e.symm
      omega
    · have := hvb _ (blkL_mem.1 e)
      omega
  have hfin : ∀ (v' : Value) (w' w'' : World), (w'.cell? ⟨w.heap.size, 0, none⟩ = some (.int .u8 k) ∧ w'.cell? ⟨w.heap.size, 1, none⟩ = some (.int .u64 (f.set : Int)) ∧ w'.cell? ⟨w.heap.size, 2, none⟩ = some (.string (str f.body))) → Touch [M] w' w'' → (w''.cell? ⟨w.heap.size, 0, none⟩ = some (.int .u8 k) ∧ w''.cell? ⟨w.heap.size, 1, none⟩ = some (.int .u64 (f.set : Int)) ∧ w''.cell? ⟨w.heap.size, 2, none⟩ = some (.string (str f.body))) :=
    fun v' w' w'' h ht => hcq ht (World.block_lt_of_cell? w' _ h.1) (by simp; omega) h
  have hrow : ∀ (v' : Value) (w' w'' : World), w'.ownsRow base 103 3 v' (L.length + 1) (foundsV L ++ [.int .u8 k, .int .u64 (f.set : Int), .string (str f.body)]) → (v'.ownBlock = v.ownBlock ∨ v'.ownBlock = some W9.heap.size) → Touch [M] w' w'' → w''.ownsRow base 103 3 v' (L.length + 1) (foundsV L ++ [.int .u8 k, .int .u64 (f.set : Int), .string (str f.body)]) :=
    fun v' w' w'' h _ ht => owns_touch h ht (by simpa using hMb)
  have H9 := hid_of h9
  have HC1 := hid_of hc1
  have HAFT := hid_of haft
  have HFIN := hid_of hfin
  have HROW := hid_of hrow
  have HCL := hid_of hcl
  have HT9 := hid_of ht9
  clear h9 hm9 hc1 haft hfin hrow hcl hvb hcq ht9
  have hlk : ∀ X : World, X.ownsMap Tryd.prog 5 rawE M n D → (Instr.lookup 95 (.map (some M)) (.int .u8 k) false).run Tryd.prog X = .ok v X := fun X hX => by
    have := own_look hX Tryd.lawByte Tryd.underlying95 (Tryd.zeroPackets X) HKEY.out
    rw [HAT.out] at this
    exact this
  have lk1 := hlk _ (HOWN.out.alloc (Obj.cells #[Value.int IntKind.u8 k, Value.int IntKind.u64 (f.set : Int), Value.string (str f.body)] 103))
  have lk2 := hlk _ (HOWN.out.alloc (Obj.cells #[Value.int IntKind.u8 k, Value.int IntKind.u64 (f.set : Int), Value.string (str f.body)] 103)).drew
  have lk3 := hlk _ ((HOWN.out.alloc (Obj.cells #[Value.int IntKind.u8 k, Value.int IntKind.u64 (f.set : Int), Value.string (str f.body)] 103)).alloc (Obj.cells #[Value.int IntKind.u8 k, Value.int IntKind.u64 (f.set : Int), Value.string (str f.body)] 103))
  have lk4 := hlk _ ((HOWN.out.alloc (Obj.cells #[Value.int IntKind.u8 k, Value.int IntKind.u64 (f.set : Int), Value.string (str f.body)] 103)).alloc (Obj.cells #[Value.int IntKind.u8 k, Value.int IntKind.u64 (f.set : Int), Value.string (str f.body)] 103)).drew
  clear hlk
  refine wp_region_held_drew (S := fun X => X.cell? ⟨w.heap.size, 0, none⟩ = some (.int .u8 k) ∧ X.cell? ⟨w.heap.size, 1, none⟩ = some (.int .u64 (f.set : Int)) ∧ X.cell? ⟨w.heap.size, 2, none⟩ = some (.string (str f.body))) (by kernel_rfl) ⟨by simp, by simp, by simp⟩ (fun hHeld => ?_)
  (refine tY 0 4 ?v1 ?a1 rfl (by kernel_rfl) (by rfl) (fun _ _ _ h => h) ?y1 (by assumption) rfl ?p1 ?_; (case y1 => (intro w hSw; (try dsimp only at hSw); simp only [gA, gB, gC, gD, gE]; go_simp; (try with_reducible rfl))); (case p1 => (simp only [Act.put, sA, sB, sC]; try rfl)))
  (refine tY 1 5 ?v2 ?a2 rfl (by kernel_rfl) (by rfl) (fun _ _ _ h => h) ?y2 (by assumption) rfl ?p2 ?_; (case y2 => (intro w hSw; (try dsimp only at hSw); simp only [gA, gB, gC, gD, gE]; go_simp; (try with_reducible rfl))); (case p2 => (simp only [Act.put, sA, sB, sC]; try rfl)))
  (refine tY 2 6 ?v3 ?a3 rfl (by kernel_rfl) (by rfl) (fun _ _ _ h => h) ?y3 (by assumption) rfl ?p3 ?_; (case y3 => (intro w hSw; (try dsimp only at hSw); simp only [gA, gB, gC, gD, gE]; go_simp; (try with_reducible rfl))); (case p3 => (simp only [Act.put, sA, sB, sC]; try rfl)))
  (refine tY 3 7 ?v4 ?a4 rfl (by kernel_rfl) (by rfl) (fun _ _ _ h => h) ?y4 (by assumption) rfl ?p4 ?_; (case y4 => (intro w hSw; (try dsimp only at hSw); simp only [gA, gB, gC, gD, gE]; go_simp; (try with_reducible rfl))); (case p4 => (simp only [Act.put, sA, sB, sC]; try rfl)))
  (refine tY 4 8 ?v5 ?a5 rfl (by kernel_rfl) (by rfl) (fun _ _ _ h => h) ?y5 (by assumption) rfl ?p5 ?_; (case y5 => (intro w hSw; (try dsimp only at hSw); simp only [gA, gB, gC, gD, gE]; go_simp; (try with_reducible rfl))); (case p5 => (simp only [Act.put, sA, sB, sC]; try rfl)))
  (refine tY 5 9 ?v6 ?a6 rfl (by kernel_rfl) (by rfl) (fun _ _ _ h => h) ?y6 (by assumption) rfl ?p6 ?_; (case y6 => (intro w hSw; (try dsimp only at hSw); simp only [gA, gB, gC, gD, gE]; go_simp; (try with_reducible rfl))); (case p6 => (simp only [Act.put, sA, sB, sC]; try rfl)))
  (refine tY 7 11 ?v7 ?a7 rfl (by kernel_rfl) (by rfl) (fun _ _ _ h => h) ?y7 (by assumption) rfl ?p7 ?_; (case y7 => (intro w hSw; (try dsimp only at hSw); simp only [gA, gB, gC, gD, gE]; go_simp; (try with_reducible rfl))); (case p7 => (simp only [Act.put, sA, sB, sC]; try rfl)))
  refine step_two (i := 6) (j := 8) (by kernel_rfl) (fun K o ho hK => ?_) (fun K o ho hK => ?_)
  focus
    simp only [List.getElem?_toArray, List.getElem?_cons_succ, List.getElem?_cons_zero, Option.some.injEq] at ho
    subst ho
    go_simp
    refine hK.out _ _ ?_ (fun hHeld => ?_)
    focus exact ⟨by simp, by simp, by simp⟩
    clear hK K
    try simp only [Act.put, List.setIfInBounds_toArray, List.set_cons_zero, List.set_cons_succ]
    refine step_one (i := 8) (by kernel_rfl) (fun K o ho hK => ?_)
    simp only [List.getElem?_toArray, List.getElem?_cons_succ, List.getElem?_cons_zero, Option.some.injEq] at ho
    subst ho
    go_simp
    refine hK.out _ _ ?_ (fun hHeld => ?_)
    focus exact ⟨by simp, by simp, by simp⟩
    clear hK K
    try simp only [Act.put, List.setIfInBounds_toArray, List.set_cons_zero, List.set_cons_succ]
    rw [← hW9]
    refine step_one (i := 9) (by kernel_rfl) (fun K o ho hK => ?_)
    simp only [List.getElem?_toArray, List.getElem?_cons_succ, List.getElem?_cons_zero, Option.some.injEq] at ho
    subst ho
    rw [if_pos (by rfl)]
    refine wp_append_at _ (.tmp 10) (.tmp 12) 101 rfl base 103 i0 (.agg #[.int .u8 0, .int .u64 0, .string ByteArray.empty]) 3 32 Tryd.underlying101 hi hz0 hz1 hz2 rfl (by decide) v L.length (foundsV L) rfl H9.out ⟨w.heap.size + 1, 0, none⟩ 1 1 [.int .u8 k, .int .u64 (f.set : Int), .string (str f.body)] rfl rfl HC1.out ?c2 (by unfold maxLen; omega) (by omega) (by omega) ?_
    case c2 =>
      intro u hu
      simp at hu
      rcases hu with rfl | rfl | rfl <;> rfl
    intro v' w' hown' hg hloc
    obtain ⟨ht', hm', hc'⟩ := HAFT.out v' w' hg
    refine hK.out _ _ ?_ (fun hHeld => ?_)
    focus exact hc'
    clear hK K
    try simp only [Act.put, List.setIfInBounds_toArray, List.set_cons_zero, List.set_cons_succ]
    refine step_one (i := 10) (by kernel_rfl) (fun K o ho hK => ?_)
    simp only [List.getElem?_toArray, List.getElem?_cons_succ, List.getElem?_cons_zero, Option.some.injEq] at ho
    subst ho
    rw [if_pos (by rfl)]
    refine wp_mapUpdate _ (.tmp 4) (.tmp 6) (.tmp 13) 95 rfl 5 101 Tryd.lawByte Tryd.underlying95 M n D rfl hm' (by unfold maxLen; omega) _ v' _ rfl rfl HKEY.out ?_
    intro w'' hm'' ht''
    refine hK.out _ _ ?_ (fun hHeld => ?_)
    focus exact HFIN.out v' w' w'' hc' ht''
    clear hK K
    try simp only [Act.put, List.setIfInBounds_toArray, List.set_cons_zero, List.set_cons_succ]
    refine wpAnyH_done (by kernel_rfl) ?_ _
    go_wp2_with fail
    go_end0
    exact ⟨v', rfl, hm'', by rw [HSN.out]; exact HROW.out v' w' w'' hown' hloc ht'', (ht'.mono (by simp +contextual)).trans (ht''.mono (by simp +contextual)), hloc.imp id (fun h => ⟨_, h, by omega⟩)⟩
  focus
    simp only [List.getElem?_toArray, List.getElem?_cons_succ, List.getElem?_cons_zero, Option.some.injEq] at ho
    subst ho
    go_simp
    refine hK.out _ _ ?_ (fun hHeld => ?_)
    focus exact ⟨by simp, by simp, by simp⟩
    clear hK K
    try simp only [Act.put, List.setIfInBounds_toArray, List.set_cons_zero, List.set_cons_succ]
    refine step_one (i := 6) (by kernel_rfl) (fun K o ho hK => ?_)
    simp only [List.getElem?_toArray, List.getElem?_cons_succ, List.getElem?_cons_zero, Option.some.injEq] at ho
    subst ho
    go_simp
    refine hK.out _ _ ?_ (fun hHeld => ?_)
    focus exact ⟨by simp, by simp, by simp⟩
    clear hK K
    try simp only [Act.put, List.setIfInBounds_toArray, List.set_cons_zero, List.set_cons_succ]
    rw [← hW9]
    refine step_one (i := 9) (by kernel_rfl) (fun K o ho hK => ?_)
    simp only [List.getElem?_toArray, List.getElem?_cons_succ, List.getElem?_cons_zero, Option.some.injEq] at ho
    subst ho
    rw [if_pos (by rfl)]
    refine wp_append_at _ (.tmp 10) (.tmp 12) 101 rfl base 103 i0 (.agg #[.int .u8 0, .int .u64 0, .string ByteArray.empty]) 3 32 Tryd.underlying101 hi hz0 hz1 hz2 rfl (by decide) v L.length (foundsV L) rfl H9.out ⟨w.heap.size + 1, 0, none⟩ 1 1 [.int .u8 k, .int .u64 (f.set : Int), .string (str f.body)] rfl rfl HC1.out ?c2 (by unfold maxLen; omega) (by omega) (by omega) ?_
    case c2 =>
      intro u hu
      simp at hu
      rcases hu with rfl | rfl | rfl <;> rfl
    intro v' w' hown' hg hloc
    obtain ⟨ht', hm', hc'⟩ := HAFT.out v' w' hg
    refine hK.out _ _ ?_ (fun hHeld => ?_)
    focus exact hc'
    clear hK K
    try simp only [Act.put, List.setIfInBounds_toArray, List.set_cons_zero, List.set_cons_succ]
    refine step_one (i := 10) (by kernel_rfl) (fun K o ho hK => ?_)
    simp only [List.getElem?_toArray, List.getElem?_cons_succ, List.getElem?_cons_zero, Option.some.injEq] at ho
    subst ho
    rw [if_pos (by rfl)]
    refine wp_mapUpdate _ (.tmp 4) (.tmp 6) (.tmp 13) 95 rfl 5 101 Tryd.lawByte Tryd.underlying95 M n D rfl hm' (by unfold maxLen; omega) _ v' _ rfl rfl HKEY.out ?_
    intro w'' hm'' ht''
    refine hK.out _ _ ?_ (fun hHeld => ?_)
    focus exact HFIN.out v' w' w'' hc' ht''
    clear hK K
    try simp only [Act.put, List.setIfInBounds_toArray, List.set_cons_zero, List.set_cons_succ]
    refine wpAnyH_done (by kernel_rfl) ?_ _
    go_wp2_with fail
    go_end0
    exact ⟨v', rfl, hm'', by rw [HSN.out]; exact HROW.out v' w' w'' hown' hloc ht'', (ht'.mono (by simp +contextual)).trans (ht''.mono (by simp +contextual)), hloc.imp id (fun h => ⟨_, h, by omega⟩)⟩

def nilSl : Value := .slice none 0 0
/-- the packets that were found, piled by their kinds -/
def Pile (w : World) (M base : Nat) (l : List FoundL) : Prop := ∃ (n : Nat) (D : DataW Value) (V : UInt8 → Value), n ≤ l.length ∧ w.ownsMap Tryd.prog 5 rawE M n D ∧
  (∀ k, (atM D (.int .u8 (k.toNat : Int))).getD nilSl = V k ∧ w.ownsRow base 103 3 (V k) (l.filter (·.kind == k)).length (foundsV (l.filter (·.kind == k)))) ∧
  (∀ k k' j, k ≠ k' → (V k).ownBlock = some j → (V k').ownBlock ≠ some j)
theorem lit8_ne {k k' : UInt8} (h : k ≠ k') : Lit.int .u8 (k.toNat : Int) ≠ Lit.int .u8 (k'.toNat : Int) := fun e => by
  simp only [Lit.int.injEq, true_and] at e
  exact h (UInt8.toNat_inj.1 (by exact_mod_cast e))
theorem isKeyLit8 (k : UInt8) : WideAt.IsKeyLit (Lit.int .u8 (k.toNat : Int)) := by trivial

theorem Pile.lt {w : World} {M base : Nat} {l : List FoundL} (h : Pile w M base l) : M < w.heap.size := by
  obtain ⟨n, D, V, _, h1, _⟩ := h
  exact h1.lt
theorem Pile.touch {w w' : World} {M base : Nat} {l : List FoundL} (h : Pile w M base l) {L : List Nat} (ht : Touch L w w') (hL : ∀ x ∈ L, x < base ∧ x ≠ M) : Pile w' M base l := by
  obtain ⟨n, D, V, hn, h1, h2, h3⟩ := h
  have hblk : w'.heap[M]? = w.heap[M]? := ht.block M h1.lt (fun e => (hL M e).2 rfl)
  refine ⟨n, D, V, hn, ?_, fun k => ⟨(h2 k).1, owns_touch (h2 k).2 ht (fun x hx => (hL x hx).1)⟩, h3⟩
  obtain ⟨es, clock, hb, F, hs, hD⟩ := h1
  exact ⟨es, clock, hblk.trans hb, F, hs, hD⟩
theorem Pile.later {w w' : World} {M base : Nat} {l : List FoundL} (h : Pile w M base l) (hb : Below w.heap.size w w') : Pile w' M base l := h.touch (Touch.of_below hb []) (by simp)

theorem pile_add (M base : Nat) (l : List FoundL) (f : FoundL) (w : World) (hl : l.length < 1000000000) (hb : base ≤ w.heap.size) (hMb : M < base) (hp : Pile w M base l) :
    Calls Tryd.prog 42 #[.map (some M), packV f.kind.toNat f.set f.body] w fun e w' => e = .returned (.tuple #[]) ∧ Pile w' M base (l ++ [f]) ∧ Below M w w' := by
  obtain ⟨n, D, V, hn, h1, h2, h3⟩ := hp
  have hlf : (l.filter (·.kind == f.kind)).length ≤ l.length := List.length_filter_le _ _
  refine (add_walk M n D base (l.filter (·.kind == f.kind)) (V f.kind) f w (by omega) (by omega) h1 hb hMb (h2 f.kind).1 (h2 f.kind).2).mono ?_
  rintro e w' ⟨v', rfl, hm', ho', ht', hloc⟩
  have hvb : ∀ k j, (V k).ownBlock = some j → base ≤ j ∧ j < w.heap.size := fun k j hj => (h2 k).2.lt j hj
  refine ⟨rfl, ⟨n + 1, _, fun k => if k = f.kind then v' else V k, by simp; omega, hm', fun k => ?_, ?_⟩, ht'.below (by omega) (fun x hx => ?_)⟩
  · by_cases hk : k = f.kind
    · subst hk
      simp only [if_pos]
      rw [atM_put_same h1.isMap (isKeyLit8 _)]
      refine ⟨rfl, ?_⟩
      rw [List.filter_append, List.filter_cons]
      simp only [beq_self_eq_true, if_pos, List.filter_nil, List.length_append, List.length_cons, List.length_nil]
      exact ho'
    · simp only [if_neg hk]
      rw [atM_put_other _ (lit8_ne hk)]
      refine ⟨(h2 k).1, ?_⟩
      rw [List.filter_append, List.filter_cons, beq_eq_false_iff_ne.2 (Ne.symm hk)]
      simp only [Bool.false_eq_true, if_false, List.filter_nil, List.append_nil]
      refine owns_touch' (h2 k).2 ht' (fun j hj hm => ?_)
      rw [List.mem_cons, blkL_mem] at hm
      rcases hm with e | e
      · have := hvb k j hj
        omega
      · exact h3 k f.kind j hk hj e
  · intro k k' j hne hj hj'
    by_cases hk : k = f.kind
    · subst hk
      simp only [if_pos, if_neg (Ne.symm hne)] at hj hj'
      rcases hloc with e | ⟨i, e, hi⟩
      · rw [hj] at e
        exact h3 f.kind k' j hne e.symm hj'
      · rw [hj] at e
        cases e
        have := hvb k' j hj'
        omega
    · simp only [if_neg hk] at hj
      by_cases hk' : k' = f.kind
      · subst hk'
        simp only [if_pos] at hj'
        rcases hloc with e | ⟨i, e, hi⟩
        · rw [hj'] at e
          exact h3 k f.kind j hne hj e.symm
        · rw [hj'] at e
          cases e
          have := hvb k j hj
          omega
      · simp only [if_neg hk'] at hj'
        exact h3 k k' j hne hj hj'
  · rw [List.mem_cons, blkL_mem] at hx
    rcases hx with e | e
    · omega
    · have := hvb f.kind x e
      omega
end Go.Proofs.YtonjphollmdicaaDoor
