import Derived.Test.YtonjphollmdicaaGreatDoorB30
set_option maxRecDepth 100000
set_option maxHeartbeats 4000000
set_option linter.unusedSimpArgs false
namespace Go.Proofs.YtonjphollmdicaaGreatDoor
open Go.ChangeShapes Go.WideShapes Go.ChangeAt Go.RowKit
open Go.Maps
theorem Tryz.infoBool : (Tryz.prog.info? 4).map (fun i => (i.zero, i.size, i.bytes)) = some (some (.bool false), 1, 1) := by kernel_rfl
def QM (fs : List Ak) (f : FoundL) : Nat := D6 (AW f.body) (Bh f.body) (BQ f.body) fs
def En (fs : List Ak) (L : List FoundL) : List Value := L.map fun f => .int .i64 (QM fs f : Int)
def KN (l : List Bool) : List Value := l.map Value.bool
theorem Gz {w : World} {b b' : Nat} {e : TypeId} {sz : Nat} {v : Value} {n : Nat} {xs : List Value} (h : w.ownsRow b e sz v n xs) (hb : b' ≤ b) : w.ownsRow b' e sz v n xs := by
  obtain ⟨h1, h2⟩ := h
  refine ⟨h1, ?_⟩
  rcases h2 with h | ⟨g, cap, cur, h3, h4, h5⟩
  · exact .inl h
  · exact .inr ⟨g, cap, cur, h3, Nat.le_trans hb h4, h5⟩
def Dw (n : Nat) (ss : List Nat) : List Value := (List.range n).map fun i => .bool (decide (i ∈ ss))
theorem Mb (n : Nat) : (madeCells #[Value.bool false] n).toList = Dw n [] := by
  apply List.ext_getElem?
  intro i
  by_cases h : i < n
  · simp [Dw, madeCells, h, Nat.mod_one]
  · rw [List.getElem?_eq_none (by simp [madeCells]; omega), List.getElem?_eq_none (by simp [Dw]; omega)]
theorem P6 (n : Nat) (ss : List Nat) (i : Nat) : (Dw n ss).set i (.bool true) = Dw n (ss ++ [i]) := by
  apply List.ext_getElem?
  intro j
  by_cases h : j < n
  · by_cases c : j = i
    · subst c
      rw [List.getElem?_set_self (by simp [Dw]; exact h)]
      simp [Dw, h]
    · rw [List.getElem?_set_ne (Ne.symm c)]
      simp [Dw, h, c]
  · rw [List.getElem?_eq_none (by simp [Dw]; omega), List.getElem?_eq_none (by simp [Dw]; omega)]
theorem MN (sz : Nat) (fa : Option Addr) (fc : Nat) (L : List FoundL) (hs : List Nat) (N base c : Nat) (D : DataW Value) (Q : List (List UInt8)) (ea : Option Addr) (en ec : Nat) (fs : List Ak) (a : Option Addr) (ca : Nat) (hn : hs.length ≤ 1000) (hL : L.length ≤ 1000) (hfn : fs.length ≤ 1000) (hf : ∀ f ∈ fs, f.2.length ≤ 1000000) (w : World) (hFR : FRow w base fa L) (hF : FoundM w N c D hs Q) (hrd : Rd w a (As fs)) :
    Calls Tryz.prog 42 #[.agg #[.int .i64 (sz : Int), .slice fa L.length fc, .int .i64 (hs.length : Int), .map (some N), .slice ea en ec], .slice a fs.length ca] w fun e w' => ∃ sv pv, e = .returned (.agg #[sv, pv, .int .i64 ((hs.length - Dr Q hs : Nat) : Int), .int .i64 (en : Int)]) ∧
      w'.ownsRow (w.heap.size + 2) 3 1 sv L.length (En fs L) ∧ w'.ownsRow (w.heap.size + 2) 4 1 pv hs.length (KN (Kq Q hs)) ∧ Below w.heap.size w w' := by
  obtain ⟨i0, hi, hz0, hz1, hz2⟩ := info_parts Tryz.infoI64'
  obtain ⟨j0, hj, hy0, hy1, hy2⟩ := info_parts Tryz.infoBool
  have HFR := Aa hFR
  have HF := Aa hF
  have HRD := Aa hrd
  have HFB := Aa hf
  clear hFR hF hrd hf
  go_enter Tryz.func42, Tryz.ntmps42
  obtain ⟨RV, hRV⟩ : ∃ x, x = [Value.int .i64 (sz : Int), .slice fa L.length fc, .int .i64 (hs.length : Int), .map (some N), .slice ea en ec] := ⟨_, rfl⟩
  have kR : Blk ((w.alloc (Obj.cells #[Value.int .i64 (sz : Int), .slice fa L.length fc, .int .i64 (hs.length : Int), .map (some N), .slice ea en ec] 92)).alloc (Obj.cells #[Value.slice none 0 0, .slice none 0 0, .int .i64 0, .int .i64 0] 34)) w.heap.size RV := by rw [hRV]; exact (Blk.new w _ _).alloc _
  have kQ : Blk ((w.alloc (Obj.cells #[Value.int .i64 (sz : Int), .slice fa L.length fc, .int .i64 (hs.length : Int), .map (some N), .slice ea en ec] 92)).alloc (Obj.cells #[Value.slice none 0 0, .slice none 0 0, .int .i64 0, .int .i64 0] 34)) (w.heap.size + 1) [Value.slice none 0 0, .slice none 0 0, .int .i64 0, .int .i64 0] := by
    have := Blk.new (w.alloc (Obj.cells #[Value.int .i64 (sz : Int), .slice fa L.length fc, .int .i64 (hs.length : Int), .map (some N), .slice ea en ec] 92)) #[Value.slice none 0 0, .slice none 0 0, .int .i64 0, .int .i64 0] 34
    simpa using this
  have hb1 : Below w.heap.size w ((w.alloc (Obj.cells #[Value.int .i64 (sz : Int), .slice fa L.length fc, .int .i64 (hs.length : Int), .map (some N), .slice ea en ec] 92)).alloc (Obj.cells #[Value.slice none 0 0, .slice none 0 0, .int .i64 0, .int .i64 0] 34)) := ((Below.refl _ _).alloc (Nat.le_refl _) _).alloc (by simp) _
  have HKR := Aa kR
  have HKQ := Aa kQ
  have HB1 := Aa hb1
  clear kR kQ hb1
  go_wp2_with (at_make; refine wpList_make_full _ rfl _ _ 31 rfl (w.heap.size + 2) 3 i0 (.int .i64 0) 1 Tryz.underlying31 hi hz0 hz1 .i64 .i64 _ _ L.length rfl rfl rfl rfl (by rw [hz2]; omega) (by unfold maxLen; omega) (by simp) ?_)
  intro w1 hown1 hg1
  have hs1 : w.heap.size + 3 ≤ w1.heap.size := by
    have := (hown1.lt (w.heap.size + 2) (by simp [Value.ownBlock])).2
    omega
  have ht1 : Touch [] _ w1 := ⟨hg1.os, hg1.tape, hg1.output, hg1.size, fun i hi _ => hg1.block i hi (by simp)⟩
  have HKR1 := Aa (HKR.out.touch ht1 (by simp))
  have HKQ1 := Aa (HKQ.out.touch ht1 (by simp))
  have HB2 := Aa (HB1.out.grown hg1 (by simp; omega) (by simp))
  have HO1 := Aa hown1
  have hsz : ((w.alloc (Obj.cells #[Value.int .i64 (sz : Int), .slice fa L.length fc, .int .i64 (hs.length : Int), .map (some N), .slice ea en ec] 92)).alloc (Obj.cells #[Value.slice none 0 0, .slice none 0 0, .int .i64 0, .int .i64 0] 34)).heap.size = w.heap.size + 1 + 1 := by simp
  try rw [hsz] at HO1
  obtain ⟨S, hS⟩ : ∃ x, x = w.heap.size + 1 + 1 := ⟨_, rfl⟩
  rw [← hS] at HO1 ⊢
  have hS2 : w.heap.size + 2 = S := by omega
  have HS2 := Aa hS2
  have hs1 : S + 1 ≤ w1.heap.size := by omega
  have hSw : w.heap.size + 1 < S := by omega
  clear hown1 hg1 ht1 HKR HKQ HB1 hsz hS hS2
  rw [hRV] at HKR1
  have r1 := (HKR1.out 1 _ rfl).1
  go_wp2_with fail
  clear r1
  go_loopw [17] (fun i W => ∃ (k : Nat) (xs : List Value), k ≤ L.length ∧ i = .int .i64 (k : Int) ∧ W.ownsRow S 3 1 (.slice (some ⟨S, 0, none⟩) L.length L.length) L.length xs ∧ Hid (xs.take k = En fs (L.take k)) ∧ Touch [S] w1 W)
    (fun i _ => L.length - (intOf i).toNat)
  case atStart => exact ⟨0, _, by omega, rfl, HO1.out, Aa (by simp [En]), Touch.refl _ _⟩
  case round =>
    clear HO1
    obtain ⟨k, xs, hk, rfl, hrow, HX, hto⟩ := hrel
    have hbl : Below w.heap.size w wr := HB2.out.trans (hto.below (by omega) (by simp; omega))
    by_cases hlt : k < L.length
    · obtain ⟨bb, off, sa, sc, rfl, c0, c1, c2, c3, c4, c5⟩ := HFR.out.later hbl k hlt
      have hsn := Ap L k hlt
      obtain ⟨f, hf⟩ : ∃ f, f = L[k] := ⟨_, rfl⟩
      rw [← hf] at c0 c1 c2 c3 c4 c5 hsn
      have hSt := Aa (fun W (hW : Below w.heap.size w W) => LU (Av f.body : Int) (AW f.body) (Bh f.body) (BQ f.body) sa (Ai f.body).length sc fs a ca hfn HFB.out W (HRD.out.later (Nat.le_refl _) hW))
      have HSN := Aa hsn
      have HB := Aa hbl
      have HT := Aa hto
      have HRW := Aa hrow
      have hszr : S + 1 ≤ wr.heap.size := by have := hto.size; omega
      clear hf hsn hbl c5 hto hrow
      go_wp2_with fail
      refine (hSt.out _ (HB.out.alloc HB.out.size _)).mono ?_
      rintro e w3 ⟨rfl, hb3⟩
      have ht3 := ((Touch.refl [] wr).alloc (Obj.cells #[Value.int IntKind.i64 (Av f.body : Int), Value.string (str (AW f.body)), Value.int IntKind.i64 (Bh f.body : Int), Value.int IntKind.u64 (BQ f.body : Int), Value.slice sa (Ai f.body).length sc] 143)).trans (Touch.of_below hb3 [])
      have hr3 := Ac HRW.out ht3 (by simp)
      have hxl : xs.length = L.length := by have := hr3.1; simpa using this
      obtain ⟨o0, p0⟩ : ∃ u, w3.cell? ⟨S, k, none⟩ = some u := ⟨xs[k]'(by omega), by rw [hr3.cellAt k (by omega)]; simp [show k < xs.length from by omega]⟩
      have q0 := hr3.frozenAt k
      have hr4 := (hr3.stored k (.int .i64 (QM fs f : Int))).1
      have ht4 := HT.out.trans ((ht3.mono (by simp)).trans ((Touch.refl [S] w3).setCell (x := ⟨S, k, none⟩) (.inl (by simp)) (.int .i64 (QM fs f : Int))))
      have HX' : Hid ((xs.set k (.int .i64 (QM fs f : Int))).take (k + 1) = En fs (L.take (k + 1))) := Aa (by
        rw [HSN.out]
        have e : En fs (L.take k ++ [f]) = En fs (L.take k) ++ [.int .i64 (QM fs f : Int)] := by simp [En]
        rw [e, ← HX.out]
        apply List.ext_getElem?
        intro i
        by_cases h1 : i < k
        · rw [List.getElem?_take_of_lt (by omega), List.getElem?_append_left (by rw [List.length_take]; omega), List.getElem?_take_of_lt h1, List.getElem?_set_ne (by omega)]
        · by_cases h2 : i = k
          · subst h2
            rw [List.getElem?_take_of_lt (by omega), List.getElem?_append_right (by rw [List.length_take]; omega)]
            simp [show i < xs.length from by omega, Nat.min_eq_left (show i ≤ xs.length from by omega)]
          · rw [List.getElem?_take_eq_none (by omega), List.getElem?_eq_none (by simp; omega)])
      have R4 := Aa hr4
      have T4 := Aa ht4
      clear hr3 hr4 ht4 ht3 hb3 HX HT HRW HB hSt hxl
      have hst : D6 (AW f.body) (Bh f.body) (BQ f.body) fs = QM fs f := rfl
      rw [hst]
      go_wp2_with fail
      exact ⟨⟨k + 1, _, by omega, by go_num, R4.out, HX', T4.out⟩, by simp [intOf]; omega⟩
    · obtain rfl : k = L.length := by omega
      have hx := HX.out
      rw [List.take_of_length_le (by have := hrow.1; omega), List.take_length] at hx
      subst hx
      have HRW := Aa hrow
      have HB := Aa hbl
      have HKR3 := Aa (HKR1.out.touch hto (by simp; omega))
      have HKQ3 := Aa (HKQ1.out.touch hto (by simp; omega))
      have hszr : S + 1 ≤ wr.heap.size := by have := hto.size; omega
      have HFM : Hid (FoundM wr N c D hs Q) := Aa ⟨Ar HF.out.own (Touch.of_below hbl []) (by simp), HF.out.at', HF.out.keys⟩
      clear hrow hbl hto HX HKR1 HKQ1 HB2 hs1
      have r2 := (HKR3.out 2 _ rfl).1
      go_wp2_with (at_make; refine wpList_make_full _ rfl _ _ 32 rfl (S + 1) 4 j0 (.bool false) 1 Tryz.underlying32 hj hy0 hy1 .i64 .i64 _ _ hs.length rfl rfl rfl rfl (by rw [hy2]; omega) (by unfold maxLen; omega) hszr ?_)
      intro w4 hown4 hg4
      have ht4 : Touch [] wr w4 := ⟨hg4.os, hg4.tape, hg4.output, hg4.size, fun i hi _ => hg4.block i hi (by simp)⟩
      obtain ⟨G, hG⟩ : ∃ x, x = wr.heap.size := ⟨_, rfl⟩
      rw [← hG] at hown4 ⊢
      have hG4 : G < w4.heap.size := (hown4.lt G (by simp [Value.ownBlock])).2
      have hSG : S + 1 ≤ G := by omega
      have HKR4 := Aa (HKR3.out.touch ht4 (by simp))
      have HKQ4 := Aa (HKQ3.out.touch ht4 (by simp))
      have HB4 := Aa (HB.out.trans (ht4.below HB.out.size (by simp)))
      have HR4 := Aa (Ac HRW.out ht4 (by simp))
      have HO4 := Aa hown4
      have HF4 : Hid (FoundM w4 N c D hs Q) := Aa ⟨Ar HFM.out.own ht4 (by simp), HFM.out.at', HFM.out.keys⟩
      have hNG : N < G := by rw [hG]; exact HFM.out.own.lt
      have hNw : N < w.heap.size := HF.out.own.lt
      clear hown4 hg4 ht4 HKR3 HKQ3 HB HRW HFM hG hszr r2
      have r3 := (HKR4.out 3 _ rfl).1
      have hSw4 : w.heap.size ≤ w4.heap.size := HB4.out.size
      go_wp2_with (at_range; refine wpList_range_own _ rfl _ 89 rfl 3 189 Tryz.lawInt Tryz.underlying89 _ N c D rfl HF4.out.own ?_)
      intro w5 hrg hg5 hs5
      have ht5 : Touch [] w4 w5 := ⟨hg5.os, hg5.tape, hg5.output, hg5.size, fun i hi _ => hg5.block i hi (by simp)⟩
      obtain ⟨r, hr⟩ : ∃ r, r = w4.heap.size := ⟨_, rfl⟩
      rw [← hr] at hrg ⊢
      have hrG : G < r := by omega
      have HKR5 := Aa (HKR4.out.touch ht5 (by simp))
      have HKQ5 := Aa (HKQ4.out.touch ht5 (by simp))
      have HB5 := Aa (HB4.out.trans (ht5.below hSw4 (by simp)))
      have HR5 := Aa (Ac HR4.out ht5 (by simp))
      have HO5 := Aa (Ac HO4.out ht5 (by simp))
      have HRG := Aa hrg
      have hr5 : r < w5.heap.size := by omega
      clear hrg hg5 hs5 ht5 HKR4 HKQ4 HB4 HR4 HO4 r3 hSw4 hr hG4
      go_wp2_with fail
      rw [Mb] at HO5
      go_loopw [9] (fun _ W => ∃ left cnt ss, W.ranges Tryz.prog 3 CK N r c D left cnt ∧ W.ownsRow (S + 1) 4 1 (.slice (some ⟨G, 0, none⟩) hs.length hs.length) hs.length (Dw hs.length ss) ∧ Coll D left ss ∧ Touch [G, r] w5 W)
        (fun _ W => W.rangeLeft N r)
      case atStart => exact ⟨_, _, [], HRG.out, HO5.out, Coll.start D, Touch.refl _ _⟩
      case round =>
        obtain ⟨left, cnt, ss, hrg, hown, hcl, hto⟩ := hrel
        have hlq := hrg.left_eq
        have HRG := Aa hrg
        have HO := Aa hown
        have HCL := Aa hcl
        have HT := Aa hto
        have hszr : w5.heap.size ≤ wr.heap.size := hto.size
        clear hrg hown hcl hto HO5
        go_wp2_with (at_next; refine Gd _ rfl _ rfl 3 .i64 Tryz.lawInt Tryz.underlying3 N r c D left cnt rfl HRG.out ?_ ?_)
        · intro hc0 hl0
          have hmk : Dw hs.length ss = KN (Kq Q hs) := by
            unfold Dw KN Kq
            rw [List.map_map]
            apply List.ext_getElem?
            intro i
            by_cases h : i < hs.length
            · have hh := HF4.out.has hn i h
              have hm := HCL.out.mem i
              rw [hl0, hh] at hm
              have e : hs.getD i 0 = hs[i] := by simp [h]
              rw [e] at hm
              simp only [List.getElem?_map, List.getElem?_range h, List.getElem?_eq_getElem h, Option.map_some, Function.comp_apply, Option.some.injEq, Value.bool.injEq]
              rw [Bool.eq_iff_iff, decide_eq_true_eq]
              simpa using hm
            · rw [List.getElem?_eq_none (by simp; omega), List.getElem?_eq_none (by simp; omega)]
          rw [hmk] at HO
          have hb6 : Below w.heap.size w wr := HB5.out.trans (HT.out.below (by have := HB5.out.size; omega) (by simp; omega))
          have HFM6 : Hid (FoundM wr N c D hs Q) := Aa ⟨HRG.out.owns, HF4.out.at', HF4.out.keys⟩
          have HKR6 := Aa (HKR5.out.touch HT.out (by simp; omega))
          have HKQ6 := Aa (HKQ5.out.touch HT.out (by simp; omega))
          have HR6 := Aa (AQ HR5.out HT.out (fun k hk => by simp [Value.ownBlock] at hk; simp; omega))
          have HB6 := Aa hb6
          have hLO := Aa (fun W (hW : Touch [] wr W) => IQ (sz : Int) (.slice fa L.length fc) (.slice ea en ec) N c D hs Q hn W ⟨Ar HFM6.out.own hW (by simp), HFM6.out.at', HFM6.out.keys⟩)
          clear hmk hb6 HCL HRG HT HKR5 HKQ5 HR5 HB5 HF4 hl0 hlq
          have hS0 : ∀ X : World, Touch [w.heap.size + 1] wr X → X.cell? ⟨w.heap.size, 0, none⟩ = some (.int .i64 (sz : Int)) ∧ X.cell? ⟨w.heap.size, 1, none⟩ = some (.slice fa L.length fc) ∧ X.cell? ⟨w.heap.size, 2, none⟩ = some (.int .i64 (hs.length : Int)) ∧ X.cell? ⟨w.heap.size, 3, none⟩ = some (.map (some N)) ∧ X.cell? ⟨w.heap.size, 4, none⟩ = some (.slice ea en ec) := by
            intro X hX
            have hk := HKR6.out.touch hX (by simp)
            exact ⟨(hk 0 _ rfl).1, (hk 1 _ rfl).1, (hk 2 _ rfl).1, (hk 3 _ rfl).1, (hk 4 _ rfl).1⟩
          have HS0 := Aa hS0
          clear hS0
          go_wp2_with fail
          refine wp_region_held_drew (S := fun X => X.cell? ⟨w.heap.size, 0, none⟩ = some (.int .i64 (sz : Int)) ∧ X.cell? ⟨w.heap.size, 1, none⟩ = some (.slice fa L.length fc) ∧ X.cell? ⟨w.heap.size, 2, none⟩ = some (.int .i64 (hs.length : Int)) ∧ X.cell? ⟨w.heap.size, 3, none⟩ = some (.map (some N)) ∧ X.cell? ⟨w.heap.size, 4, none⟩ = some (.slice ea en ec)) (by kernel_rfl) (HS0.out _ (Touch.refl _ _).drew) (fun hHeld => ?_)
          refine tY 0 42 ?_
          refine tY 1 43 ?_
          refine tY 2 44 ?_
          refine tY 4 46 ?_
          refine tY 5 47 ?_
          refine tY 6 48 ?_
          refine Ah (i := 3) (by kernel_rfl) (fun K o ho hK => ?_)
          simp only [gA, gB, gC, gE] at ho
          subst ho
          go_simp
          refine (hLO.out _ (Touch.refl _ _).drew).mono ?_
          rintro e w7 ⟨rfl, hb7⟩
          have ht7 : Touch [] wr w7 := (Touch.refl [] wr).drew.trans (Touch.of_below hb7 [])
          refine hK.out _ _ ?_ (fun hHeld => ?_)
          focus exact HS0.out _ (ht7.mono (by simp))
          clear hK K
          try simp only [Act.put, sA, sB, sC]
          refine tY 7 49 ?_
          have hkq := HKQ6.out.touch ht7 (by simp)
          have q0 := (hkq 0 _ rfl).1
          have q1 := (hkq 1 _ rfl).1
          have q2 := (hkq 2 _ rfl).1
          have q3 := (hkq 3 _ rfl).1
          have z0 := (hkq 0 _ rfl).2
          have z1 := (hkq 1 _ rfl).2
          have z2 := (hkq 2 _ rfl).2
          have z3 := (hkq 3 _ rfl).2
          refine Ah (i := 8) (by kernel_rfl) (fun K o ho hK => ?_)
          simp only [gA, gB, gC, gE] at ho
          subst ho
          go_simp
          refine hK.out _ _ ?_ (fun hHeld => ?_)
          focus exact HS0.out _ ((((((ht7.mono (by simp)).setCell (.inl (by simp)) _).setCell (.inl (by simp)) _).setCell (.inl (by simp)) _).setCell (.inl (by simp)) _))
          clear hK K
          try simp only [Act.put, sA, sB, sC]
          refine wpAnyH_done (by kernel_rfl) ?_ _
          have hfin : ∀ X : World, X = (((w7.setCell ⟨w.heap.size + 1, 0, none⟩ (.slice (some ⟨S, 0, none⟩) L.length L.length)).setCell ⟨w.heap.size + 1, 1, none⟩ (.slice (some ⟨G, 0, none⟩) hs.length hs.length)).setCell ⟨w.heap.size + 1, 2, none⟩ (.int .i64 ((hs.length - Dr Q hs : Nat) : Int))).setCell ⟨w.heap.size + 1, 3, none⟩ (.int .i64 (en : Int)) →
              X.ownsRow (w.heap.size + 2) 3 1 (.slice (some ⟨S, 0, none⟩) L.length L.length) L.length (En fs L) ∧ X.ownsRow (w.heap.size + 2) 4 1 (.slice (some ⟨G, 0, none⟩) hs.length hs.length) hs.length (KN (Kq Q hs)) ∧ Below w.heap.size w X := by
            rintro X rfl
            have ht : Touch [w.heap.size + 1] w7 _ := ((((Touch.refl [w.heap.size + 1] w7).setCell (x := ⟨w.heap.size + 1, 0, none⟩) (.inl (by simp)) (.slice (some ⟨S, 0, none⟩) L.length L.length)).setCell (x := ⟨w.heap.size + 1, 1, none⟩) (.inl (by simp)) (.slice (some ⟨G, 0, none⟩) hs.length hs.length)).setCell (x := ⟨w.heap.size + 1, 2, none⟩) (.inl (by simp)) (.int .i64 ((hs.length - Dr Q hs : Nat) : Int))).setCell (x := ⟨w.heap.size + 1, 3, none⟩) (.inl (by simp)) (.int .i64 (en : Int))
            have hs7 := ht7.size
            rw [HS2.out]
            refine ⟨Ac (Ac HR6.out ht7 (by simp)) ht (by simp; omega), Gz (Ac (Ac HO.out ht7 (by simp)) ht (by simp; omega)) (by omega), (HB6.out.trans (ht7.below HB6.out.size (by simp))).trans (ht.below (by have := HB6.out.size; omega) (by simp))⟩
          have HFIN := Aa hfin
          clear hfin hkq
          go_wp2_with fail
          refine bodyPost_ret (v := .agg #[.slice (some ⟨S, 0, none⟩) L.length L.length, .slice (some ⟨G, 0, none⟩) hs.length hs.length, .int .i64 ((hs.length - Dr Q hs : Nat) : Int), .int .i64 (en : Int)]) (by simp [results, Tryz.results42, go_sem, q0, q1, q2, q3]) rfl ?_
          exact ⟨_, _, rfl, HFIN.out _ rfl⟩
        · intro x v w3 cnt3 hwf hlx hat hrg3 hlt hg3 hs3 hen
          have hhas : Maps.has D (.int .i64 x) = true := Maps.has_true_of_atKey hat
          obtain ⟨i, hiN, hxi⟩ := HF4.out.keys _ hhas
          have hx : x = (i : Int) := by
            unfold Bo at hxi
            simp only [Lit.int.injEq, true_and] at hxi
            exact hxi
          subst hx
          have hcl3 := HCL.out.step (i := i) hlx hhas
          have ht3 : Touch [r] wr w3 := Touch.of_grown hg3
          have ho3 := AQ HO.out ht3 (fun k hk => by simp [Value.ownBlock] at hk; simp; omega)
          have hml : (Dw hs.length ss).length = hs.length := by simp [Dw]
          obtain ⟨o0, p0⟩ : ∃ u, w3.cell? ⟨G, i, none⟩ = some u := ⟨(Dw hs.length ss)[i]'(by omega), by rw [ho3.cellAt i (by omega)]; simp [show i < (Dw hs.length ss).length from by omega]⟩
          have q0 := ho3.frozenAt i
          have ho6 := (ho3.stored i (.bool true)).1
          rw [P6] at ho6
          have ht6 : Touch [G] w3 (w3.setCell ⟨G, i, none⟩ (.bool true)) := (Touch.refl [G] w3).setCell (x := ⟨G, i, none⟩) (.inl (by simp)) (.bool true)
          have hrg6 := hrg3.kept ht6.grown (by simp; omega) (by simp; omega)
          have hlq6 := hrg6.left_eq
          have hT6 := HT.out.trans ((ht3.mono (M := [G, r]) (by simp)).trans (ht6.mono (by simp)))
          have C3 := Aa hcl3
          have O6 := Aa ho6
          have R6 := Aa hrg6
          have T6 := Aa hT6
          have g1 : (0 : Int) ≤ (i : Int) := by omega
          have g2 : (i : Int) < (hs.length : Int) := by omega
          clear hcl3 ho3 ho6 hrg6 hT6 ht3 ht6 hat hwf hlx hg3 hs3 hxi HRG HO HCL HT hhas hrg3 hml
          go_wp2_with fail
          refine ⟨⟨_, cnt3, ss ++ [i], R6.out, O6.out, C3.out, T6.out⟩, by rw [hlq6, hlq]; exact hlt⟩
end Go.Proofs.YtonjphollmdicaaGreatDoor
namespace Go.Proofs.YtonjphollmdicaaGreatDoor
open Go.ChangeShapes Go.WideShapes Go.ChangeAt Go.RowKit
open Go.Maps
def Hs : Value := .agg #[.slice none 0 0, .slice none 0 0, .int .i64 0, .int .i64 0]
def Q9 (w : World) (base : Nat) (v : Value) (states : List Nat) (flags : List Bool) (lost extra : Nat) : Prop := ∃ sv pv, v = .agg #[sv, pv, .int .i64 (lost : Int), .int .i64 (extra : Int)] ∧
  w.ownsRow base 3 1 sv states.length (Dz states) ∧ w.ownsRow base 4 1 pv flags.length (KN flags)
structure ReportL where
  states : List Nat
  flags : List Bool
  lost : Nat
  extra : Nat
def Kb (fs : List Ak) (l : List FoundL) (m : MainL) : ReportL :=
  ⟨(Am l m).map (QM fs), Kq (AG m.size fs) (AI (Am l m)), (AI (Am l m)).length - Dr (AG m.size fs) (AI (Am l m)), (AU l m).length⟩
def I8 (fs : List Ak) (vs : List (List UInt8)) : ReportL ⊕ Nat :=
  if BO fs vs = false then .inr 1 else match AV (At vs) with
    | none => .inr 3
    | some f => if Ci (At vs) (Ag f) = false then .inr 4 else .inl (Kb fs (At vs) (Ag f))
def IE (r : ReportL ⊕ Nat) (w : World) (e : Ending) (w' : World) : Prop := Below w.heap.size w w' ∧ match r with
  | .inr n => e = .returned (.tuple #[Hs, .int .i64 (n : Int)])
  | .inl p => ∃ v, e = .returned (.tuple #[v, .int .i64 0]) ∧ Q9 w' w.heap.size v p.states p.flags p.lost p.extra
theorem KX {fs : List Ak} {vs : List (List UInt8)} {w w' : World} {e : Ending} (h : B9 fs vs w e w') : Below w.heap.size w w' ∧ ((∃ n : Nat, I8 fs vs = .inr n ∧ n ≠ 0 ∧ n < 10 ∧ e = .returned (.tuple #[AR, .int .i64 (n : Int)])) ∨
    (∃ f, BO fs vs = true ∧ AV (At vs) = some f ∧ Ci (At vs) (Ag f) = true ∧ I8 fs vs = .inl (Kb fs (At vs) (Ag f)) ∧
      ∃ (fa : Option Addr) (fc N base : Nat) (ev : Value), w.heap.size ≤ base ∧ base ≤ w'.heap.size ∧ e = .returned (.tuple #[.agg #[.int .i64 (Al f.body : Int), .slice fa (Am (At vs) (Ag f)).length fc, .int .i64 ((AI (Am (At vs) (Ag f))).length : Int), .map (some N), ev], .int .i64 0]) ∧
        FRow w' base fa (Am (At vs) (Ag f)) ∧ (∃ M b, FState w' M N b (AI (Am (At vs) (Ag f))) (AG (Al f.body) fs)) ∧
        (∃ D b0, w'.ownsRow b0 192 2 ev (AU (At vs) (Ag f)).length (CD D (AU (At vs) (Ag f))) ∧ KMap D (A7 (Ag f)) ((At vs).filter (·.kind == 82)) 20 (fun v g => v = DY (Al f.body) g)))) := by
  obtain ⟨hb, h⟩ := h
  refine ⟨hb, ?_⟩
  unfold I8
  cases hh : BO fs vs with
  | false =>
    rw [if_pos hh] at h
    exact .inl ⟨1, by rw [if_pos rfl], by decide, by decide, h⟩
  | true =>
    rw [if_neg (by rw [hh]; simp)] at h
    rw [if_neg (by simp)]
    cases hc : AV (At vs) with
    | none =>
      rw [hc] at h
      exact .inl ⟨3, rfl, by decide, by decide, h⟩
    | some f =>
      rw [hc] at h
      simp only at h ⊢
      cases hl : Ci (At vs) (Ag f) with
      | false =>
        rw [if_pos hl] at h
        exact .inl ⟨4, by rw [if_pos rfl], by decide, by decide, h⟩
      | true =>
        rw [if_neg (by rw [hl]; simp)] at h
        exact .inr ⟨f, trivial, rfl, hl, by rw [if_neg (by simp)], h⟩
theorem PH (fs : List Ak) (vs : List (List UInt8)) (a b : Option Addr) (ca cb : Nat) (w : World) (hK : Kinds w) (hfa : Rd w a (As fs)) (hvb : Rd w b (AM vs)) :
    Calls Tryz.prog 13 #[.slice a fs.length ca, .slice b vs.length cb] w fun e w' => IE (I8 fs vs) w e w' := by
  have hG := Aa (fun W (hW : Below w.heap.size w W) => Iz fs vs a b ca cb W (hK.later hW hK.lt) (hfa.later (Nat.le_refl _) hW) (hvb.later (Nat.le_refl _) hW))
  have h0 := hK.lt
  have HFA := Aa hfa
  clear hfa hvb hK
  go_enter Tryz.func13, Tryz.ntmps13
  go_wp2_with fail
  refine (hG.out _ ((Below.refl _ _).alloc (Nat.le_refl _) _)).mono ?_
  rintro e w1 hg
  obtain ⟨hb1, hor⟩ := KX hg
  have hkq := (Blk.new w #[.slice none 0 0, .slice none 0 0, .int .i64 0, .int .i64 0] 34).touch (Touch.of_below hb1 []) (by simp)
  have hsz1 : w.heap.size + 1 ≤ w1.heap.size := by have := hb1.size; simpa using this
  have hbw : Below w.heap.size w w1 := Below.trans ((Below.refl _ _).alloc (Nat.le_refl _) _) (hb1.mono (by simp))
  have HBW := Aa hbw
  have HKQ := Aa hkq
  clear hg hb1 hkq hbw hG
  rcases hor with ⟨n, hlp, hn0, hn10, rfl⟩ | ⟨f, hha, hch, hil, hlp, fa, fc, N, base, ev, hwb, hbw, rfl, hFR, ⟨M, b9, hFS⟩, ⟨DE, b0, hev, hKE⟩⟩
  · have HE : Hid (∀ w', Below w.heap.size w w' → IE (I8 fs vs) w (.returned (.tuple #[Hs, .int .i64 (n : Int)])) w') := Aa (fun w' h => by rw [hlp]; exact ⟨h, rfl⟩)
    clear hlp
    have e1 : ((n : Int) != 0) = true := by simp; omega
    have e2 : ((n : Int) == 0) = false := by simp; omega
    have hkq := HKQ.out.alloc (Obj.cells #[.int .i64 0, .slice none 0 0, .int .i64 0, .map none, .slice none 0 0] 92)
    have HBA := Aa (HBW.out.alloc (by omega) (Obj.cells #[.int .i64 0, .slice none 0 0, .int .i64 0, .map none, .slice none 0 0] 92))
    have q0 := (hkq 0 _ rfl).1
    have q1 := (hkq 1 _ rfl).1
    have q2 := (hkq 2 _ rfl).1
    have q3 := (hkq 3 _ rfl).1
    have z0 := (hkq 0 _ rfl).2
    have z1 := (hkq 1 _ rfl).2
    have z2 := (hkq 2 _ rfl).2
    have z3 := (hkq 3 _ rfl).2
    unfold AR
    clear hkq
    go_wp2_with fail
    refine bodyPost_ret (v := .tuple #[Hs, .int .i64 (n : Int)]) (by simp [results, Tryz.results13, go_sem, Hs, q0, q1, q2, q3]) rfl ?_
    exact HE.out _ ((((HBA.out.setCell (show w.heap.size ≤ (⟨w.heap.size, 0, none⟩ : Addr).block from Nat.le_refl _) _).setCell (show w.heap.size ≤ (⟨w.heap.size, 1, none⟩ : Addr).block from Nat.le_refl _) _).setCell (show w.heap.size ≤ (⟨w.heap.size, 2, none⟩ : Addr).block from Nat.le_refl _) _).setCell (show w.heap.size ≤ (⟨w.heap.size, 3, none⟩ : Addr).block from Nat.le_refl _) _)
  · obtain ⟨_, _, hn1, hn6, hz2, hz32⟩ := Cu hch
    have hbnd : fs.length ≤ 12 ∧ (∀ f ∈ fs, f.2.length ≤ 400) := by
      unfold BO at hha
      simp only [Bool.and_eq_true, decide_eq_true_eq, List.all_eq_true] at hha
      exact ⟨hha.1.1.1, hha.1.2⟩
    have hLn : (Am (At vs) (Ag f)).length ≤ 6 ∧ (AI (Am (At vs) (Ag f))).length ≤ 60 := by
      unfold Ci at hil
      simp only [Bool.and_eq_true, decide_eq_true_eq] at hil
      refine ⟨?_, hil.2⟩
      rw [hil.1.1.1]
      exact hn6
    obtain ⟨ea, ec, rfl, _⟩ := AE hev
    obtain ⟨_, c, D, _, hfm, q1, q2⟩ := hFS
    have hrp : Kb fs (At vs) (Ag f) = ⟨(Am (At vs) (Ag f)).map (QM fs), Kq (AG (Al f.body) fs) (AI (Am (At vs) (Ag f))), (AI (Am (At vs) (Ag f))).length - Dr (AG (Al f.body) fs) (AI (Am (At vs) (Ag f))), (AU (At vs) (Ag f)).length⟩ := rfl
    rw [hrp] at hlp
    obtain ⟨L, hL⟩ : ∃ L, L = Am (At vs) (Ag f) := ⟨_, rfl⟩
    obtain ⟨HS, hHS⟩ : ∃ x, x = AI L := ⟨_, rfl⟩
    obtain ⟨en, hen⟩ : ∃ x, x = (AU (At vs) (Ag f)).length := ⟨_, rfl⟩
    rw [← hL] at hFR hLn hlp q1 q2 ⊢
    rw [← hHS] at hLn hlp q1 q2 ⊢
    rw [← hen] at hlp ⊢
    obtain ⟨Q, hQ⟩ : ∃ Q, Q = AG (Al f.body) fs := ⟨_, rfl⟩
    rw [← hQ] at q1 hlp
    have hFM : FoundM w1 N c D HS Q := ⟨hfm, q1, q2⟩
    obtain ⟨sz, hsz⟩ : ∃ x, x = Al f.body := ⟨_, rfl⟩
    rw [← hsz]
    have hRP := Aa (fun W (hW : Touch [] w1 W) => MN sz fa fc L HS N base c D Q ea en ec fs a ca (by omega) (by omega) (by omega) (fun g hg => by have := hbnd.2 g hg; omega) W (hFR.touch hW (by simp) (by simp)) ⟨Ar hFM.own hW (by simp), hFM.at', hFM.keys⟩ (HFA.out.later (Nat.le_refl _) (HBW.out.trans (hW.below HBW.out.size (by simp)))))
    have HLP := Aa hlp
    clear hlp hrp hbnd hFM hev hKE hfm q1 q2 hFR hch hha hil hL hHS hen hQ hsz
    go_wp2_with fail
    refine (hRP.out _ ((Touch.refl [] w1).alloc _)).mono ?_
    rintro e w2 ⟨sv, pv, rfl, hsv, hpv, hb2⟩
    obtain ⟨sa, sc, rfl, _⟩ := AE hsv
    obtain ⟨pa, pc, rfl, _⟩ := AE hpv
    have ht2 := ((Touch.refl [] w1).alloc (Obj.cells #[Value.int .i64 (sz : Int), .slice fa L.length fc, .int .i64 (HS.length : Int), .map (some N), .slice ea en ec] 92)).trans (Touch.of_below hb2 [])
    have hkq := HKQ.out.touch ht2 (by simp)
    have hs2 : w1.heap.size ≤ w2.heap.size := ht2.size
    have hfin : ∀ X : World, X = (((w2.setCell ⟨w.heap.size, 0, none⟩ (.slice sa L.length sc)).setCell ⟨w.heap.size, 1, none⟩ (.slice pa HS.length pc)).setCell ⟨w.heap.size, 2, none⟩ (.int .i64 ((HS.length - Dr Q HS : Nat) : Int))).setCell ⟨w.heap.size, 3, none⟩ (.int .i64 (en : Int)) →
        IE (I8 fs vs) w (.returned (.tuple #[.agg #[.slice sa L.length sc, .slice pa HS.length pc, .int .i64 ((HS.length - Dr Q HS : Nat) : Int), .int .i64 (en : Int)], .int .i64 0])) X := by
      rintro X rfl
      have ht : Touch [w.heap.size] w2 _ := ((((Touch.refl [w.heap.size] w2).setCell (x := ⟨w.heap.size, 0, none⟩) (.inl (by simp)) (.slice sa L.length sc)).setCell (x := ⟨w.heap.size, 1, none⟩) (.inl (by simp)) (.slice pa HS.length pc)).setCell (x := ⟨w.heap.size, 2, none⟩) (.inl (by simp)) (.int .i64 ((HS.length - Dr Q HS : Nat) : Int))).setCell (x := ⟨w.heap.size, 3, none⟩) (.inl (by simp)) (.int .i64 (en : Int))
      rw [HLP.out]
      have hx : w.heap.size < (w1.alloc (Obj.cells #[Value.int .i64 (sz : Int), .slice fa L.length fc, .int .i64 (HS.length : Int), .map (some N), .slice ea en ec] 92)).heap.size + 2 := by simp; omega
      have e1 : En fs L = Dz (L.map (QM fs)) := by simp [En, Dz]
      have l2 : (Kq Q HS).length = HS.length := by simp [Kq]
      refine ⟨(HBW.out.trans (ht2.below HBW.out.size (by simp))).trans (ht.below (by omega) (by simp)), _, rfl, _, _, rfl, ?_, ?_⟩
      · rw [List.length_map, ← e1]
        exact Gz (Ac hsv ht (by intro x hx'; simp only [List.mem_singleton] at hx'; omega)) (by omega)
      · rw [l2]
        exact Gz (Ac hpv ht (by intro x hx'; simp only [List.mem_singleton] at hx'; omega)) (by omega)
    have HFIN := Aa hfin
    clear hfin hsv hpv hb2 ht2
    have q0 := (hkq 0 _ rfl).1
    have q1 := (hkq 1 _ rfl).1
    have q2 := (hkq 2 _ rfl).1
    have q3 := (hkq 3 _ rfl).1
    have z0 := (hkq 0 _ rfl).2
    have z1 := (hkq 1 _ rfl).2
    have z2 := (hkq 2 _ rfl).2
    have z3 := (hkq 3 _ rfl).2
    clear hkq
    go_wp2_with fail
    refine bodyPost_ret (v := .tuple #[.agg #[.slice sa L.length sc, .slice pa HS.length pc, .int .i64 ((HS.length - Dr Q HS : Nat) : Int), .int .i64 (en : Int)], .int .i64 0]) (by simp [results, Tryz.results13, go_sem, q0, q1, q2, q3]) rfl ?_
    exact HFIN.out _ rfl
end Go.Proofs.YtonjphollmdicaaGreatDoor
