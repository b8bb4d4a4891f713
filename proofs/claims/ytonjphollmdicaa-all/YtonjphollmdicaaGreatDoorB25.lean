import Derived.Test.YtonjphollmdicaaGreatDoorB03
import Derived.Test.YtonjphollmdicaaGreatDoorB22
import Derived.Test.YtonjphollmdicaaGreatDoorB24
set_option maxRecDepth 100000
set_option maxHeartbeats 4000000
set_option linter.unusedSimpArgs false
namespace Go.Proofs.YtonjphollmdicaaGreatDoor
open Go.ChangeShapes Go.WideShapes Go.ChangeAt Go.RowKit
open Go.Maps
theorem Qm (M base : Nat) (l : List FoundL) (v : List UInt8) (w : World) (hv : v.length ≤ 1000000) (hl : l.length + v.length < 1000000000) (hb : base ≤ w.heap.size) (hMb : M < base) (hM0 : 0 < M) (hK : Kinds w) (hp : Pile w M base l) :
    Calls Tryz.prog 108 #[.string (str v), .func (.func 109) #[.map (some M)] #[]] w fun e w' => e = .returned (.tuple #[]) ∧ Pile w' M base (l ++ DQ v) ∧ Below M w w' := by
  have hss := Ae v
  have HK := Aa hK
  have HP := Aa hp
  clear hK hp
  go_enter Tryz.func108, Tryz.ntmps108
  go_wp2_with fail
  go_loopw [4] (fun at' W => ∃ (j : Nat) (F : List FoundL), j ≤ v.length ∧ at' = .int .i64 (j : Int) ∧ Pile W M base (l ++ F) ∧ Hid (F ++ DQ (v.drop j) = DQ v) ∧ Below M w W)
    (fun at' _ => v.length - (intOf at').toNat)
  case atStart => exact ⟨0, [], by omega, rfl, by rw [List.append_nil]; exact HP.out, Aa rfl, Below.refl _ _⟩
  case round =>
    clear HP
    obtain ⟨j, F, hj, rfl, hpr, HF, hbl⟩ := hrel
    have hsz := hbl.size
    have HS0 : Hid (M ≤ wr.heap.size ∧ M < w.heap.size) := Aa ⟨by omega, by omega⟩
    have HPR := Aa hpr
    have HB := Aa hbl
    clear hpr hbl
    by_cases hjl : j < v.length
    · have hst := JP (v.drop j) (by rw [List.length_drop]; omega)
      have ex : (str v).extract j v.length = str (v.drop j) := by rw [AB, List.take_of_length_le (by simp)]
      have hO := Aa (fun W => Pa (v.drop j) (by rw [List.length_drop]; omega) W)
      have hFl : F.length + (DQ (v.drop j)).length ≤ v.length := by
        have h1 := congrArg List.length HF.out
        rw [List.length_append] at h1
        have h2 := IK v
        omega
      have g1 : (0 : Int) ≤ (j : Int) := by omega
      have g2 : (j : Int) ≤ (v.length : Int) := by omega
      obtain ⟨tx, htx⟩ : ∃ tx, tx = v.drop j := ⟨_, rfl⟩
      have hlt : tx.length = v.length - j := by rw [htx, List.length_drop]
      have hd1 : v.drop (j + 1) = tx.drop 1 := by rw [htx, List.drop_drop]
      have hdn : ∀ n, v.drop (j + n) = tx.drop n := fun n => by rw [htx, List.drop_drop]
      rw [← htx] at hst ex hO HF hFl
      have wj1 : IntKind.i64.wrap ((j : Int) + 1) = (j : Int) + 1 := by rw [IntKind.wrap_i64]; omega
      have HST := Aa hst
      have HD1 := Aa hd1
      have HDN := Aa hdn
      clear hst hd1 hdn htx
      by_cases c1 : FM tx = true
      · obtain ⟨o1, o2, o3, o4, o5⟩ := Oo c1
        have hov : N8 tx = .tuple #[CC (Er tx).kind.toNat (Er tx).set (Er tx).body, .int .i64 ((22 + Bq tx : Nat) : Int)] := by
          unfold N8
          rw [if_pos c1, o1, o2, o3, o4]
        rw [hov] at hO
        have hbn := Na tx
        have hkind : (Er tx).kind = tx.getD 3 0 := rfl
        obtain ⟨f, hf⟩ : ∃ f, f = Er tx := ⟨_, rfl⟩
        obtain ⟨n, hn⟩ : ∃ n, n = 22 + Bq tx := ⟨_, rfl⟩
        have hrl : Dv tx = if Gu f.kind then some (f, n) else none := by
          unfold Dv
          rw [Jw, ← Il, c1, Bool.true_and, ← hkind, ← hf, ← hn]
        have hn22 : 22 ≤ n ∧ n < 70000 := by omega
        rw [← hn] at hO o5
        rw [← hf] at hO
        have HRL := Aa hrl
        have e0 : ((n : Int) == 0) = false := by simp; omega
        have hIK := Aa (fun W h => MD f.kind W h)
        unfold CC at hO
        clear c1 o1 o2 o3 o4 hov hkind hf hrl
        by_cases c2 : Gu f.kind = true
        · rw [c2] at hIK
          have HFN : Hid ((F ++ [f]) ++ DQ (v.drop (j + n)) = DQ v) := Aa (by
            have := HST.out
            rw [HRL.out, c2] at this
            simp only [if_pos] at this
            rw [HDN.out, ← HF.out, this]
            simp)
          have hlF : F.length + 1 ≤ v.length := by
            have h1 := congrArg List.length HFN.out
            simp only [List.length_append, List.length_cons, List.length_nil] at h1
            have h2 := IK v
            omega
          have wjn : IntKind.i64.wrap ((j : Int) + (n : Int)) = (j : Int) + (n : Int) := by rw [IntKind.wrap_i64]; omega
          clear HST HRL HD1 HDN HF hFl c2 hn hbn
          go_wp2_with fail
          refine (hO.out _).mono ?_
          rintro e w2 ⟨rfl, hb2⟩
          have hs2 := hb2.size
          have P2 := Aa (HPR.out.later hb2)
          have B2 := Aa (HB.out.trans (hb2.mono (by have := HS0.out; omega)))
          clear hb2 HPR HB
          go_wp2_with fail
          refine (hIK.out _ (HK.out.later (B2.out.alloc (by have := HS0.out; omega) (Obj.cells #[Value.int IntKind.u8 (f.kind.toNat : Int), Value.int IntKind.u64 (f.set : Int), Value.string (str f.body)] 181)) hM0)).mono ?_
          rintro e w4 ⟨rfl, hb4⟩
          have k4 := (Blk.new w2 #[Value.int IntKind.u8 (f.kind.toNat : Int), Value.int IntKind.u64 (f.set : Int), Value.string (str f.body)] 181).touch (Touch.of_below hb4 []) (by simp)
          have P4 := Aa ((P2.out.later ((Below.refl _ _).alloc (Nat.le_refl _) (Obj.cells #[Value.int IntKind.u8 (f.kind.toNat : Int), Value.int IntKind.u64 (f.set : Int), Value.string (str f.body)] 181))).later hb4)
          have B4 := Aa ((B2.out.alloc (by have := HS0.out; omega) (Obj.cells #[Value.int IntKind.u8 (f.kind.toNat : Int), Value.int IntKind.u64 (f.set : Int), Value.string (str f.body)] 181)).trans (hb4.mono (by have := HS0.out; simp; omega)))
          have hs4 := hb4.size
          have hs4' : w2.heap.size + 1 ≤ w4.heap.size := by simpa using hs4
          have f0 := (k4 0 _ rfl).1
          have f1 := (k4 1 _ rfl).1
          have f2 := (k4 2 _ rfl).1
          have hA := Aa (Rn M base (l ++ F) f w4 (by rw [List.length_append]; omega) (by omega) hMb P4.out)
          unfold CC at hA
          clear k4 hb4 hs4 P2 B2 hIK hO
          go_wp2_with fail
          refine hA.out.mono ?_
          rintro e w5 ⟨rfl, hp5, hb5⟩
          have P5 := Aa hp5
          have B5 := Aa (B4.out.trans hb5)
          clear hp5 hb5 P4 B4 hA f0 f1 f2
          go_wp2_with fail
          refine ⟨⟨j + n, F ++ [f], by omega, by go_num, by rw [← List.append_assoc]; exact P5.out, HFN, B5.out⟩, by simp [intOf]; omega⟩
        · have c2' : Gu f.kind = false := by simpa using c2
          rw [c2'] at hIK
          have HFN : Hid (F ++ DQ (v.drop (j + 1)) = DQ v) := Aa (by
            have := HST.out
            rw [HRL.out, c2'] at this
            simp only [Bool.false_eq_true, if_false] at this
            rw [HD1.out, ← HF.out, this])
          clear HST HRL HD1 HDN HF hFl c2 c2' hn hbn
          go_wp2_with fail
          refine (hO.out _).mono ?_
          rintro e w2 ⟨rfl, hb2⟩
          have hs2 := hb2.size
          have P2 := Aa (HPR.out.later hb2)
          have B2 := Aa (HB.out.trans (hb2.mono (by have := HS0.out; omega)))
          clear hb2 HPR HB
          go_wp2_with fail
          refine (hIK.out _ (HK.out.later (B2.out.alloc (by have := HS0.out; omega) (Obj.cells #[Value.int IntKind.u8 (f.kind.toNat : Int), Value.int IntKind.u64 (f.set : Int), Value.string (str f.body)] 181)) hM0)).mono ?_
          rintro e w4 ⟨rfl, hb4⟩
          have P4 := Aa ((P2.out.later ((Below.refl _ _).alloc (Nat.le_refl _) (Obj.cells #[Value.int IntKind.u8 (f.kind.toNat : Int), Value.int IntKind.u64 (f.set : Int), Value.string (str f.body)] 181))).later hb4)
          have B4 := Aa ((B2.out.alloc (by have := HS0.out; omega) (Obj.cells #[Value.int IntKind.u8 (f.kind.toNat : Int), Value.int IntKind.u64 (f.set : Int), Value.string (str f.body)] 181)).trans (hb4.mono (by have := HS0.out; simp; omega)))
          clear hb4 P2 B2 hIK hO
          go_wp2_with fail
          refine ⟨⟨j + 1, F, by omega, by go_num, P4.out, HFN, B4.out⟩, by simp [intOf]; omega⟩
      · have c1' : FM tx = false := by simpa using c1
        have hov : N8 tx = .tuple #[CC 0 0 [], .int .i64 0] := by
          unfold N8
          rw [if_neg c1]
        rw [hov] at hO
        have hrl : Dv tx = none := by
          unfold Dv
          rw [Jw, ← Il, c1', Bool.false_and]
          rfl
        have HFN : Hid (F ++ DQ (v.drop (j + 1)) = DQ v) := Aa (by
            have := HST.out
            rw [hrl] at this
            simp only at this
            rw [HD1.out, ← HF.out, this])
        unfold CC at hO
        clear HST HD1 HDN HF hFl c1 c1' hov hrl
        go_wp2_with fail
        refine (hO.out _).mono ?_
        rintro e w2 ⟨rfl, hb2⟩
        have hs2 := hb2.size
        have P2 := Aa (HPR.out.later hb2)
        have B2 := Aa (HB.out.trans (hb2.mono (by have := HS0.out; omega)))
        clear hb2 HPR HB hO
        go_wp2_with fail
        refine ⟨⟨j + 1, F, by omega, by go_num, P2.out.later ((Below.refl _ _).alloc (Nat.le_refl _) _), HFN, B2.out.alloc (by have := HS0.out; omega) _⟩, by simp [intOf]; omega⟩
    · obtain rfl : v.length = j := by omega
      have hend : DQ v = F := by
        have := HF.out
        rw [List.drop_length, Lg, List.append_nil] at this
        exact this.symm
      have HE := Aa hend
      clear hend
      go_wp2_with fail
      go_end0
      exact ⟨rfl, by rw [HE.out]; exact HPR.out, HB.out⟩
end Go.Proofs.YtonjphollmdicaaGreatDoor
namespace Go.Proofs.YtonjphollmdicaaGreatDoor
open Go.ChangeShapes Go.WideShapes Go.ChangeAt Go.RowKit
open Go.Maps
theorem No {w : World} {P : Program} {k : TypeId} {F : Nat} {D : DataW Value} (h : w.ownsMap P k CK F 0 D) : D = .map [] := by
 obtain ⟨es, clock, _, _, hs, rfl⟩ := h
 have : es = #[] := Array.eq_empty_of_size_eq_zero (by omega)
 subst this
 rfl
theorem FSt.turn {W : World} {F base : Nat} {mo mo' : Option FoundL} (h : FSt W F base mo []) : FSt W F base mo' [] := by
 obtain ⟨c, D, hc, hm, _⟩ := h
 have h0 : c = 0 := by simpa using hc
 subst h0
 have := No hm
 subst this
 refine ⟨0, _, Nat.le_refl _, hm, ?_⟩
 cases mo' with
 | none => rfl
 | some f => exact KMap.empty _ _ _
theorem ESt.turn {W : World} {E : Nat} {mo mo' : Option FoundL} (h : ESt W E mo []) : ESt W E mo' [] := by
 obtain ⟨c, D, hc, hm, _⟩ := h
 have h0 : c = 0 := by simpa using hc
 subst h0
 have := No hm
 subst this
 refine ⟨0, _, Nat.le_refl _, hm, ?_⟩
 cases mo' with
 | none => rfl
 | some f => exact KMap.empty _ _ _
structure RSt (W : World) (B F E base : Nat) (a b c : List FoundL) : Prop where
 m : MSt W B F E base (a.find? Cs)
 f : FSt W F base (a.find? Cs) b
 e : ESt W E (a.find? Cs) c
theorem RSt.touch {W W' : World} {B F E base : Nat} {a b c : List FoundL} (h : RSt W B F E base a b c) {L : List Nat} (ht : Touch L W W') (hL : ∀ x ∈ L, x ≠ B ∧ x ≠ F ∧ x ≠ E ∧ x < base) : RSt W' B F E base a b c :=
 ⟨h.m.touch ht (fun e => (hL B e).1 rfl) (fun x hx => (hL x hx).2.2.2), h.f.touch ht (fun e => (hL F e).2.1 rfl) (fun x hx => (hL x hx).2.2.2), h.e.touch ht (fun e => (hL E e).2.2.1 rfl)⟩
theorem RSt.stepM {B F E base : Nat} {a : List FoundL} {f : FoundL} (hf : f.body.length ≤ 1000000) {w : World} (hb : base ≤ w.heap.size) (hB : B < base) (hBF : B ≠ F) (hBE : B ≠ E) (h : RSt w B F E base a [] []) :
  Calls Tryz.prog 185 #[.pointer (some ⟨B, 0, none⟩), CC f.kind.toNat f.set f.body] w fun e w' => e = .returned (.tuple #[]) ∧ RSt w' B F E base (a ++ [f]) [] [] ∧ Touch [B, F, E] w w' :=
 (Go.Proofs.YtonjphollmdicaaGreatDoor.stepM B F E base a f hf w hb h.m).mono (by
  rintro e w' ⟨rfl, h1, h2⟩
  exact ⟨rfl, ⟨h1, FSt.turn (h.f.touch h2 (by simpa using Ne.symm hBF) (by simpa using hB)), ESt.turn (h.e.touch h2 (by simpa using Ne.symm hBE))⟩, h2.mono (by simp)⟩)
theorem RSt.stepF {B F E base : Nat} {a b : List FoundL} {f : FoundL} (hbl : b.length < 1000000) (hf : f.body.length ≤ 1000000) {w : World} (hb : base ≤ w.heap.size) (hF : F < base) (hBF : B ≠ F) (hFE : F ≠ E) (h : RSt w B F E base a b []) :
  Calls Tryz.prog 186 #[.pointer (some ⟨B, 0, none⟩), CC f.kind.toNat f.set f.body] w fun e w' => e = .returned (.tuple #[]) ∧ RSt w' B F E base a (b ++ [f]) [] ∧ Touch [B, F, E] w w' :=
 (Go.Proofs.YtonjphollmdicaaGreatDoor.stepF B F E base _ (fun _ hg => KV hg) b hbl f hf w hb hF hBF h.m h.f).mono (by
  rintro e w' ⟨rfl, h1, h2, h3⟩
  exact ⟨rfl, ⟨h1, h2, h.e.touch h3 (by simpa using Ne.symm hFE)⟩, h3.mono (by simp)⟩)
theorem RSt.stepE {B F E base : Nat} {a b c : List FoundL} {f : FoundL} (hbl : c.length < 1000000) (hf : f.body.length ≤ 1000000) {w : World} (hE : E < base) (hBE : B ≠ E) (hFE : F ≠ E) (h : RSt w B F E base a b c) :
  Calls Tryz.prog 187 #[.pointer (some ⟨B, 0, none⟩), CC f.kind.toNat f.set f.body] w fun e w' => e = .returned (.tuple #[]) ∧ RSt w' B F E base a b (c ++ [f]) ∧ Touch [B, F, E] w w' :=
 (Go.Proofs.YtonjphollmdicaaGreatDoor.stepE B F E base _ (fun _ hg => KV hg) c hbl f hf w hE hBE h.m h.e).mono (by
  rintro e w' ⟨rfl, h1, h2, h3⟩
  exact ⟨rfl, ⟨h1, h.f.touch h3 (by simpa using hFE) (by simpa using hE), h2⟩, h3.mono (by simp)⟩)
end Go.Proofs.YtonjphollmdicaaGreatDoor
