import Derived.Test.YtonjphollmdicaaGreatDoorB04
import Derived.Test.YtonjphollmdicaaGreatDoorB09
import Derived.Test.YtonjphollmdicaaGreatDoorB12
namespace Go.Proofs.YtonjphollmdicaaGreatDoor
open Go.ChangeShapes Go.WideShapes Go.ChangeAt Go.RowKit
open Go.Maps
theorem find_snoc (a : List FoundL) (f : FoundL) : (a ++ [f]).find? isMain = (a.find? isMain).or (if isMain f then some f else none) := by
 rw [List.find?_append, List.find?_cons, List.find?_nil]
 cases isMain f <;> rfl
theorem stepM (B F E base : Nat) (a : List FoundL) (f : FoundL) (hf : f.body.length ≤ 1000000) (w : World) (hb : base ≤ w.heap.size) (h : MSt w B F E base (a.find? isMain)) :
  Calls Tryz.prog 185 #[.pointer (some ⟨B, 0, none⟩), packV f.kind.toNat f.set f.body] w fun e w' => e = .returned (.tuple #[]) ∧ MSt w' B F E base ((a ++ [f]).find? isMain) ∧ Touch [B] w w' := by
 rw [find_snoc]
 cases hm : a.find? isMain with
 | none =>
  rw [hm] at h
  refine (readMain_walk B false 0 0 none 0 0 F E f hf w h).mono ?_
  rintro e w' ⟨rfl, h1⟩
  refine ⟨rfl, ?_⟩
  simp only [Option.none_or]
  by_cases c : isMain f = true
  ·rw [if_pos ⟨rfl, c⟩] at h1
   obtain ⟨v, k1, o1, t1⟩ := h1
   rw [if_pos c]
   obtain ⟨va, vc, rfl, -⟩ := ownsRow_rd o1
   exact ⟨⟨va, vc, k1, ownsRow_base hb o1⟩, t1⟩
  ·rw [if_neg (fun e => c e.2)] at h1
   rw [if_neg c]
   have t1 := Touch.of_below h1 []
   exact ⟨Blk.touch h t1 (by simp), t1.mono (by simp)⟩
 | some g =>
  rw [hm] at h
  obtain ⟨va, vc, k1, o1⟩ := h
  refine (readMain_walk B true _ _ va _ vc F E f hf w k1).mono ?_
  rintro e w' ⟨rfl, h1⟩
  rw [if_neg (fun e => by cases e.1)] at h1
  have t1 := Touch.of_below h1 []
  exact ⟨rfl, ⟨va, vc, k1.touch t1 (by simp), owns_touch o1 t1 (by simp)⟩, t1.mono (by simp)⟩
theorem main_size {a : List FoundL} {g : FoundL} (h : a.find? isMain = some g) : (mainFiles g.body).length ≤ 6 ∧ 2 ≤ mainSize g.body ∧ mainSize g.body ≤ 32 := by
 have h1 := List.find?_some h
 unfold isMain at h1
 simp only [Bool.and_eq_true] at h1
 obtain ⟨_, e2, _, e4, _, e6⟩ := mainFiles_eq h1.1
 rw [e2, List.length_map, List.length_range]
 unfold sliceSize at e6
 have := of_decide_eq_true e6
 omega
theorem stepF (B F E base : Nat) (mo : Option FoundL) (hmo : ∀ g, mo = some g → (mainFiles g.body).length ≤ 6 ∧ 2 ≤ mainSize g.body ∧ mainSize g.body ≤ 32) (b : List FoundL) (hbl : b.length < 1000000) (f : FoundL) (hf : f.body.length ≤ 1000000) (w : World) (hb : base ≤ w.heap.size) (hFb : F < base) (hBF : B ≠ F) (h : MSt w B F E base mo) (hF : FSt w F base mo b) :
  Calls Tryz.prog 186 #[.pointer (some ⟨B, 0, none⟩), packV f.kind.toNat f.set f.body] w fun e w' => e = .returned (.tuple #[]) ∧ MSt w' B F E base mo ∧ FSt w' F base mo (b ++ [f]) ∧ Touch [F] w w' := by
 obtain ⟨c, D, hc, hm, hk⟩ := hF
 cases mo with
 | none =>
  subst hk
  refine (readFile_walk B false 0 0 [] none 0 F E c (.map []) f hf (by simp) (by omega) w h (fun k u hu => by simp [u64V] at hu) hm (fun n v hv => by rw [atM_empty] at hv; cases hv)).mono ?_
  rintro e w' ⟨rfl, h1⟩
  rcases h1 with ⟨h1, _⟩ | ⟨i, v, e1, _⟩
  ·have t1 := Touch.of_below h1 []
   exact ⟨rfl, Blk.touch h t1 (by simp), ⟨c, _, by simp; omega, ownsMap_touch hm t1 (by simp), rfl⟩, t1.mono (by simp)⟩
  ·cases e1
 | some g =>
  obtain ⟨z1, z2⟩ := hmo g rfl
  obtain ⟨va, vc, k1, o1⟩ := h
  obtain ⟨_, _, e1, _, _, hrd⟩ := ownsRow_rd o1
  cases e1
  have hk' : KMap D (takesF (mainOf g)) b (mainFiles g.body).length (IsFile w base) := hk
  refine (readFile_walk B true g.set (mainSize g.body) (mainFiles g.body) va vc F E c D f hf (fun _ => z2) (by omega) w k1 hrd hm (fun n v hv => ?_)).mono ?_
  ·cases hx : firstOf (takesF (mainOf g)) b n with
   | none => rw [hk'.gone n hx] at hv; cases hv
   | some x =>
    obtain ⟨v', hv', hx'⟩ := hk'.there n x hx
    rw [hv'] at hv
    cases hv
    exact hx'.fi
  ·rintro e w' ⟨rfl, h1⟩
   rcases h1 with ⟨h1, h2⟩ | ⟨i, v, _, htk, hnone, hv, hm', t1⟩
   ·have t1 := Touch.of_below h1 []
    refine ⟨rfl, ⟨va, vc, k1.touch t1 (by simp), owns_touch o1 t1 (by simp)⟩, ⟨c, D, by simp; omega, ownsMap_touch hm t1 (by simp), ?_⟩, t1.mono (by simp)⟩
    exact (hk'.same (fun i hi => h2 i rfl hi)).mono (fun v x hx => hx.touch t1 (by simp))
   ·refine ⟨rfl, ⟨va, vc, k1.touch t1 (by simpa using hBF), owns_touch o1 t1 (by simpa using hFb)⟩, ⟨c + 1, _, by simp; omega, hm', ?_⟩, t1⟩
    have hi := takesF_lt htk
    have hh := has_of_atM hm Tryz.underlying129 (Tryz.zeroFI w) i (by have : (mainFiles g.body).length ≤ 6 := z1; simp only at hi; omega) hnone
    refine (hk'.mono (fun v x hx => hx.touch t1 (by simpa using hFb))).add (hm.tidy Tryz.lawInt) htk hi hnone hh ?_
    obtain ⟨va', vc', e1, e2⟩ := hv
    exact ⟨va', vc', e1, ownsRow_base hb e2⟩
theorem stepE (B F E base : Nat) (mo : Option FoundL) (hmo : ∀ g, mo = some g → (mainFiles g.body).length ≤ 6 ∧ 2 ≤ mainSize g.body ∧ mainSize g.body ≤ 32) (b : List FoundL) (hbl : b.length < 1000000) (f : FoundL) (hf : f.body.length ≤ 1000000) (w : World) (hEb : E < base) (hBE : B ≠ E) (h : MSt w B F E base mo) (hE : ESt w E mo b) :
  Calls Tryz.prog 187 #[.pointer (some ⟨B, 0, none⟩), packV f.kind.toNat f.set f.body] w fun e w' => e = .returned (.tuple #[]) ∧ MSt w' B F E base mo ∧ ESt w' E mo (b ++ [f]) ∧ Touch [E] w w' := by
 obtain ⟨c, D, hc, hm, hk⟩ := hE
 cases mo with
 | none =>
  subst hk
  refine (readExtra_walk B false 0 0 [] none 0 F E c (.map []) f hf (by simp) (by omega) w h hm (fun n v hv => by rw [atM_empty] at hv; cases hv)).mono ?_
  rintro e w' ⟨rfl, h1⟩
  rcases h1 with ⟨h1, _⟩ | ⟨i, v, e1, _⟩
  ·have t1 := Touch.of_below h1 []
   exact ⟨rfl, Blk.touch h t1 (by simp), ⟨c, _, by simp; omega, ownsMap_touch hm t1 (by simp), rfl⟩, t1.mono (by simp)⟩
  ·cases e1
 | some g =>
  obtain ⟨z1, z2⟩ := hmo g rfl
  obtain ⟨va, vc, k1, o1⟩ := h
  have hk' : KMap D (takesE (mainOf g)) b 20 (fun v x => v = extraV (mainSize g.body) x) := hk
  refine (readExtra_walk B true g.set (mainSize g.body) (mainFiles g.body) va vc F E c D f hf (fun _ => z2) (by omega) w k1 hm (fun n v hv => ?_)).mono ?_
  ·cases hx : firstOf (takesE (mainOf g)) b n with
   | none => rw [hk'.gone n hx] at hv; cases hv
   | some x =>
    obtain ⟨v', hv', rfl⟩ := hk'.there n x hx
    rw [hv'] at hv
    cases hv
    exact ⟨_, _, rfl⟩
  ·rintro e w' ⟨rfl, h1⟩
   rcases h1 with ⟨h1, h2⟩ | ⟨i, v, _, htk, hnone, hv, hm', t1⟩
   ·have t1 := Touch.of_below h1 []
    refine ⟨rfl, ⟨va, vc, k1.touch t1 (by simp), owns_touch o1 t1 (by simp)⟩, ⟨c, D, by simp; omega, ownsMap_touch hm t1 (by simp), ?_⟩, t1.mono (by simp)⟩
    exact hk'.same (fun i hi => h2 i rfl hi)
   ·refine ⟨rfl, ⟨va, vc, k1.touch t1 (by simpa using hBE), owns_touch o1 t1 (by simpa using hEb)⟩, ⟨c + 1, _, by simp; omega, hm', ?_⟩, t1⟩
    have hi := takesE_lt htk
    have hh := has_of_atM hm Tryz.underlying130 (Tryz.zeroEI w) i (by omega) hnone
    exact hk'.add (hm.tidy Tryz.lawInt) htk hi hnone hh hv
end Go.Proofs.YtonjphollmdicaaGreatDoor
namespace Go.Proofs.YtonjphollmdicaaGreatDoor
open Go.ChangeShapes Go.WideShapes Go.ChangeAt Go.RowKit
open Go.Maps
set_option linter.unusedSimpArgs false in
set_option maxRecDepth 100000 in
set_option maxHeartbeats 4000000 in
theorem walk_walk (M base : Nat) (l : List FoundL) (v : List UInt8) (w : World) (hv : v.length ≤ 1000000) (hl : l.length + v.length < 1000000000) (hb : base ≤ w.heap.size) (hMb : M < base) (hM0 : 0 < M) (hK : Kinds w) (hp : Pile w M base l) :
    Calls Tryz.prog 108 #[.string (str v), .func (.func 109) #[.map (some M)] #[]] w fun e w' => e = .returned (.tuple #[]) ∧ Pile w' M base (l ++ findV v) ∧ Below M w w' := by
  have hss := str_size v
  have HK := hid_of hK
  have HP := hid_of hp
  clear hK hp
  go_enter Tryz.func108, Tryz.ntmps108
  go_wp2_with fail
  go_loopw [4] (fun at' W => ∃ (j : Nat) (F : List FoundL), j ≤ v.length ∧ at' = .int .i64 (j : Int) ∧ Pile W M base (l ++ F) ∧ Hid (F ++ findV (v.drop j) = findV v) ∧ Below M w W)
    (fun at' _ => v.length - (intOf at').toNat)
  case atStart => exact ⟨0, [], by omega, rfl, by rw [List.append_nil]; exact HP.out, hid_of rfl, Below.refl _ _⟩
  case round =>
    clear HP
    obtain ⟨j, F, hj, rfl, hpr, HF, hbl⟩ := hrel
    have hsz := hbl.size
    have HS0 : Hid (M ≤ wr.heap.size ∧ M < w.heap.size) := hid_of ⟨by omega, by omega⟩
    have HPR := hid_of hpr
    have HB := hid_of hbl
    clear hpr hbl
    by_cases hjl : j < v.length
    · have hst := findV_step (v.drop j) (by rw [List.length_drop]; omega)
      have ex : (str v).extract j v.length = str (v.drop j) := by rw [str_extract, List.take_of_length_le (by simp)]
      have hO := hid_of (fun W => Open_walk (v.drop j) (by rw [List.length_drop]; omega) W)
      have hFl : F.length + (findV (v.drop j)).length ≤ v.length := by
        have h1 := congrArg List.length HF.out
        rw [List.length_append] at h1
        have h2 := findV_len v
        omega
      have g1 : (0 : Int) ≤ (j : Int) := by omega
      have g2 : (j : Int) ≤ (v.length : Int) := by omega
      obtain ⟨tx, htx⟩ : ∃ tx, tx = v.drop j := ⟨_, rfl⟩
      have hlt : tx.length = v.length - j := by rw [htx, List.length_drop]
      have hd1 : v.drop (j + 1) = tx.drop 1 := by rw [htx, List.drop_drop]
      have hdn : ∀ n, v.drop (j + n) = tx.drop n := fun n => by rw [htx, List.drop_drop]
      rw [← htx] at hst ex hO HF hFl
      have wj1 : IntKind.i64.wrap ((j : Int) + 1) = (j : Int) + 1 := by rw [IntKind.wrap_i64]; omega
      have HST := hid_of hst
      have HD1 := hid_of hd1
      have HDN := hid_of hdn
      clear hst hd1 hdn htx
      by_cases c1 : isOpen tx = true
      · obtain ⟨o1, o2, o3, o4, o5⟩ := open_found c1
        have hov : openV tx = .tuple #[packV (foundAt tx).kind.toNat (foundAt tx).set (foundAt tx).body, .int .i64 ((22 + bodyN tx : Nat) : Int)] := by
          unfold openV
          rw [if_pos c1, o1, o2, o3, o4]
        rw [hov] at hO
        have hbn := bodyN_lt tx
        have hkind : (foundAt tx).kind = tx.getD 3 0 := rfl
        obtain ⟨f, hf⟩ : ∃ f, f = foundAt tx := ⟨_, rfl⟩
        obtain ⟨n, hn⟩ : ∃ n, n = 22 + bodyN tx := ⟨_, rfl⟩
        have hrl : rightL tx = if kindL f.kind then some (f, n) else none := by
          unfold rightL
          rw [isRight_eq, ← isOpen_eq, c1, Bool.true_and, ← hkind, ← hf, ← hn]
        have hn22 : 22 ≤ n ∧ n < 70000 := by omega
        rw [← hn] at hO o5
        rw [← hf] at hO
        have HRL := hid_of hrl
        have e0 : ((n : Int) == 0) = false := by simp; omega
        have hIK := hid_of (fun W h => isKind_walk f.kind W h)
        unfold packV at hO
        clear c1 o1 o2 o3 o4 hov hkind hf hrl
        by_cases c2 : kindL f.kind = true
        · rw [c2] at hIK
          have HFN : Hid ((F ++ [f]) ++ findV (v.drop (j + n)) = findV v) := hid_of (by
            have := HST.out
            rw [HRL.out, c2] at this
            simp only [if_pos] at this
            rw [HDN.out, ← HF.out, this]
            simp)
          have hlF : F.length + 1 ≤ v.length := by
            have h1 := congrArg List.length HFN.out
            simp only [List.length_append, List.length_cons, List.length_nil] at h1
            have h2 := findV_len v
            omega
          have wjn : IntKind.i64.wrap ((j : Int) + (n : Int)) = (j : Int) + (n : Int) := by rw [IntKind.wrap_i64]; omega
          clear HST HRL HD1 HDN HF hFl c2 hn hbn
          go_wp2_with fail
          refine (hO.out _).mono ?_
          rintro e w2 ⟨rfl, hb2⟩
          have hs2 := hb2.size
          have P2 := hid_of (HPR.out.later hb2)
          have B2 := hid_of (HB.out.trans (hb2.mono (by have := HS0.out; omega)))
          clear hb2 HPR HB
          go_wp2_with fail
          refine (hIK.out _ (HK.out.later (B2.out.alloc (by have := HS0.out; omega) (Obj.cells #[Value.int IntKind.u8 (f.kind.toNat : Int), Value.int IntKind.u64 (f.set : Int), Value.string (str f.body)] 181)) hM0)).mono ?_
          rintro e w4 ⟨rfl, hb4⟩
          have k4 := (Blk.new w2 #[Value.int IntKind.u8 (f.kind.toNat : Int), Value.int IntKind.u64 (f.set : Int), Value.string (str f.body)] 181).touch (Touch.of_below hb4 []) (by simp)
          have P4 := hid_of ((P2.out.later ((Below.refl _ _).alloc (Nat.le_refl _) (Obj.cells #[Value.int IntKind.u8 (f.kind.toNat : Int), Value.int IntKind.u64 (f.set : Int), Value.string (str f.body)] 181))).later hb4)
          have B4 := hid_of ((B2.out.alloc (by have := HS0.out; omega) (Obj.cells #[Value.int IntKind.u8 (f.kind.toNat : Int), Value.int IntKind.u64 (f.set : Int), Value.string (str f.body)] 181)).trans (hb4.mono (by have := HS0.out; simp; omega)))
          have hs4 := hb4.size
          have hs4' : w2.heap.size + 1 ≤ w4.heap.size := by simpa using hs4
          have f0 := (k4 0 _ rfl).1
          have f1 := (k4 1 _ rfl).1
          have f2 := (k4 2 _ rfl).1
          have hA := hid_of (pile_add M base (l ++ F) f w4 (by rw [List.length_append]; omega) (by omega) hMb P4.out)
          unfold packV at hA
          clear k4 hb4 hs4 P2 B2 hIK hO
          go_wp2_with fail
          refine hA.out.mono ?_
          rintro e w5 ⟨rfl, hp5, hb5⟩
          have P5 := hid_of hp5
          have B5 := hid_of (B4.out.trans hb5)
          clear hp5 hb5 P4 B4 hA f0 f1 f2
          go_wp2_with fail
          refine ⟨⟨j + n, F ++ [f], by omega, by go_num, by rw [← List.append_assoc]; exact P5.out, HFN, B5.out⟩, by simp [intOf]; omega⟩
        · have c2' : kindL f.kind = false := by simpa using c2
          rw [c2'] at hIK
          have HFN : Hid (F ++ findV (v.drop (j + 1)) = findV v) := hid_of (by
            have := HST.out
            rw [HRL.out, c2'] at this
            simp only [Bool.false_eq_true, if_false] at this
            rw [HD1.out, ← HF.out, this])
          clear HST HRL HD1 HDN HF hFl c2 c2' hn hbn
          go_wp2_with fail
          refine (hO.out _).mono ?_
          rintro e w2 ⟨rfl, hb2⟩
          have hs2 := hb2.size
          have P2 := hid_of (HPR.out.later hb2)
          have B2 := hid_of (HB.out.trans (hb2.mono (by have := HS0.out; omega)))
          clear hb2 HPR HB
          go_wp2_with fail
          refine (hIK.out _ (HK.out.later (B2.out.alloc (by have := HS0.out; omega) (Obj.cells #[Value.int IntKind.u8 (f.kind.toNat : Int), Value.int IntKind.u64 (f.set : Int), Value.string (str f.body)] 181)) hM0)).mono ?_
          rintro e w4 ⟨rfl, hb4⟩
          have P4 := hid_of ((P2.out.later ((Below.refl _ _).alloc (Nat.le_refl _) (Obj.cells #[Value.int IntKind.u8 (f.kind.toNat : Int), Value.int IntKind.u64 (f.set : Int), Value.string (str f.body)] 181))).later hb4)
          have B4 := hid_of ((B2.out.alloc (by have := HS0.out; omega) (Obj.cells #[Value.int IntKind.u8 (f.kind.toNat : Int), Value.int IntKind.u64 (f.set : Int), Value.string (str f.body)] 181)).trans (hb4.mono (by have := HS0.out; simp; omega)))
          clear hb4 P2 B2 hIK hO
          go_wp2_with fail
          refine ⟨⟨j + 1, F, by omega, by go_num, P4.out, HFN, B4.out⟩, by simp [intOf]; omega⟩
      · have c1' : isOpen tx = false := by simpa using c1
        have hov : openV tx = .tuple #[packV 0 0 [], .int .i64 0] := by
          unfold openV
          rw [if_neg c1]
        rw [hov] at hO
        have hrl : rightL tx = none := by
          unfold rightL
          rw [isRight_eq, ← isOpen_eq, c1', Bool.false_and]
          rfl
        have HFN : Hid (F ++ findV (v.drop (j + 1)) = findV v) := hid_of (by
            have := HST.out
            rw [hrl] at this
            simp only at this
            rw [HD1.out, ← HF.out, this])
        unfold packV at hO
        clear HST HD1 HDN HF hFl c1 c1' hov hrl
        go_wp2_with fail
        refine (hO.out _).mono ?_
        rintro e w2 ⟨rfl, hb2⟩
        have hs2 := hb2.size
        have P2 := hid_of (HPR.out.later hb2)
        have B2 := hid_of (HB.out.trans (hb2.mono (by have := HS0.out; omega)))
        clear hb2 HPR HB hO
        go_wp2_with fail
        refine ⟨⟨j + 1, F, by omega, by go_num, P2.out.later ((Below.refl _ _).alloc (Nat.le_refl _) _), HFN, B2.out.alloc (by have := HS0.out; omega) _⟩, by simp [intOf]; omega⟩
    · obtain rfl : v.length = j := by omega
      have hend : findV v = F := by
        have := HF.out
        rw [List.drop_length, findV_nil, List.append_nil] at this
        exact this.symm
      have HE := hid_of hend
      clear hend
      go_wp2_with fail
      go_end0
      exact ⟨rfl, by rw [HE.out]; exact HPR.out, HB.out⟩
end Go.Proofs.YtonjphollmdicaaGreatDoor
namespace Go.Proofs.YtonjphollmdicaaGreatDoor
open Go.ChangeShapes Go.WideShapes Go.ChangeAt Go.RowKit
open Go.Maps
theorem own_zero {w : World} {P : Program} {k : TypeId} {F : Nat} {D : DataW Value} (h : w.ownsMap P k rawE F 0 D) : D = .map [] := by
 obtain ⟨es, clock, _, _, hs, rfl⟩ := h
 have : es = #[] := Array.eq_empty_of_size_eq_zero (by omega)
 subst this
 rfl
theorem FSt.turn {W : World} {F base : Nat} {mo mo' : Option FoundL} (h : FSt W F base mo []) : FSt W F base mo' [] := by
 obtain ⟨c, D, hc, hm, _⟩ := h
 have h0 : c = 0 := by simpa using hc
 subst h0
 have := own_zero hm
 subst this
 refine ⟨0, _, Nat.le_refl _, hm, ?_⟩
 cases mo' with
 | none => rfl
 | some f => exact KMap.empty _ _ _
theorem ESt.turn {W : World} {E : Nat} {mo mo' : Option FoundL} (h : ESt W E mo []) : ESt W E mo' [] := by
 obtain ⟨c, D, hc, hm, _⟩ := h
 have h0 : c = 0 := by simpa using hc
 subst h0
 have := own_zero hm
 subst this
 refine ⟨0, _, Nat.le_refl _, hm, ?_⟩
 cases mo' with
 | none => rfl
 | some f => exact KMap.empty _ _ _
structure RSt (W : World) (B F E base : Nat) (a b c : List FoundL) : Prop where
 m : MSt W B F E base (a.find? isMain)
 f : FSt W F base (a.find? isMain) b
 e : ESt W E (a.find? isMain) c
theorem RSt.touch {W W' : World} {B F E base : Nat} {a b c : List FoundL} (h : RSt W B F E base a b c) {L : List Nat} (ht : Touch L W W') (hL : ∀ x ∈ L, x ≠ B ∧ x ≠ F ∧ x ≠ E ∧ x < base) : RSt W' B F E base a b c :=
 ⟨h.m.touch ht (fun e => (hL B e).1 rfl) (fun x hx => (hL x hx).2.2.2), h.f.touch ht (fun e => (hL F e).2.1 rfl) (fun x hx => (hL x hx).2.2.2), h.e.touch ht (fun e => (hL E e).2.2.1 rfl)⟩
theorem RSt.stepM {B F E base : Nat} {a : List FoundL} {f : FoundL} (hf : f.body.length ≤ 1000000) {w : World} (hb : base ≤ w.heap.size) (hB : B < base) (hBF : B ≠ F) (hBE : B ≠ E) (h : RSt w B F E base a [] []) :
  Calls Tryz.prog 185 #[.pointer (some ⟨B, 0, none⟩), packV f.kind.toNat f.set f.body] w fun e w' => e = .returned (.tuple #[]) ∧ RSt w' B F E base (a ++ [f]) [] [] ∧ Touch [B, F, E] w w' :=
 (Go.Proofs.YtonjphollmdicaaGreatDoor.stepM B F E base a f hf w hb h.m).mono (by
  rintro e w' ⟨rfl, h1, h2⟩
  exact ⟨rfl, ⟨h1, FSt.turn (h.f.touch h2 (by simpa using Ne.symm hBF) (by simpa using hB)), ESt.turn (h.e.touch h2 (by simpa using Ne.symm hBE))⟩, h2.mono (by simp)⟩)
theorem RSt.stepF {B F E base : Nat} {a b : List FoundL} {f : FoundL} (hbl : b.length < 1000000) (hf : f.body.length ≤ 1000000) {w : World} (hb : base ≤ w.heap.size) (hF : F < base) (hBF : B ≠ F) (hFE : F ≠ E) (h : RSt w B F E base a b []) :
  Calls Tryz.prog 186 #[.pointer (some ⟨B, 0, none⟩), packV f.kind.toNat f.set f.body] w fun e w' => e = .returned (.tuple #[]) ∧ RSt w' B F E base a (b ++ [f]) [] ∧ Touch [B, F, E] w w' :=
 (Go.Proofs.YtonjphollmdicaaGreatDoor.stepF B F E base _ (fun _ hg => main_size hg) b hbl f hf w hb hF hBF h.m h.f).mono (by
  rintro e w' ⟨rfl, h1, h2, h3⟩
  exact ⟨rfl, ⟨h1, h2, h.e.touch h3 (by simpa using Ne.symm hFE)⟩, h3.mono (by simp)⟩)
theorem RSt.stepE {B F E base : Nat} {a b c : List FoundL} {f : FoundL} (hbl : c.length < 1000000) (hf : f.body.length ≤ 1000000) {w : World} (hE : E < base) (hBE : B ≠ E) (hFE : F ≠ E) (h : RSt w B F E base a b c) :
  Calls Tryz.prog 187 #[.pointer (some ⟨B, 0, none⟩), packV f.kind.toNat f.set f.body] w fun e w' => e = .returned (.tuple #[]) ∧ RSt w' B F E base a b (c ++ [f]) ∧ Touch [B, F, E] w w' :=
 (Go.Proofs.YtonjphollmdicaaGreatDoor.stepE B F E base _ (fun _ hg => main_size hg) c hbl f hf w hE hBE h.m h.e).mono (by
  rintro e w' ⟨rfl, h1, h2, h3⟩
  exact ⟨rfl, ⟨h1, h.f.touch h3 (by simpa using hFE) (by simpa using hE), h2⟩, h3.mono (by simp)⟩)
end Go.Proofs.YtonjphollmdicaaGreatDoor
