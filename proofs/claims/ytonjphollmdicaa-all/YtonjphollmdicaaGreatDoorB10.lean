import Derived.Test.YtonjphollmdicaaGreatDoorB03
import Derived.Test.YtonjphollmdicaaGreatDoorB05
import Derived.Test.YtonjphollmdicaaGreatDoorB09
import Derived.Deep.QuietTactic
import Derived.BigQuiet
import Derived.Deep.RegionHeld
import Derived.Deep.RegionHeldLaw
import Derived.Laws.AppendOwnNone
set_option maxRecDepth 100000
set_option maxHeartbeats 4000000
set_option linter.unusedSimpArgs false
namespace Go.Proofs.YtonjphollmdicaaGreatDoor
open Go.ChangeShapes Go.WideShapes Go.ChangeAt Go.RowKit
theorem Do (n : Int) (w : World) :
    Calls Tryz.prog 65 #[.int .i64 n] w fun e w' => e = .returned (.bool (Ay n)) ∧ w' = w := by
  by_cases h1 : 2 ≤ n
  · by_cases h2 : n ≤ 32
    · have e : n.tmod 2 = n % 2 := Int.tmod_eq_emod_of_nonneg (by omega)
      go_enter Tryz.func65, Tryz.ntmps65
      go_wp2
      go_ret
      refine ⟨?_, rfl⟩
      show Ending.returned (.bool (n % 2 == 0)) = _
      have e2 : (n % 2 == 0) = Ay n := by
        unfold Ay
        by_cases h3 : n % 2 = 0
        · simp [h1, h2, h3]
        · simp [h3]
      rw [e2]
    · go_enter Tryz.func65, Tryz.ntmps65
      go_wp2
      go_ret
      refine ⟨?_, rfl⟩
      have e2 : Ay n = false := by unfold Ay; exact decide_eq_false (by omega)
      rw [e2]
      rfl
  · go_enter Tryz.func65, Tryz.ntmps65
    go_wp2
    go_ret
    refine ⟨?_, rfl⟩
    have e2 : Ay n = false := by unfold Ay; exact decide_eq_false (by omega)
    rw [e2]
    rfl
theorem JU (a : Nat) (ha : a < 65536) (w : World) :
    Calls Tryz.prog 105 #[.int .u16 (a : Int)] w fun e w' => e = .returned (.int .u16 ((Math.inv a : Nat) : Int)) ∧ w' = w := by
  go_enter Tryz.func105, Tryz.ntmps105
  go_wp2
  go_loop [0, 3, 4] (fun x p i => ∃ k a' p' : Nat, k ≤ 15 ∧ a' < 65536 ∧ p' < 65536 ∧ Hid (Math.invGo (15 - k) a' p' = Math.inv a) ∧ x = .int .u16 (a' : Int) ∧ p = .int .u16 (p' : Int) ∧ i = .int .i64 (k : Int))
                    (fun _ _ i => 15 - (intOf i).toNat)
  case atStart => exact ⟨0, a, 1, by omega, ha, by omega, Aa rfl, rfl, rfl, rfl⟩
  case round =>
    obtain ⟨k, a', p', hk, ha', hp', hm, rfl, rfl, rfl⟩ := hrel
    by_cases hlt : k < 15
    · have hs : Math.mul a' a' < 65536 := Math.mul_lt ha' a'
      go_wp2_with fail
      refine (CL a' a' ha' ha' w).mono ?_
      rintro e w' ⟨rfl, rfl⟩
      go_wp2_with fail
      refine (CL p' (Math.mul a' a') hp' hs _).mono ?_
      rintro e w' ⟨rfl, rfl⟩
      go_wp2_with fail
      refine ⟨⟨k + 1, Math.sq a', Math.mul p' (Math.sq a'), by omega, Math.sq_lt ha', Math.mul_lt hp' _, Aa ?_, rfl, rfl, by go_num⟩, ?_⟩
      · have := hm.out
        rw [show 15 - k = (15 - (k + 1)) + 1 from by omega] at this
        exact this
      · simp [intOf]; omega
    · have hk15 : k = 15 := by omega
      subst hk15
      go_wp2_with fail
      go_ret
      have := hm.out
      simp only [Nat.sub_self, Math.invGo] at this
      rw [← this]
      exact ⟨rfl, rfl⟩
theorem Fr (kd : UInt8) (set : Nat) (body : List UInt8) (hset : set < P64) (hl : body.length ≤ 60000) (w : World) :
    Calls Tryz.prog 70 #[.string (str [kd]), .int .u64 (set : Int), .string (str body)] w fun e w' => e = .returned (.string (str (BD kd set body))) ∧ Below w.heap.size w w' := by
  have sb := Ae body
  have hlen : (Ew kd set body).length = 14 + body.length := by simp [Ew, Ao]; omega
  have hH := Fy (Ew kd set body)
  have HH := Aa hH
  have HS := Aa hset
  have hp : (({ data := #[83, 65, 76] } : ByteArray) ++ str [kd]) = str [83, 65, 76, kd] := KE [83, 65, 76] [kd]
  have s1 : (str [83, 65, 76, kd]).size = 4 := rfl
  have s0 : (str [kd]).size = 1 := rfl
  have s2 : (str (Af set 8)).size = 8 := by rw [Ae, Ao]
  have s3 : (str (Af body.length 2)).size = 2 := by rw [Ae, Ao]
  obtain ⟨p1, hp1⟩ : ∃ p, p = [83, 65, 76, kd] ++ Af set 8 := ⟨_, rfl⟩
  have e1 : str [83, 65, 76, kd] ++ str (Af set 8) = str p1 := by rw [hp1]; exact KE _ _
  have z1 : (str p1).size = 12 := by rw [Ae, hp1]; simp [Ao]
  obtain ⟨p2, hp2⟩ : ∃ p, p = p1 ++ Af body.length 2 := ⟨_, rfl⟩
  have e2 : str p1 ++ str (Af body.length 2) = str p2 := by rw [hp2]; exact KE _ _
  have z2 : (str p2).size = 14 := by rw [Ae, hp2, hp1]; simp [Ao]
  have e3 : str p2 ++ str body = str (Ew kd set body) := by rw [hp2, hp1]; exact KE _ _
  have z3 : (str (Ew kd set body)).size = 14 + body.length := by rw [Ae, hlen]
  have e4 : str (Ew kd set body) ++ str (Af (AC (Ew kd set body)) 8) = str (BD kd set body) := KE _ _
  have s4 : (str (Af (AC (Ew kd set body)) 8)).size = 8 := by rw [Ae, Ao]
  have E4 := Aa e4
  clear hH hset e4 hp1 hp2
  have wl : IntKind.u64.wrap (body.length : Int) = (body.length : Int) := by rw [IntKind.wrap_u64]; omega
  go_enter Tryz.func70, Tryz.ntmps70
  go_wp2_with fail
  refine (Br 8 set w (by omega) HS.out).mono ?_
  rintro e w1 ⟨rfl, hb1⟩
  go_wp2_with fail
  refine (Br 2 body.length w1 (by omega) (by unfold P64; omega)).mono ?_
  rintro e w2 ⟨rfl, hb2⟩
  go_wp2_with fail
  refine (DS (Ew kd set body) (by omega) _).mono ?_
  rintro e w3 ⟨rfl, rfl⟩
  go_wp2_with fail
  refine (Br 8 (AC (Ew kd set body)) _ (by omega) HH.out).mono ?_
  rintro e w4 ⟨rfl, hb4⟩
  go_wp2_with fail
  go_ret
  refine ⟨congrArg (fun s => Ending.returned (Value.string s)) E4.out, Below.next (Below.next hb1 hb2) hb4⟩
theorem Kh (fs : List Ak) (name : List UInt8) (i k : Nat) (hi : i ≤ fs.length) (hk : k < i) : BC ((fs.take i).drop k) name = ((fs[k]'(by omega)).1 == name || BC ((fs.take i).drop (k + 1)) name) := by
  rw [List.drop_eq_getElem_cons (by rw [List.length_take]; omega)]
  simp only [BC, List.any_cons, List.getElem_take]
theorem Jz (fs : List Ak) (a : Option Addr) (cap : Nat) (hn : fs.length ≤ 1000) (w : World) (hrd : Rd w a (As fs)) :
    Calls Tryz.prog 89 #[.slice a fs.length cap] w fun e w' => e = .returned (.bool (DT fs)) ∧ Below w.heap.size w w' := by
  go_enter Tryz.func89, Tryz.ntmps89
  go_wp2_with fail
  go_loopw [3, 4] (fun i _ wr => ∃ k : Nat, k ≤ fs.length ∧ i = .int .i64 (k : Int) ∧ Below w.heap.size w wr ∧ Hid (∀ j, j < k → IV fs j = false))
    (fun i _ _ => fs.length - (intOf i).toNat)
  case atStart => exact ⟨0, by omega, rfl, Below.refl _ _, Aa (by intro j hj; omega)⟩
  case round =>
    obtain ⟨k, hk, rfl, hbl, hd⟩ := hrel
    have HB0 := Aa hbl
    clear hbl
    by_cases hlt : k < fs.length
    · have hdup : IV fs k = BC (fs.take k) fs[k].1 := by unfold IV; rw [List.getElem?_eq_getElem hlt]
      have hyes : IV fs k = true → DT fs = true := fun h => List.any_eq_true.2 ⟨k, by simpa using hlt, h⟩
      have hno : IV fs k = false → ∀ j, j < k + 1 → IV fs j = false := by
        intro h j hj
        rcases Nat.lt_or_ge j k with h' | h'
        · exact hd.out j h'
        · have : j = k := by omega
          subst this
          exact h
      rw [hdup] at hyes hno
      have HY := Aa hyes
      have HN := Aa hno
      clear hyes hno hdup hd
      go_wp2_with fail
      go_loopw [4] (fun i wr => ∃ q : Nat, q ≤ k ∧ i = .int .i64 (q : Int) ∧ Below w.heap.size w wr ∧ Hid (BC ((fs.take k).drop q) fs[k].1 = BC (fs.take k) fs[k].1))
        (fun i _ => k - (intOf i).toNat)
      case atStart => exact ⟨0, by omega, rfl, HB0.out, Aa rfl⟩
      case round =>
        clear HB0
        obtain ⟨q, hq, rfl, hbl, hm⟩ := hrel
        by_cases hql : q < k
        · have hdk := Kh fs fs[k].1 k q (by omega) hql
          have HD := Aa hdk
          clear hdk
          obtain ⟨b, off, rfl, hc1, _⟩ := Bk hrd (Nat.le_refl _) hbl k hlt
          obtain ⟨b', off', e', hc3, _⟩ := Bk hrd (Nat.le_refl _) hbl q (by omega)
          cases e'
          have hq2 : q < fs.length := by omega
          have g1 : (k : Int) < (fs.length : Int) := by omega
          have g2 : (q : Int) < (fs.length : Int) := by omega
          obtain ⟨n1, hn1⟩ : ∃ x, x = fs[k].1 := ⟨_, rfl⟩
          obtain ⟨n2, hn2⟩ : ∃ x, x = fs[q].1 := ⟨_, rfl⟩
          rw [← hn1] at HD hm hc1 HY HN
          rw [← hn2] at HD hc3
          have HN1 := Aa hn1
          clear hn1 hn2
          have HB := Aa hbl
          have HR := Aa hrd
          clear hbl hrd
          go_wp2_with fail
          go_quiet (fail)
          go_wp2_with fail
          · go_ret
            have he : ((str n1).toList == (str n2).toList) = true := by assumption
            rw [Au, Au] at he
            have h2 := beq_iff_eq.1 he
            subst h2
            have := hm.out
            rw [HD.out] at this
            simp at this
            rw [HY.out this]
            exact ⟨rfl, BJ HB.out _⟩
          · have he : ((str n1).toList == (str n2).toList) = false := by assumption
            rw [Au, Au] at he
            have := hm.out
            rw [HD.out, show (n2 == n1) = false from by rw [beq_eq_false_iff_ne] at he ⊢; exact fun h => he h.symm] at this
            rw [HN1.out] at this
            exact ⟨⟨q + 1, by omega, by go_num, BJ HB.out _, Aa (by simpa using this)⟩, by simp [intOf]; omega⟩
        · obtain rfl : q = k := by omega
          have h0 : BC (fs.take q) fs[q].1 = false := by
            rw [← hm.out, List.drop_eq_nil_of_le (by rw [List.length_take]; omega)]
            rfl
          have H2 := Aa (HN.out h0)
          have HB := Aa hbl
          clear h0 HY HN hm hbl
          go_wp2_with fail
          exact ⟨⟨q + 1, by omega, by go_num, HB.out, H2⟩, by simp [intOf]; omega⟩
    · obtain rfl : k = fs.length := by omega
      go_wp2_with fail
      go_ret
      have e : DT fs = false := by
        unfold DT
        rw [List.any_eq_false]
        intro j hj
        have := hd.out j (by simpa using hj)
        simp [this]
      rw [e]
      exact ⟨rfl, HB0.out⟩
theorem Hg (fs : List Ak) : Cm fs = (decide (1 ≤ fs.length ∧ fs.length ≤ 6) && fs.all ED && !DT fs) := by
  have h : (List.range fs.length).all (OV fs) = (fs.all ED && !DT fs) := by
    rw [Bool.eq_iff_iff, Bool.and_eq_true, List.all_eq_true, List.all_eq_true, Bool.not_eq_true', DT, List.any_eq_false]
    constructor
    · intro h
      refine ⟨?_, ?_⟩
      · intro f hf
        obtain ⟨i, hi, rfl⟩ := List.mem_iff_getElem.1 hf
        have := h i (by simpa using hi)
        unfold OV at this
        rw [List.getElem?_eq_getElem hi, Bool.and_eq_true] at this
        exact this.1
      · intro i hi
        have hi' : i < fs.length := by simpa using hi
        have := h i hi
        unfold OV at this
        rw [List.getElem?_eq_getElem hi', Bool.and_eq_true] at this
        unfold IV
        rw [List.getElem?_eq_getElem hi']
        simpa using this.2
    · rintro ⟨h1, h2⟩ i hi
      have hi' : i < fs.length := by simpa using hi
      unfold OV
      rw [List.getElem?_eq_getElem hi']
      have := h2 i hi
      unfold IV at this
      rw [List.getElem?_eq_getElem hi'] at this
      simp only [Bool.and_eq_true]
      exact ⟨h1 _ (List.getElem_mem hi'), by simpa using this⟩
  unfold Cm
  rw [h, Bool.and_assoc]
theorem IX (fs : List Ak) (a : Option Addr) (cap : Nat) (hl : ∀ f ∈ fs, f.1.length < 140737488355328 ∧ f.2.length < 140737488355328) (w : World) (hrd : Rd w a (As fs)) :
    Calls Tryz.prog 66 #[.slice a fs.length cap] w fun e w' => e = .returned (.bool (Cm fs)) ∧ Below w.heap.size w w' := by
  by_cases h1 : fs.length < 1
  · have e : Cm fs = false := by unfold Cm; rw [decide_eq_false (by omega)]; rfl
    go_enter Tryz.func66, Tryz.ntmps66
    go_wp2
    go_ret
    exact ⟨by first | rfl | (rw [e]; rfl), Below.refl _ _⟩
  · by_cases h2 : 6 < fs.length
    · have e : Cm fs = false := by unfold Cm; rw [decide_eq_false (by omega)]; rfl
      go_enter Tryz.func66, Tryz.ntmps66
      go_wp2
      go_ret
      exact ⟨by first | rfl | (rw [e]; rfl), Below.refl _ _⟩
    · go_enter Tryz.func66, Tryz.ntmps66
      go_wp2_with fail
      go_loop [3] (fun i => ∃ k : Nat, k ≤ fs.length ∧ i = .int .i64 (k : Int) ∧ Hid (∀ f ∈ fs.take k, ED f = true))
        (fun i => fs.length - (intOf i).toNat)
      case atStart => exact ⟨0, by omega, rfl, Aa (by intro f hf; simp at hf)⟩
      case round =>
        obtain ⟨k, hk, rfl, hd⟩ := hrel
        by_cases hlt : k < fs.length
        · obtain ⟨b, off, rfl, hc1, hc2⟩ := Bk hrd (Nat.le_refl _) (Below.refl _ w) k hlt
          have hf := hl fs[k] (List.getElem_mem hlt)
          have hyes : ED fs[k] = true → ∀ f ∈ fs.take (k + 1), ED f = true := by
            intro h f hf
            rw [Ap fs k hlt, List.mem_append] at hf
            rcases hf with hf | hf
            · exact hd.out f hf
            · simp at hf; subst hf; exact h
          have hno : ED fs[k] = false → Cm fs = false := by
            intro h
            rw [Hg, show fs.all ED = false from List.all_eq_false.2 ⟨fs[k], List.getElem_mem hlt, by simp [h]⟩]
            simp
          have hfe : ED fs[k] = decide (1 ≤ fs[k].1.length ∧ fs[k].1.length ≤ 20 ∧ fs[k].2.length ≤ 400) := rfl
          obtain ⟨n1, hn1⟩ : ∃ x, x = fs[k].1 := ⟨_, rfl⟩
          obtain ⟨n2, hn2⟩ : ∃ x, x = fs[k].2 := ⟨_, rfl⟩
          rw [← hn1] at hfe hf hc1
          rw [← hn2] at hfe hf hc2
          have HF := Aa hfe
          have HY := Aa hyes
          have HN := Aa hno
          have HRD := Aa hrd
          have HL := Aa hl
          clear hn1 hn2 hfe hyes hno hd hrd hl
          have s1 := Ae n1
          have s2 := Ae n2
          have hB : Hid (Below w.heap.size w w) := Aa (Below.refl _ _)
          by_cases t1 : n1.length < 1
          · go_wp2_with fail
            go_ret
            rw [HN.out (by rw [HF.out]; exact decide_eq_false (by omega))]
            exact ⟨rfl, hB.out⟩
          · by_cases t2 : 20 < n1.length
            · go_wp2_with fail
              go_ret
              rw [HN.out (by rw [HF.out]; exact decide_eq_false (by omega))]
              exact ⟨rfl, hB.out⟩
            · by_cases t3 : 400 < n2.length
              · go_wp2_with fail
                go_ret
                rw [HN.out (by rw [HF.out]; exact decide_eq_false (by omega))]
                exact ⟨rfl, hB.out⟩
              · go_wp2_with fail
                exact ⟨⟨k + 1, by omega, by go_num, Aa (HY.out (by rw [HF.out]; exact decide_eq_true (by omega)))⟩, by simp [intOf]; omega⟩
        · obtain rfl : k = fs.length := by omega
          have hall : fs.all ED = true := by
            rw [List.all_eq_true]
            intro f hf
            exact hd.out f (by rw [List.take_length]; exact hf)
          have hset : Cm fs = !DT fs := by
            rw [Hg, hall, decide_eq_true (by omega)]
            simp
          have HS := Aa hset
          clear hset hall hd
          have HRD := Aa hrd
          clear hl hrd
          go_wp2_with fail
          refine (Jz fs a cap (by omega) w HRD.out).mono ?_
          rintro e w1 ⟨rfl, hb1⟩
          go_wp2_with fail
          go_ret
          rw [HS.out]
          exact ⟨rfl, hb1⟩
theorem Iy (r : List Nat) (a : Option Addr) (cap : Nat) (hr : r.length ≤ 1000) (hx : ∀ x ∈ r, x < 65536) (w : World) (hrd : Rd w a (A9 r)) :
  Calls Tryz.prog 73 #[.slice a r.length cap] w fun e w' => e = .returned (.string (str (Cx r))) ∧ Below w.heap.size w w' := by
 go_enter Tryz.func73, Tryz.ntmps73
 go_wp2_with fail
 go_loopw [3, 4] (fun s i wr => ∃ k : Nat, k ≤ r.length ∧ s = .string (str (Cx (r.take k))) ∧ i = .int .i64 (k : Int) ∧ Below w.heap.size w wr)
  (fun _ i _ => r.length - (intOf i).toNat)
 case atStart => exact ⟨0, by omega, rfl, rfl, Below.refl _ _⟩
 case round =>
  obtain ⟨k, hk, rfl, rfl, hbl⟩ := hrel
  have hsz := hbl.size
  by_cases hlt : k < r.length
  ·obtain ⟨b, off, rfl, hc0⟩ := Ds hrd k (by omega)
   have hc : wr.cell? ⟨b, off + k, none⟩ = some (.int .u16 ((r.getD k 0 : Nat) : Int)) := by
    rw [hbl.cell (World.block_lt_of_cell? w _ hc0)]; exact hc0
   have hxl := AP hx k
   have hs1 : (str (Cx (r.take k))).size ≤ 2000 := by rw [Ae, EC, List.length_take]; omega
   have e : Cx (r.take (k + 1)) = Cx (r.take k) ++ Af (r.getD k 0) 2 := by
    rw [Ap r k hlt, Jl]
    congr 2
    simp [hlt]
   have e2 : str (Cx (r.take k)) ++ str (Af (r.getD k 0) 2) = str (Cx (r.take (k + 1))) := by rw [KE, e]
   have hs2 : (str (Af (r.getD k 0) 2)).size = 2 := by rw [Ae, Ao]
   obtain ⟨x, hxe⟩ : ∃ x, x = r.getD k 0 := ⟨_, rfl⟩
   rw [← hxe] at hc hxl e2 hs2
   obtain ⟨s0, hs0⟩ : ∃ x, x = Cx (r.take k) := ⟨_, rfl⟩
   rw [← hs0] at e2 hs1 ⊢
   have HE2 := Aa e2
   have HB := Aa hbl
   have HRD := Aa hrd
   have HX := Aa hx
   clear e e2 hxe hs0 hbl hrd hx hc0
   go_wp2_with fail
   refine (Br 2 x wr (by omega) (by unfold P64; omega)).mono ?_
   rintro e w1 ⟨rfl, hb1⟩
   go_wp2_with fail
   exact ⟨⟨k + 1, by omega, by rw [HE2.out], by go_num, HB.out.trans (hb1.mono hsz)⟩, by simp [intOf]; omega⟩
  ·obtain rfl : k = r.length := by omega
   go_wp2_with fail
   go_ret
   exact ⟨by first | rfl | (rw [List.take_length]; rfl), hbl⟩
theorem LJ (size : Nat) (fs : List Ak) (k : Nat) (h : k < fs.length) : Ca size (fs.take (k + 1)) = Ca size (fs.take k) ++ C8 fs[k].2 size := by
 unfold Ca
 rw [Ap fs k h, List.flatMap_append]
 simp
theorem Mh (size : Nat) (fs : List Ak) (h0 : 0 < size) : (Ca size fs).length = BM fs size := by
 have := Dn size fs h0
 simpa [BB] using this
theorem Mq (size : Nat) (fs : List Ak) (k : Nat) (h : k < fs.length) : BM (fs.take (k + 1)) size = BM (fs.take k) size + Aj fs[k].2.length size := by
 unfold BM
 rw [Ap fs k h, List.map_append, List.sum_append]
 rfl
theorem Pz {W W' : World} {b b' : Nat} {e : TypeId} {s s' : Nat} {v v' : Value} {n n' : Nat} {xs xs' : List Value} (h : W.ownsRow b e s v n xs) (hlt : W.heap.size ≤ b') (h' : W'.ownsRow b' e s' v' n' xs') : v.ownBlock = none ∨ v.ownBlock ≠ v'.ownBlock := by
 rcases h.2 with ⟨rfl, _⟩ | ⟨g, cap, cur, rfl, hg, hc, _⟩
 ·exact Or.inl rfl
 ·right
  have : g < W.heap.size := by
   rw [Array.getElem?_eq_some_iff] at hc
   exact hc.1
  rcases h'.2 with ⟨rfl, _⟩ | ⟨g', cap', cur', rfl, hg', _⟩
  ·simp [Value.ownBlock]
  ·simp [Value.ownBlock]; omega
theorem Sm (hS : ∀ (data : List UInt8) (size : Nat), 0 < size → size ≤ 32 → data.length ≤ 400 → ∀ w : World,
  Calls Tryz.prog 104 #[.string (str data), .int .i64 (size : Int)] w fun e w' => ∃ v', e = .returned v' ∧ w'.ownsRow w.heap.size 9 1 v' (Aj data.length size) (AM (C8 data size)) ∧ Below w.heap.size w w')
  (fs : List Ak) (size : Nat) (a : Option Addr) (cap : Nat) (h0 : 0 < size) (h1 : size ≤ 32) (hn : fs.length ≤ 6) (hf : ∀ f ∈ fs, f.2.length ≤ 400) (w : World) (hrd : Rd w a (As fs)) :
  Calls Tryz.prog 67 #[.slice a fs.length cap, .int .i64 (size : Int)] w fun e w' => ∃ v', e = .returned v' ∧ w'.ownsRow w.heap.size 9 1 v' (BM fs size) (AM (Ca size fs)) ∧ Below w.heap.size w w' := by
 obtain ⟨i0, hi, hz0, hz1, hz2⟩ := info_parts Tryz.infoS
 have HS := Aa hS
 clear hS
 go_enter Tryz.func67, Tryz.ntmps67
 go_wp2_with fail
 go_loopw [5, 6, 7] (fun l i _ wr => ∃ k : Nat, k ≤ fs.length ∧ i = .int .i64 (k : Int) ∧ wr.ownsRow w.heap.size 9 1 l (BM (fs.take k) size) (AM (Ca size (fs.take k))) ∧ Below w.heap.size w wr)
  (fun _ i _ _ => fs.length - (intOf i).toNat)
 case atStart => exact ⟨0, by omega, rfl, World.ownsRow_nil _ _ _ _, Below.refl _ _⟩
 case round =>
  obtain ⟨k, hk, rfl, hownr, hbl⟩ := hrel
  have hsz := hbl.size
  by_cases hlt : k < fs.length
  ·obtain ⟨b, off, rfl, hc1, hc2⟩ := Bk hrd (Nat.le_refl _) hbl k hlt
   have hdl := hf fs[k] (List.getElem_mem hlt)
   have ecount := Mq size fs k hlt
   have eslices := LJ size fs k hlt
   have hsl := Bu fs[k].2.length size h0
   have hcl : BM (fs.take k) size ≤ 2400 := by
    have h2 := LI size (fs.take k) h0 (fun f hf' => hf f (List.mem_of_mem_take hf'))
    rw [Dn size _ h0, List.length_take] at h2
    omega
   obtain ⟨data, hdata⟩ : ∃ x, x = fs[k].2 := ⟨_, rfl⟩
   rw [← hdata] at hc2 hdl ecount eslices hsl
   obtain ⟨m, hm⟩ : ∃ x, x = Aj data.length size := ⟨_, rfl⟩
   obtain ⟨c0, hc0⟩ : ∃ x, x = BM (fs.take k) size := ⟨_, rfl⟩
   rw [← hm] at ecount hsl
   rw [← hc0] at ecount hcl hownr
   have HM := Aa hm
   have HEC := Aa ecount
   have HES := Aa eslices
   have HRD := Aa hrd
   have HF := Aa hf
   have HB := Aa hbl
   have HO := Aa hownr
   clear hdata hm hc0 ecount eslices hrd hf hc1
   go_wp2_with fail
   refine (HS.out data size h0 h1 hdl wr).mono ?_
   rintro e w1 ⟨v1, rfl, hown1, hb1⟩
   rw [← HM.out] at hown1
   have hownr1 := Ab HO.out (Nat.le_refl _) hb1
   have hbl1 : Below w.heap.size w w1 := HB.out.trans (hb1.mono hsz)
   have hsz1 := hbl1.size
   have hap := Pz HO.out (Nat.le_refl _) hown1
   rcases hown1.2 with ⟨rfl, hm0⟩ | ⟨g, c1, cur, rfl, hg, hcur, hmc, hcm, hcs, htk⟩
   ·have hcut : C8 data size = [] := by
     have := hown1.1
     rw [hm0] at this
     simpa [AM] using this
    have HCUT := Aa hcut
    have HB1 := Aa hbl1
    have HO1 := Aa hownr1
    clear hown1 hb1 hbl hbl1 hcut hap
    go_wp2_with (at_builtin; refine wpList_append_own_none rfl (.tmp 21) (.tmp 22) 23 rfl w.heap.size 9 i0 1 Tryz.underlying23 hi _ _ _ rfl HO1.out rfl ?_)
    refine ⟨⟨k + 1, by omega, by go_num, ?_, HB1.out⟩, by simp [intOf]; omega⟩
    rw [HEC.out, hm0, HES.out, HCUT.out, List.append_nil]
    exact HO1.out
   ·have HB1 := Aa hbl1
    have HO1 := Aa hownr1
    have H1 := Aa hown1
    clear hown1 hb1 hbl hbl1 hownr hownr1 hcur htk hcs
    go_wp2_with (at_builtin; refine wpList_append_own _ rfl (.tmp 21) (.tmp 22) 23 rfl w.heap.size 9 i0 (.string ByteArray.empty) 1 16 Tryz.underlying23 hi hz0 hz1 hz2 rfl (by decide) _ _ _ rfl HO1.out ⟨g, 0, none⟩ m c1 (AM (C8 data size)) rfl ?d1 ?d0 ?d2 ?d3 ?d4 ?d5 ?_)
    case d1 => exact H1.out.1
    case d0 => intro j u hj; exact H1.out.cells (g := g) rfl j u hj
    case d2 => intro u hu; simp only [AM, List.mem_map] at hu; obtain ⟨x, _, rfl⟩ := hu; rfl
    case d3 => unfold maxLen; omega
    case d4 => omega
    case d5 => omega
    intro v2 w2 hown2 hg2 _
    have hbl2 := Cy HB1.out hsz1 HO1.out hg2
    go_wp2_with fail
    refine ⟨⟨k + 1, by omega, by go_num, ?_, hbl2⟩, by simp [intOf]; omega⟩
    rw [HEC.out, HES.out, Cg]
    exact hown2
  ·obtain rfl : k = fs.length := by omega
   rw [List.take_length] at hownr
   go_wp2_with fail
   go_ret
   exact ⟨_, rfl, hownr, hbl⟩
def Bd : List UInt8 := [115, 112, 97, 114, 101]
def JI : Ak := (Bd, Bd)
theorem FT (w : World) :
  Calls Tryz.prog 40 #[] w fun e w' => e = .returned (.agg #[.string (str Bd), .string (str Bd)]) ∧ Below w.heap.size w w' := by
 go_enter Tryz.func40, Tryz.ntmps40
 go_wp2_with fail
 refine bodyPost_ret (v := .agg #[.string (str Bd), .string (str Bd)]) (by simp [results, Tryz.results40, go_sem]; rfl) rfl ?_
 exact ⟨rfl, (Below.refl _ _).alloc (Nat.le_refl _) _⟩
theorem EB (n : Int) (w : World) :
  Calls Tryz.prog 19 #[.int .i64 n] w fun e w' => e = .returned (.int .i64 n) ∧ w' = w := by
 go_enter Tryz.func19, Tryz.ntmps19
 go_wp2_with fail
 go_ret
 exact ⟨rfl, rfl⟩
theorem Eo (f g : Ak) (w : World) :
  Calls Tryz.prog 46 #[.agg #[.string (str f.1), .string (str f.2)], .agg #[.string (str g.1), .string (str g.2)]] w fun e w' => e = .returned (.bool (f == g)) ∧ Below w.heap.size w w' := by
 have hB : Below w.heap.size w ((w.alloc (Obj.cells #[Value.string (str f.1), Value.string (str f.2)] 62)).alloc (Obj.cells #[Value.string (str g.1), Value.string (str g.2)] 62)) :=
  ((Below.refl _ _).alloc (Nat.le_refl _) _).alloc (by simp) _
 have HB := Aa hB
 clear hB
 go_enter Tryz.func46, Tryz.ntmps46
 go_wp2_with fail
 ·have he : (str f.1).toList = (str g.1).toList := by assumption
  rw [Au, Au] at he
  go_ret
  refine ⟨?_, HB.out⟩
  rw [show (f == g) = ((str f.2).toList == (str g.2).toList) from by
   rw [Au, Au]
   obtain ⟨f1, f2⟩ := f
   obtain ⟨g1, g2⟩ := g
   simp only at he
   subst he
   show (f1 == f1 && f2 == g2) = _
   simp]
  rfl
 ·have he : ¬ (str f.1).toList = (str g.1).toList := by assumption
  rw [Au, Au] at he
  go_ret
  refine ⟨?_, HB.out⟩
  rw [show (f == g) = false from by
   rw [beq_eq_false_iff_ne]
   intro e
   exact he (by rw [e])]
  rfl
theorem DH (a b : List Ak) : As (a ++ b) = As a ++ As b := by simp [As]
theorem Of (fs : List Ak) : ∀ u ∈ As fs, u.oneCell' = true := by
 intro u hu
 simp only [As, List.mem_flatMap] at hu
 obtain ⟨f, _, hf⟩ := hu
 rcases List.mem_cons.1 hf with rfl | hf
 ·rfl
 ·simp at hf; subst hf; rfl
def EJ (fs : List Ak) (k : Nat) : List Ak := fs ++ List.replicate k JI
theorem Tryz.infoFl : (Tryz.prog.info? 62).map (fun i => (i.zero, i.size, i.bytes)) = some (some (.agg #[.string ByteArray.empty, .string ByteArray.empty]), 2, 32) := by kernel_rfl
theorem Pm {w : World} {ad : Addr} {fs : List Ak} (hrd : Rd w (some ad) (As fs)) : ∀ j u, (As fs)[j]? = some u → w.cell? (ad.add j) = some u := by
 intro j u hj
 obtain ⟨b, off, e, hc⟩ := hrd j u hj
 cases e
 have hadd : (⟨b, off, none⟩ : Addr).add j = ⟨b, off + j, none⟩ := by unfold Addr.add; split <;> simp_all
 rw [hadd]
 exact hc
theorem KY : ∀ u ∈ [Value.string (str Bd), Value.string (str Bd)], u.oneCell' = true := by
 intro u hu
 rcases List.mem_cons.1 hu with rfl | hu
 ·rfl
 ·rcases List.mem_cons.1 hu with rfl | hu
  ·rfl
  ·cases hu
theorem JB (fs : List Ak) (k : Nat) : As (EJ fs (k + 1)) = As (EJ fs k) ++ [.string (str Bd), .string (str Bd)] := by
 unfold EJ
 rw [List.replicate_succ', ← List.append_assoc, DH]
 rfl
def Lent (w : World) (base : Nat) (v : Value) (fs : List Ak) : Prop :=
 ∃ g c, v = .slice (some ⟨g, 0, none⟩) fs.length c ∧ fs.length + 8 ≤ c ∧ w.ownsRow base 62 2 (.slice (some ⟨g, 0, none⟩) (fs.length + 8) c) (fs.length + 8) (As (EJ fs 8))
theorem Jk (fs : List Ak) (ad : Addr) (cap : Nat) (hn : fs.length + 8 ≤ 4398046511104) (w : World) (hrd : Rd w (some ad) (As fs)) :
  Calls Tryz.prog 11 #[.slice (some ad) fs.length cap] w fun e w' => ∃ v, e = .returned v ∧ Lent w' w.heap.size v fs ∧ Below w.heap.size w w' := by
 obtain ⟨i0, hi, hz0, hz1, hz2⟩ := info_parts Tryz.infoFl
 have hown0 := World.ownsRow_nil w w.heap.size 62 2
 have HRD := Aa hrd
 have HBD : Hid (∀ k, k < 8 → (fs.length + k + 1) * 32 ≤ 140737488355328) := Aa (fun k hk => Nat.mul_le_mul_right 32 (show fs.length + k + 1 ≤ 4398046511104 by omega))
 have HML : Hid (∀ k, k < 8 → fs.length + k + 1 ≤ maxLen) := Aa (by intro k hk; unfold maxLen; omega)
 have hml : fs.length ≤ maxLen := by unfold maxLen; omega
 have hbd : fs.length * 32 ≤ 140737488355328 := Nat.mul_le_mul_right 32 (show fs.length ≤ 4398046511104 by omega)
 have HL0 : Hid (As fs = As (EJ fs 0)) := Aa (by simp [EJ])
 clear hrd hn
 go_enter Tryz.func11, Tryz.ntmps11
 go_wp2_with (at_builtin; refine wpList_append_own _ rfl (.tmp 6) (.tmp 7) 22 rfl w.heap.size 62 i0 (.agg #[.string ByteArray.empty, .string ByteArray.empty]) 2 32 Tryz.underlying22 hi hz0 hz1 hz2 rfl (by decide) _ _ _ rfl hown0 ad fs.length cap (As fs) rfl ?d1 ?d0 ?d2 ?d3 ?d4 ?d5 ?_)
 case d1 => rw [EM, Nat.mul_comm]
 case d0 => exact Pm HRD.out
 case d2 => exact Of fs
 case d3 => rw [Nat.zero_add]; exact hml
 case d4 => rw [Nat.zero_add]; exact hbd
 case d5 => omega
 intro v1 w1 hown1 hg1 hnil
 clear hnil
 have hb1 := Cy (Below.refl w.heap.size w) (Nat.le_refl _) hown0 hg1
 have HO1 := Aa hown1
 have HB1 := Aa hb1
 clear hown1 hb1 hg1 hown0
 go_wp2_with fail
 go_loopw [3, 4, 5] (fun l i _ wr => ∃ k : Nat, k ≤ 8 ∧ i = .int .i64 (k : Int) ∧ wr.ownsRow w.heap.size 62 2 l (fs.length + k) (As (EJ fs k)) ∧ Below w.heap.size w wr)
  (fun _ i _ _ => 8 - (intOf i).toNat)
 case atStart => exact ⟨0, Nat.zero_le _, rfl, HL0.out ▸ HO1.out, HB1.out⟩
 case round =>
  clear HO1 HB1
  obtain ⟨k, hk, rfl, hownr, hbl⟩ := hrel
  have hsz := hbl.size
  have HO := Aa hownr
  have HB := Aa hbl
  by_cases hlt : k < 8
  ·clear hownr hbl
   go_wp2_with fail
   refine (FT _).mono ?_
   rintro e w2 ⟨rfl, hb2⟩
   have hown2 := Ab HO.out (Nat.le_refl _) hb2
   have hbl2 : Below w.heap.size w w2 := HB.out.trans (hb2.mono hsz)
   have hsz2 := hbl2.size
   have HO2 := Aa hown2
   have HB2 := Aa hbl2
   clear hown2 hbl2 hb2 HO HB
   go_wp2_with (at_builtin; refine wpList_append_own _ rfl (.tmp 14) (.tmp 16) 22 rfl w.heap.size 62 i0 (.agg #[.string ByteArray.empty, .string ByteArray.empty]) 2 32 Tryz.underlying22 hi hz0 hz1 hz2 rfl (by decide) _ _ _ rfl ((HO2.out.alloc _).alloc _) ⟨w2.heap.size + 1, 0, none⟩ 1 1 [.string (str Bd), .string (str Bd)] rfl rfl ?c1 ?c2 ?c3 ?c4 ?c5 ?_)
   case c1 =>
    have := IN (w2.alloc (.cells #[.string (str Bd), .string (str Bd)] 62)) (.string (str Bd)) (.string (str Bd)) 62
    simpa using this
   case c2 => exact KY
   case c3 => exact HML.out k hlt
   case c4 => exact HBD.out k hlt
   case c5 => simp; omega
   intro v6 w6 hown6 hg6 hnil
   clear hnil
   have hb6 := Az (HB2.out.alloc hsz2 _) (by simp; omega) (HO2.out.alloc _) hg6
   rw [← JB] at hown6
   have K1 := Aa hown6
   have K2 := Aa hb6
   clear hown6 hg6 hb6
   go_wp2_with fail
   exact ⟨⟨k + 1, by omega, by go_num, K1.out, K2.out⟩, by simp [intOf]; omega⟩
  ·obtain rfl : k = 8 := by omega
   rcases hownr.2 with ⟨_, h0⟩ | ⟨g, c, cur, rfl, hg, _, hc, _⟩
   ·omega
   ·clear hownr hbl
    go_wp2_with fail
    go_ret
    exact ⟨_, rfl, ⟨g, c, rfl, hc, HO.out⟩, HB.out⟩
theorem Ja (w : World) :
  Calls Tryz.prog 11 #[.slice none 0 0] w fun e w' => ∃ v, e = .returned v ∧ Lent w' w.heap.size v [] ∧ Below w.heap.size w w' := by
 obtain ⟨i0, hi, hz0, hz1, hz2⟩ := info_parts Tryz.infoFl
 have hown0 := World.ownsRow_nil w w.heap.size 62 2
 go_enter Tryz.func11, Tryz.ntmps11
 go_wp2_with (at_builtin; refine wpList_append_own_none rfl (.tmp 6) (.tmp 7) 22 rfl w.heap.size 62 i0 2 Tryz.underlying22 hi _ _ _ rfl hown0 rfl ?_)
 go_loopw [3, 4, 5] (fun l i _ wr => ∃ k : Nat, k ≤ 8 ∧ i = .int .i64 (k : Int) ∧ wr.ownsRow w.heap.size 62 2 l k (As (EJ [] k)) ∧ Below w.heap.size w wr)
  (fun _ i _ _ => 8 - (intOf i).toNat)
 case atStart => exact ⟨0, by omega, rfl, hown0, Below.refl _ _⟩
 case round =>
  clear hown0
  obtain ⟨k, hk, rfl, hownr, hbl⟩ := hrel
  have hsz := hbl.size
  have HO := Aa hownr
  have HB := Aa hbl
  by_cases hlt : k < 8
  ·clear hownr hbl
   go_wp2_with fail
   refine (FT _).mono ?_
   rintro e w2 ⟨rfl, hb2⟩
   have hown2 := Ab HO.out (Nat.le_refl _) hb2
   have hbl2 : Below w.heap.size w w2 := HB.out.trans (hb2.mono hsz)
   have hsz2 := hbl2.size
   have HO2 := Aa hown2
   have HB2 := Aa hbl2
   clear hown2 hbl2 hb2 HO HB
   go_wp2_with (at_builtin; refine wpList_append_own _ rfl (.tmp 14) (.tmp 16) 22 rfl w.heap.size 62 i0 (.agg #[.string ByteArray.empty, .string ByteArray.empty]) 2 32 Tryz.underlying22 hi hz0 hz1 hz2 rfl (by decide) _ _ _ rfl ((HO2.out.alloc _).alloc _) ⟨w2.heap.size + 1, 0, none⟩ 1 1 [.string (str Bd), .string (str Bd)] rfl rfl ?c1 ?c2 ?c3 ?c4 ?c5 ?_)
   case c1 =>
    have := IN (w2.alloc (.cells #[.string (str Bd), .string (str Bd)] 62)) (.string (str Bd)) (.string (str Bd)) 62
    simpa using this
   case c2 => exact KY
   case c3 => unfold maxLen; omega
   case c4 => omega
   case c5 => simp; omega
   intro v6 w6 hown6 hg6 _
   have hb6 := Az (HB2.out.alloc hsz2 _) (by simp; omega) (HO2.out.alloc _) hg6
   rw [← JB] at hown6
   have K1 := Aa hown6
   have K2 := Aa hb6
   clear hown6 hg6 hb6
   go_wp2_with fail
   exact ⟨⟨k + 1, by omega, by go_num, K1.out, K2.out⟩, by simp [intOf]; omega⟩
  ·obtain rfl : k = 8 := by omega
   rcases hownr.2 with ⟨_, h0⟩ | ⟨g, c, cur, rfl, hg, _, hc, _⟩
   ·omega
   ·clear hownr hbl
    go_wp2_with fail
    go_ret
    exact ⟨_, rfl, ⟨g, c, rfl, hc, HO.out⟩, HB.out⟩
theorem Ep (fs : List Ak) (a : Option Addr) (cap : Nat) (ha : a = none → cap = 0) (hn : fs.length + 8 ≤ 4398046511104) (w : World) (hrd : Rd w a (As fs)) :
  Calls Tryz.prog 11 #[.slice a fs.length cap] w fun e w' => ∃ v, e = .returned v ∧ Lent w' w.heap.size v fs ∧ Below w.heap.size w w' := by
 cases a with
 | some ad => exact Jk fs ad cap hn w hrd
 | none =>
  cases fs with
  | nil => rw [ha rfl]; exact Ja w
  | cons f fs =>
   obtain ⟨b, off, e, _⟩ := hrd 0 (.string (str f.1)) (by simp [As])
   cases e
end Go.Proofs.YtonjphollmdicaaGreatDoor
