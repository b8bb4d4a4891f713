import Derived.Test.YtonjphollmdicaaGreatDoorB01
import Derived.Test.YtonjphollmdicaaGreatDoorB03
import Derived.Test.YtonjphollmdicaaGreatDoorB09
import Derived.Test.YtonjphollmdicaaGreatDoorB10
import Derived.Test.YtonjphollmdicaaGreatDoorB18
import Derived.Test.YtonjphollmdicaaGreatDoorB31
import Derived.Deep.RegionHeld
import Derived.Deep.RegionHeldLaw
import Derived.Deep.RegionHeld3
set_option maxRecDepth 100000
set_option maxHeartbeats 4000000
set_option linter.unusedSimpArgs false
namespace Go.Proofs.YtonjphollmdicaaGreatDoor
open Go.ChangeShapes Go.WideShapes Go.ChangeAt Go.RowKit
theorem Dd (fs : List Ak) (b h : Nat) : AL fs b h = BV (AG b fs) h := by
 unfold AL BV AG
 induction fs with
 | nil => rfl
 | cons f r ih =>
  rw [List.findSome?_cons, List.flatMap_cons, List.find?_append, ← ih]
  have e : Dh b h f.2 0 = (Cq b f).find? (fun p => AC p == h) := by
   unfold Dh Cq
   rw [List.drop_zero]
   induction (List.range f.2.length) with
   | nil => rfl
   | cons j t ih2 =>
    rw [List.findSome?_cons, List.map_cons, List.find?_cons]
    by_cases c : AC (CP f.2 b j) = h
    ·rw [if_pos c, beq_iff_eq.2 c]
    ·rw [if_neg c, beq_eq_false_iff_ne.2 c]
     exact ih2
  rw [e]
  cases (Cq b f).find? (fun p => AC p == h) <;> rfl
theorem FS {α : Type} (p : α → Bool) (l : List α) : (l.filter p).length = l.length ↔ l.all p = true := by
 rw [List.length_filter_eq_length_iff, List.all_eq_true]
theorem Ij (l : List (List UInt8)) (fs : List Ak) (h : fs.map (·.1) = l) : decide (E9 l < l.length) = DT fs := by
 have hlen : fs.length = l.length := by rw [← h, List.length_map]
 have hd : ∀ i, i < l.length → IV fs i = !decide (l.getD i [] ∉ l.take i) := fun i hi => by
  unfold IV
  rw [List.getElem?_eq_getElem (by omega)]
  simp only
  unfold BC
  have h1 : l.getD i [] = (fs[i]'(by omega)).1 := by subst h; simp [List.getD_eq_getElem?_getD, List.getElem?_eq_getElem (show i < fs.length by omega)]
  have h2 : l.take i = (fs.take i).map (·.1) := by rw [← h, List.map_take]
  rw [h1, h2, Bool.eq_iff_iff]
  simp only [List.any_eq_true, beq_iff_eq, Bool.not_eq_true', decide_eq_false_iff_not, Decidable.not_not, List.mem_map]
 have hle : E9 l ≤ l.length := by unfold E9; exact Nat.le_trans (List.length_filter_le _ _) (by simp)
 have hall : E9 l = l.length ↔ ∀ i, i < l.length → l.getD i [] ∉ l.take i := by
  unfold E9
  have := FS (fun i => decide (l.getD i [] ∉ l.take i)) (List.range l.length)
  rw [List.length_range] at this
  rw [this, List.all_eq_true]
  simp
 unfold DT
 rw [hlen, Bool.eq_iff_iff, decide_eq_true_iff, List.any_eq_true]
 constructor
 ·intro hlt
  have hne : ¬ E9 l = l.length := by omega
  rw [hall] at hne
  obtain ⟨i, hi⟩ := Classical.not_forall.1 hne
  obtain ⟨hi1, hi2⟩ := Classical.not_imp.1 hi
  exact ⟨i, List.mem_range.2 hi1, by rw [hd i hi1]; simpa using hi2⟩
 ·rintro ⟨i, hi, hi2⟩
  have hi := List.mem_range.1 hi
  have hne : ¬ E9 l = l.length := by
   rw [hall]
   intro hh
   have := hh i hi
   rw [hd i hi, decide_eq_true this] at hi2
   cases hi2
  omega
theorem Ls {l : List FoundL} {f : FoundL} (hc : AV l = some f) :
  (decide ((Am l (Ag f)).length = (Ag f).files.length) = CN l f (Bs f)) ∧ (Ag f).size = Aq f ∧
  (CN l f (Bs f) = true → Bv l f (Bs f) = (Am l (Ag f)).map fun g => ⟨AW g.body, Bh g.body, BQ g.body, Ai g.body⟩) := by
 have hm := (Cu hc).2.1
 obtain ⟨e1, e2, _, _, _, _⟩ := Eg hm
 have hsz : (Ag f).size = Aq f := e1
 have hfl : (Ag f).files = (List.range (Bs f)).map (Ex f) := e2
 have hln : (Ag f).files.length = Bs f := by rw [hfl]; simp
 have hdesc : ∀ i, i < Bs f → (AN (AZ (Ag f)) (l.filter (·.kind == 70)) i).map (fun g => Hh g.body (Ag f).size) = Ec l f i := fun i hi => by
  rw [GU (Ag f) i (by rw [hln]; exact hi) l]
  unfold Ec
  rw [hsz]
  congr 1
  rw [hfl]
  simp [List.getD_eq_getElem?_getD, List.getElem?_range hi]
 have hsome : ∀ i, i < Bs f → (AN (AZ (Ag f)) (l.filter (·.kind == 70)) i).isSome = (Ec l f i).isSome := fun i hi => by rw [← hdesc i hi, Option.isSome_map]
 have hall : (Ba (AZ (Ag f)) (l.filter (·.kind == 70)) (Bs f)).length = Bs f ↔ CN l f (Bs f) = true := by
  unfold Ba CN
  have := FS (fun i => (AN (AZ (Ag f)) (l.filter (·.kind == 70)) i).isSome) (List.range (Bs f))
  rw [List.length_range] at this
  rw [this, List.all_eq_true, List.all_eq_true]
  constructor
  ·intro h i hi
   rw [← hsome i (List.mem_range.1 hi)]
   exact h i hi
  ·intro h i hi
   rw [hsome i (List.mem_range.1 hi)]
   exact h i hi
 refine ⟨?_, hsz, fun ha => ?_⟩
 ·unfold Am
  rw [DO, hln, Bool.eq_iff_iff, decide_eq_true_iff]
  exact hall
 ·have hk : Ba (AZ (Ag f)) (l.filter (·.kind == 70)) (Bs f) = List.range (Bs f) := by
   unfold Ba
   rw [List.filter_eq_self]
   intro i hi
   rw [hsome i (List.mem_range.1 hi)]
   unfold CN at ha
   exact List.all_eq_true.1 ha i hi
  unfold Am ER Bv
  rw [hln, hk, List.map_map]
  refine List.map_congr_left (fun i hi => ?_)
  have hi := List.mem_range.1 hi
  have hs : (Ec l f i).isSome = true := by
   unfold CN at ha
   exact List.all_eq_true.1 ha i (List.mem_range.2 hi)
  rw [← hsome i hi] at hs
  rw [← hdesc i hi]
  cases hf : AN (AZ (Ag f)) (l.filter (·.kind == 70)) i with
  | none => rw [hf] at hs; cases hs
  | some g =>
   simp only [Option.map_some, Option.getD_some, Function.comp]
   have hg := (GY hf).2
   rw [hf]
   simp only [Option.getD_some]
   have hr : D9 g.body (Ag f).size = true := by
    unfold AZ at hg
    split at hg
    ·rename_i hcc; exact hcc.2.1
    ·cases hg
   rw [La] at hr
   exact (Kf hr).1
theorem Jo (fs : List Ak) (b : Nat) (hs : List Nat) : hs.length - Dr (AG b fs) hs = EY fs b hs := by
 have key : Dr (AG b fs) hs = (hs.filter fun h => (AL fs b h).isSome).length := by
  unfold Dr
  have e : hs = (List.range hs.length).map (fun i => hs.getD i 0) := by
   refine List.ext_getElem (by simp) (fun i h1 h2 => ?_)
   simp [List.getD_eq_getElem?_getD, List.getElem?_eq_getElem h1]
  conv => rhs; rw [e, List.filter_map, List.length_map]
  congr 1
  refine List.filter_congr (fun i _ => ?_)
  simp only [Function.comp]
  rw [Dd]
 rw [key]
 unfold EY
 induction hs with
 | nil => rfl
 | cons h t ih =>
  have h1 : (t.filter fun h => (AL fs b h).isSome).length ≤ t.length := List.length_filter_le _ _
  have key' : Dr (AG b fs) t = (t.filter fun h => (AL fs b h).isSome).length := by
   unfold Dr
   have e : t = (List.range t.length).map (fun i => t.getD i 0) := by
    refine List.ext_getElem (by simp) (fun i h1 h2 => ?_)
    simp [List.getD_eq_getElem?_getD, List.getElem?_eq_getElem h1]
   conv => rhs; rw [e, List.filter_map, List.length_map]
   congr 1
   refine List.filter_congr (fun i _ => ?_)
   simp only [Function.comp]
   rw [Dd]
  have ih := ih key'
  rw [List.filter_cons, List.filter_cons]
  cases hf : AL fs b h with
  | none => simp at ih ⊢; omega
  | some x => simp at ih ⊢; omega
theorem II {l : List FoundL} {f : FoundL} (hb : 0 < Aq f) (hsz : (Ag f).size = Aq f) : (AU l (Ag f)).length = exN (FD l f) := by
 unfold AU Ba exN FD
 rw [List.filter_map, List.length_map]
 congr 1
 refine List.filter_congr (fun j hj => ?_)
 have hj := List.mem_range.1 hj
 have he := Gs (Ag f) j hj l
 simp only [Function.comp]
 unfold KS
 rw [hsz] at he
 have hset : (Ag f).set = f.set := rfl
 rw [hset] at he
 rw [← he]
 cases hf : AN (A7 (Ag f)) (l.filter (·.kind == 82)) j with
 | none => simp
 | some g =>
  rw [hf] at he
  have : (Ce g.body (Aq f)).length = Aq f := JV he.symm
  simp only [Option.isSome_some, Option.map_some, Option.getD_some, ne_eq]
  symm
  rw [decide_eq_true_iff]
  intro e0
  rw [e0] at this
  simp at this
  omega
theorem Ri (fs : List Ak) (vs : List (List UInt8)) : I8 fs vs = match AH fs vs with | .inr n => .inr n | .inl p => .inl ⟨p.states, p.flags, p.lost, p.extra⟩ := by
 unfold I8 AH
 have hh : BO fs vs = DZ fs vs := rfl
 rw [hh]
 cases DZ fs vs with
 | false => rfl
 | true =>
  simp only [Bool.true_eq_false, if_false, if_true]
  unfold EH
  cases hc : AV (At vs) with
  | none => rfl
  | some f =>
   simp only
   obtain ⟨h1, h2, h3⟩ := Ls hc
   have hpos : 2 ≤ Aq f := by rw [← h2]; exact (Cu hc).2.2.2.2.1
   unfold Ci GZ
   rw [h1]
   cases ha : CN (At vs) f (Bs f) with
   | false => simp
   | true =>
    have h3 := h3 ha
    have hnm : (Df (Bv (At vs) f (Bs f))).map (·.1) = (Am (At vs) (Ag f)).map fun g => AW g.body := by
     rw [h3]
     simp [Df, Function.comp_def]
    have htw := Ij _ _ hnm
    rw [List.length_map] at htw
    rw [htw]
    have hhs : AF (Bv (At vs) f (Bs f)) = AI (Am (At vs) (Ag f)) := by
     rw [h3]
     unfold AF AI
     rw [List.flatMap_map]
    have hsum : Dc (Bv (At vs) f (Bs f)) = (AI (Am (At vs) (Ag f))).length := by rw [← hhs]; rfl
    rw [hsum]
    cases hb : (true && !DT (Df (Bv (At vs) f (Bs f))) && decide (1 ≤ (AI (Am (At vs) (Ag f))).length) && decide ((AI (Am (At vs) (Ag f))).length ≤ 60)) with
    | false => simp
    | true =>
     simp only [Bool.true_eq_false, if_false, if_true]
     unfold Kb Ct
     simp only
     rw [hhs, h2, Jo, II (by omega) h2]
     congr 2
     ·rw [h3, List.map_map]
      rfl
     ·unfold Kq CW
      refine List.map_congr_left (fun h _ => ?_)
      rw [Dd]
theorem Kr (n : Nat) (b : UInt8) : IntKind.u64.wrap (IntKind.u64.wrap ((n : Int) * 256) + IntKind.u64.wrap (b.toNat : Int)) = ((CZ n b : Nat) : Int) := by
  have hb := b.toNat_lt
  unfold CZ P64
  rw [IntKind.wrap_u64, IntKind.wrap_u64, IntKind.wrap_u64]
  omega
theorem BF (l : List UInt8) (hl : l.length ≤ 1000000) (w : World) :
    Calls Tryz.prog 87 #[.string (str l)] w fun e w' => e = .returned (.int .u64 ((C0 l : Nat) : Int)) ∧ w' = w := by
  have hs : (str l).size = l.length := Ae l
  go_enter Tryz.func87, Tryz.ntmps87
  go_wp2
  go_loop [3, 4] (fun x i => ∃ k h' : Nat, k ≤ l.length ∧ h' < P64 ∧ Hid ((l.drop k).foldl CZ h' = C0 l) ∧ x = .int .u64 (h' : Int) ∧ i = .int .i64 (k : Int))
                    (fun _ i => l.length - (intOf i).toNat)
  case atStart => exact ⟨0, 0, by omega, by decide, Aa rfl, rfl, rfl⟩
  case round =>
    obtain ⟨k, h', hk, hh', hm, rfl, rfl⟩ := hrel
    by_cases hlt : k < l.length
    · have hix := CA l k (k : Int) rfl hlt
      have hsp := Kr h' l[k]
      have hg : l[k]?.getD 0 = l[k] := by simp [hlt]
      rw [hg] at hix
      obtain ⟨b, hb⟩ : ∃ b, b = l[k] := ⟨_, rfl⟩
      rw [← hb] at hix hsp
      have HB := Aa hb
      clear hb hg
      go_wp2
      refine ⟨⟨k + 1, CZ h' b, by omega, GE _ _, Aa ?_, by first | rw [hsp] | rfl, by go_num⟩, ?_⟩
      · have := hm.out
        rw [List.drop_eq_getElem_cons hlt, List.foldl_cons, ← HB.out] at this
        exact this
      · simp [intOf]; omega
    · have hk2 : k = l.length := by omega
      subst hk2
      go_wp2
      go_ret
      have := hm.out
      rw [List.drop_eq_nil_of_le (Nat.le_refl _)] at this
      simp only [List.foldl_nil] at this
      rw [← this]
      exact ⟨rfl, rfl⟩
def EW (f : FoundL) : Value := .agg #[.int .u8 (f.kind.toNat : Int), .int .u64 (f.set : Int), .string (str f.body)]
def GN : FoundL := ⟨0, 0, []⟩
def JE (s : List UInt8) : Value := match Dv s with
  | some (f, n) => .tuple #[EW f, .int .i64 (n : Int)]
  | none => .tuple #[EW GN, .int .i64 0]
theorem DR {s : List UInt8} (h : Cv s = false) : JE s = .tuple #[EW GN, .int .i64 0] := by
  unfold JE Dv
  rw [h]
  rfl
theorem PI (l : List UInt8) (m k : Nat) (hm : m ≤ 1000000) (hss : (str l).size = m) (h : m < k + 22) (hk : k ≤ m) (w : World) :
    Calls Tryz.prog 114 #[.string (str l), .int .i64 (k : Int)] w fun e w' => e = .returned (.tuple #[.agg #[.int .u8 0, .int .u64 0, .string ⟨#[]⟩], .int .i64 0]) ∧ Below w.heap.size w w' := by
  have a1 : (m : Int) < (k : Int) + 22 := by omega
  have w3 : IntKind.i64.wrap ((k : Int) + 3) = (k : Int) + 3 := by rw [IntKind.wrap_i64]; omega
  have w22 : IntKind.i64.wrap ((k : Int) + 22) = (k : Int) + 22 := by rw [IntKind.wrap_i64]; omega
  go_enter Tryz.func114, Tryz.ntmps114
  go_wp2_with fail
  refine bodyPost_ret (v := .tuple #[.agg #[.int .u8 0, .int .u64 0, .string ⟨#[]⟩], .int .i64 0]) (by simp [results, Tryz.results114, go_sem]) rfl ?_
  exact ⟨rfl, (Below.refl _ _).alloc (Nat.le_refl _) _⟩
theorem O8 (l : List UInt8) (m k : Nat) (hm : m ≤ 1000000) (hss : (str l).size = m) (hkm : k + 22 ≤ m) (s3 : List UInt8) (ex3 : (str l).extract k (k + 3) = str s3) (h : s3 ≠ [83, 65, 76]) (w : World) :
    Calls Tryz.prog 114 #[.string (str l), .int .i64 (k : Int)] w fun e w' => e = .returned (.tuple #[.agg #[.int .u8 0, .int .u64 0, .string ⟨#[]⟩], .int .i64 0]) ∧ Below w.heap.size w w' := by
  have htl : ((str s3).toList == [83, 65, 76]) = false := by rw [Au, beq_eq_false_iff_ne]; exact h
  have a1 : ¬ ((m : Int) < (k : Int) + 22) := by omega
  have w3 : IntKind.i64.wrap ((k : Int) + 3) = (k : Int) + 3 := by rw [IntKind.wrap_i64]; omega
  have w22 : IntKind.i64.wrap ((k : Int) + 22) = (k : Int) + 22 := by rw [IntKind.wrap_i64]; omega
  clear h
  go_enter Tryz.func114, Tryz.ntmps114
  go_wp2_with fail
  refine bodyPost_ret (v := .tuple #[.agg #[.int .u8 0, .int .u64 0, .string ⟨#[]⟩], .int .i64 0]) (by simp [results, Tryz.results114, go_sem]) rfl ?_
  exact ⟨rfl, (Below.refl _ _).alloc (Nat.le_refl _) _⟩
theorem Pv (l : List UInt8) (m k : Nat) (hm : m ≤ 1000000) (hss : (str l).size = m) (hkm : k + 22 ≤ m) (kd : UInt8) (hkd : Gu kd = false) (ex3 : (str l).extract k (k + 3) = str [83, 65, 76]) (ix3 : ∀ W : World, (Instr.index 9 (.string (str l)) (.int .i64 ((k : Int) + 3))).run Tryz.prog W = .ok (.int .u8 (kd.toNat : Int)) W) (w : World) :
    Calls Tryz.prog 114 #[.string (str l), .int .i64 (k : Int)] w fun e w' => e = .returned (.tuple #[.agg #[.int .u8 0, .int .u64 0, .string ⟨#[]⟩], .int .i64 0]) ∧ Below w.heap.size w w' := by
  have htl : ((str [83, 65, 76]).toList == [83, 65, 76]) = true := by rw [Au]; rfl
  have a1 : ¬ ((m : Int) < (k : Int) + 22) := by omega
  have w3 : IntKind.i64.wrap ((k : Int) + 3) = (k : Int) + 3 := by rw [IntKind.wrap_i64]; omega
  have w22 : IntKind.i64.wrap ((k : Int) + 22) = (k : Int) + 22 := by rw [IntKind.wrap_i64]; omega
  have hne : ∀ c : UInt8, kd ≠ c → ((kd.toNat : Int) != (c.toNat : Int)) = true := by
    intro c hc
    simp only [bne_iff_ne, ne_eq, Int.natCast_inj]
    intro e
    exact hc (UInt8.toNat_inj.1 e)
  unfold Gu at hkd
  simp only [Bool.or_eq_false_iff, beq_eq_false_iff_ne] at hkd
  have q1 : ((kd.toNat : Int) != 77) = true := hne 77 hkd.1.1
  have q2 : ((kd.toNat : Int) != 70) = true := hne 70 hkd.1.2
  have q3 : ((kd.toNat : Int) != 82) = true := hne 82 hkd.2
  clear hne hkd
  go_enter Tryz.func114, Tryz.ntmps114
  go_wp2_with fail
  refine bodyPost_ret (v := .tuple #[.agg #[.int .u8 0, .int .u64 0, .string ⟨#[]⟩], .int .i64 0]) (by simp [results, Tryz.results114, go_sem]) rfl ?_
  exact ⟨rfl, (Below.refl _ _).alloc (Nat.le_refl _) _⟩
theorem PS (l : List UInt8) (m k : Nat) (hm : m ≤ 1000000) (hss : (str l).size = m) (hkm : k + 22 ≤ m) (n : Nat) (hn : n < 65536) (h : m < k + 22 + n) (kd : UInt8) (hkd : kd = 77 ∨ kd = 70 ∨ kd = 82) (ex3 : (str l).extract k (k + 3) = str [83, 65, 76]) (ix3 : ∀ W : World, (Instr.index 9 (.string (str l)) (.int .i64 ((k : Int) + 3))).run Tryz.prog W = .ok (.int .u8 (kd.toNat : Int)) W) (s12 : List UInt8) (ex12 : (str l).extract (k + 12) (k + 14) = str s12) (w : World) (hN : Hid (∀ W : World, Calls Tryz.prog 87 #[.string (str s12)] W fun e w' => e = .returned (.int .u64 (n : Int)) ∧ w' = W)) :
    Calls Tryz.prog 114 #[.string (str l), .int .i64 (k : Int)] w fun e w' => e = .returned (.tuple #[.agg #[.int .u8 0, .int .u64 0, .string ⟨#[]⟩], .int .i64 0]) ∧ Below w.heap.size w w' := by
  have htl : ((str [83, 65, 76]).toList == [83, 65, 76]) = true := by rw [Au]; rfl
  have a1 : ¬ ((m : Int) < (k : Int) + 22) := by omega
  have a2 : (m : Int) < (k : Int) + 22 + (n : Int) := by omega
  have w3 : IntKind.i64.wrap ((k : Int) + 3) = (k : Int) + 3 := by rw [IntKind.wrap_i64]; omega
  have w4 : IntKind.i64.wrap ((k : Int) + 4) = (k : Int) + 4 := by rw [IntKind.wrap_i64]; omega
  have w12 : IntKind.i64.wrap ((k : Int) + 12) = (k : Int) + 12 := by rw [IntKind.wrap_i64]; omega
  have w14 : IntKind.i64.wrap ((k : Int) + 14) = (k : Int) + 14 := by rw [IntKind.wrap_i64]; omega
  have w22 : IntKind.i64.wrap ((k : Int) + 22) = (k : Int) + 22 := by rw [IntKind.wrap_i64]; omega
  have wn : IntKind.i64.wrap (n : Int) = (n : Int) := by rw [IntKind.wrap_i64]; omega
  have w22n : IntKind.i64.wrap ((k : Int) + 22 + (n : Int)) = (k : Int) + 22 + (n : Int) := by rw [IntKind.wrap_i64]; omega
  clear h
  rcases hkd with rfl | rfl | rfl
  all_goals
    go_enter Tryz.func114, Tryz.ntmps114
    go_wp2_with fail
    refine (hN.out _).mono ?_
    rintro e w' ⟨rfl, hw'⟩
    subst hw'
    go_wp2_with fail
    refine bodyPost_ret (v := .tuple #[.agg #[.int .u8 0, .int .u64 0, .string ⟨#[]⟩], .int .i64 0]) (by simp [results, Tryz.results114, go_sem]) rfl ?_
    exact ⟨rfl, (Below.refl _ _).alloc (Nat.le_refl _) _⟩
theorem PC (l : List UInt8) (m k : Nat) (hm : m ≤ 1000000) (hss : (str l).size = m) (n h1 h2 : Nat) (hkm : k + 22 + n ≤ m) (hne : h1 ≠ h2) (kd : UInt8) (hkd : kd = 77 ∨ kd = 70 ∨ kd = 82) (ex3 : (str l).extract k (k + 3) = str [83, 65, 76]) (ix3 : ∀ W : World, (Instr.index 9 (.string (str l)) (.int .i64 ((k : Int) + 3))).run Tryz.prog W = .ok (.int .u8 (kd.toNat : Int)) W) (s12 t1 t2 : List UInt8) (ex12 : (str l).extract (k + 12) (k + 14) = str s12) (ex14 : (str l).extract k (k + 14 + n) = str t1) (ex22 : (str l).extract (k + 14 + n) (k + 22 + n) = str t2) (w : World) (hN : Hid (∀ W : World, Calls Tryz.prog 87 #[.string (str s12)] W fun e w' => e = .returned (.int .u64 (n : Int)) ∧ w' = W)) (hH : Hid (∀ W : World, Calls Tryz.prog 49 #[.string (str t1)] W fun e w' => e = .returned (.int .u64 (h1 : Int)) ∧ w' = W)) (hM : Hid (∀ W : World, Calls Tryz.prog 87 #[.string (str t2)] W fun e w' => e = .returned (.int .u64 (h2 : Int)) ∧ w' = W)) :
    Calls Tryz.prog 114 #[.string (str l), .int .i64 (k : Int)] w fun e w' => e = .returned (.tuple #[.agg #[.int .u8 0, .int .u64 0, .string ⟨#[]⟩], .int .i64 0]) ∧ Below w.heap.size w w' := by
  have htl : ((str [83, 65, 76]).toList == [83, 65, 76]) = true := by rw [Au]; rfl
  have a1 : ¬ ((m : Int) < (k : Int) + 22) := by omega
  have a2 : ¬ ((m : Int) < (k : Int) + 22 + (n : Int)) := by omega
  have w3 : IntKind.i64.wrap ((k : Int) + 3) = (k : Int) + 3 := by rw [IntKind.wrap_i64]; omega
  have w4 : IntKind.i64.wrap ((k : Int) + 4) = (k : Int) + 4 := by rw [IntKind.wrap_i64]; omega
  have w12 : IntKind.i64.wrap ((k : Int) + 12) = (k : Int) + 12 := by rw [IntKind.wrap_i64]; omega
  have w14 : IntKind.i64.wrap ((k : Int) + 14) = (k : Int) + 14 := by rw [IntKind.wrap_i64]; omega
  have w22 : IntKind.i64.wrap ((k : Int) + 22) = (k : Int) + 22 := by rw [IntKind.wrap_i64]; omega
  have wn : IntKind.i64.wrap (n : Int) = (n : Int) := by rw [IntKind.wrap_i64]; omega
  have w14n : IntKind.i64.wrap ((k : Int) + 14 + (n : Int)) = (k : Int) + 14 + (n : Int) := by rw [IntKind.wrap_i64]; omega
  have w22n : IntKind.i64.wrap ((k : Int) + 22 + (n : Int)) = (k : Int) + 22 + (n : Int) := by rw [IntKind.wrap_i64]; omega
  have w22' : IntKind.i64.wrap (22 + (n : Int)) = 22 + (n : Int) := by rw [IntKind.wrap_i64]; omega
  have hne' : ((h1 : Int) != (h2 : Int)) = true := by simp; omega
  clear hne
  rcases hkd with rfl | rfl | rfl
  all_goals
    go_enter Tryz.func114, Tryz.ntmps114
    go_wp2_with fail
    refine (hN.out _).mono ?_
    rintro e w' ⟨rfl, hw'⟩
    subst hw'
    go_wp2_with fail
    refine (hH.out _).mono ?_
    rintro e w' ⟨rfl, hw'⟩
    subst hw'
    go_wp2_with fail
    refine (hM.out _).mono ?_
    rintro e w' ⟨rfl, hw'⟩
    subst hw'
    go_wp2_with fail
    refine bodyPost_ret (v := .tuple #[.agg #[.int .u8 0, .int .u64 0, .string ⟨#[]⟩], .int .i64 0]) (by simp [results, Tryz.results114, go_sem]) rfl ?_
    exact ⟨rfl, (Below.refl _ _).alloc (Nat.le_refl _) _⟩
theorem PW (l : List UInt8) (m k : Nat) (hm : m ≤ 1000000) (hss : (str l).size = m) (n h1 h2 : Nat) (hkm : k + 22 + n ≤ m) (kd : UInt8) (hkd : kd = 77 ∨ kd = 70 ∨ kd = 82) (ex3 : (str l).extract k (k + 3) = str [83, 65, 76]) (ix3 : ∀ W : World, (Instr.index 9 (.string (str l)) (.int .i64 ((k : Int) + 3))).run Tryz.prog W = .ok (.int .u8 (kd.toNat : Int)) W) (s12 t1 t2 : List UInt8) (ex12 : (str l).extract (k + 12) (k + 14) = str s12) (ex14 : (str l).extract k (k + 14 + n) = str t1) (ex22 : (str l).extract (k + 14 + n) (k + 22 + n) = str t2) (t3 t4 : List UInt8) (ex4 : (str l).extract (k + 4) (k + 12) = str t3) (exb : (str l).extract (k + 14) (k + 14 + n) = str t4) (w : World) (hN : Hid (∀ W : World, Calls Tryz.prog 87 #[.string (str s12)] W fun e w' => e = .returned (.int .u64 (n : Int)) ∧ w' = W)) (hH : Hid (∀ W : World, Calls Tryz.prog 49 #[.string (str t1)] W fun e w' => e = .returned (.int .u64 (h1 : Int)) ∧ w' = W)) (hM : Hid (∀ W : World, Calls Tryz.prog 87 #[.string (str t2)] W fun e w' => e = .returned (.int .u64 (h1 : Int)) ∧ w' = W)) (hS : Hid (∀ W : World, Calls Tryz.prog 87 #[.string (str t3)] W fun e w' => e = .returned (.int .u64 (h2 : Int)) ∧ w' = W)) :
    Calls Tryz.prog 114 #[.string (str l), .int .i64 (k : Int)] w fun e w' => e = .returned (.tuple #[.agg #[.int .u8 (kd.toNat : Int), .int .u64 (h2 : Int), .string (str t4)], .int .i64 ((22 + n : Nat) : Int)]) ∧ Below w.heap.size w w' := by
  have htl : ((str [83, 65, 76]).toList == [83, 65, 76]) = true := by rw [Au]; rfl
  have a1 : ¬ ((m : Int) < (k : Int) + 22) := by omega
  have a2 : ¬ ((m : Int) < (k : Int) + 22 + (n : Int)) := by omega
  have w3 : IntKind.i64.wrap ((k : Int) + 3) = (k : Int) + 3 := by rw [IntKind.wrap_i64]; omega
  have w4 : IntKind.i64.wrap ((k : Int) + 4) = (k : Int) + 4 := by rw [IntKind.wrap_i64]; omega
  have w12 : IntKind.i64.wrap ((k : Int) + 12) = (k : Int) + 12 := by rw [IntKind.wrap_i64]; omega
  have w14 : IntKind.i64.wrap ((k : Int) + 14) = (k : Int) + 14 := by rw [IntKind.wrap_i64]; omega
  have w22 : IntKind.i64.wrap ((k : Int) + 22) = (k : Int) + 22 := by rw [IntKind.wrap_i64]; omega
  have wn : IntKind.i64.wrap (n : Int) = (n : Int) := by rw [IntKind.wrap_i64]; omega
  have w14n : IntKind.i64.wrap ((k : Int) + 14 + (n : Int)) = (k : Int) + 14 + (n : Int) := by rw [IntKind.wrap_i64]; omega
  have w22n : IntKind.i64.wrap ((k : Int) + 22 + (n : Int)) = (k : Int) + 22 + (n : Int) := by rw [IntKind.wrap_i64]; omega
  have w22' : IntKind.i64.wrap (22 + (n : Int)) = 22 + (n : Int) := by rw [IntKind.wrap_i64]; omega
  have g1 : (0 : Int) ≤ (k : Int) + 4 := by omega
  have g2 : (k : Int) + 4 ≤ (k : Int) + 12 := by omega
  have g3 : (k : Int) + 12 ≤ (m : Int) := by omega
  have g4 : (0 : Int) ≤ (k : Int) + 14 := by omega
  have g5 : (k : Int) + 14 ≤ (k : Int) + 14 + (n : Int) := by omega
  have g6 : (k : Int) + 14 + (n : Int) ≤ (m : Int) := by omega
  have n4 : ((k : Int) + 4).toNat = k + 4 := by omega
  have n12 : ((k : Int) + 12).toNat = k + 12 := by omega
  have n14 : ((k : Int) + 14).toNat = k + 14 := by omega
  have n14n : ((k : Int) + 14 + (n : Int)).toNat = k + 14 + n := by omega
  have hB : Below w.heap.size w (w.alloc (.cells #[.int .u8 0, .int .u64 0, .string ⟨#[]⟩] 148)) := (Below.refl _ _).alloc (Nat.le_refl _) _
  rcases hkd with rfl | rfl | rfl
  · go_enter Tryz.func114, Tryz.ntmps114
    go_wp2_with fail
    refine (hN.out _).mono ?_
    rintro e w' ⟨rfl, hw'⟩
    subst hw'
    go_wp2_with fail
    refine (hH.out _).mono ?_
    rintro e w' ⟨rfl, hw'⟩
    subst hw'
    go_wp2_with fail
    refine (hM.out _).mono ?_
    rintro e w' ⟨rfl, hw'⟩
    subst hw'
    go_wp2_with fail
    go_region_held3 (fun W => Below w.heap.size w W) (first | assumption | exact hB.drew | exact ((Below.refl _ _).alloc (Nat.le_refl _) _).drew)
      (first | (go_at_call 87; refine (hS.out _).mono ?_; rintro e w' ⟨rfl, rfl⟩))
    all_goals
      go_wp2_with fail
      refine bodyPost_ret (v := .tuple #[.agg #[.int .u8 77, .int .u64 (h2 : Int), .string (str t4)], .int .i64 (22 + (n : Int))]) (by simp [results, Tryz.results114, go_sem]) rfl ?_
      exact ⟨rfl, ((Below.refl _ _).alloc (Nat.le_refl _) _).drew⟩
  · go_enter Tryz.func114, Tryz.ntmps114
    go_wp2_with fail
    refine (hN.out _).mono ?_
    rintro e w' ⟨rfl, hw'⟩
    subst hw'
    go_wp2_with fail
    refine (hH.out _).mono ?_
    rintro e w' ⟨rfl, hw'⟩
    subst hw'
    go_wp2_with fail
    refine (hM.out _).mono ?_
    rintro e w' ⟨rfl, hw'⟩
    subst hw'
    go_wp2_with fail
    go_region_held3 (fun W => Below w.heap.size w W) (first | assumption | exact hB.drew | exact ((Below.refl _ _).alloc (Nat.le_refl _) _).drew)
      (first | (go_at_call 87; refine (hS.out _).mono ?_; rintro e w' ⟨rfl, rfl⟩))
    all_goals
      go_wp2_with fail
      refine bodyPost_ret (v := .tuple #[.agg #[.int .u8 70, .int .u64 (h2 : Int), .string (str t4)], .int .i64 (22 + (n : Int))]) (by simp [results, Tryz.results114, go_sem]) rfl ?_
      exact ⟨rfl, ((Below.refl _ _).alloc (Nat.le_refl _) _).drew⟩
  · go_enter Tryz.func114, Tryz.ntmps114
    go_wp2_with fail
    refine (hN.out _).mono ?_
    rintro e w' ⟨rfl, hw'⟩
    subst hw'
    go_wp2_with fail
    refine (hH.out _).mono ?_
    rintro e w' ⟨rfl, hw'⟩
    subst hw'
    go_wp2_with fail
    refine (hM.out _).mono ?_
    rintro e w' ⟨rfl, hw'⟩
    subst hw'
    go_wp2_with fail
    go_region_held3 (fun W => Below w.heap.size w W) (first | assumption | exact hB.drew | exact ((Below.refl _ _).alloc (Nat.le_refl _) _).drew)
      (first | (go_at_call 87; refine (hS.out _).mono ?_; rintro e w' ⟨rfl, rfl⟩))
    all_goals
      go_wp2_with fail
      refine bodyPost_ret (v := .tuple #[.agg #[.int .u8 82, .int .u64 (h2 : Int), .string (str t4)], .int .i64 (22 + (n : Int))]) (by simp [results, Tryz.results114, go_sem]) rfl ?_
      exact ⟨rfl, ((Below.refl _ _).alloc (Nat.le_refl _) _).drew⟩
theorem M0 (l : List UInt8) (k : Nat) (hl : l.length ≤ 1000000) (hk : k ≤ l.length) (w : World) :
    Calls Tryz.prog 114 #[.string (str l), .int .i64 (k : Int)] w fun e w' => e = .returned (JE (l.drop k)) ∧ Below w.heap.size w w' := by
  have hss : (str l).size = l.length := Ae l
  obtain ⟨s, hs⟩ : ∃ s, s = l.drop k := ⟨_, rfl⟩
  rw [← hs]
  have hsl : s.length = l.length - k := by rw [hs, List.length_drop]
  by_cases c1 : 22 ≤ s.length
  · have ex3 : (str l).extract k (k + 3) = str (s.take 3) := by rw [AB, ← hs, show k + 3 - k = 3 from by omega]
    have ix3 := CA l (k + 3) ((k : Int) + 3) (by omega) (by omega)
    have hg3 : l[k + 3]?.getD 0 = s.getD 3 0 := by rw [hs]; simp
    rw [hg3] at ix3
    by_cases c2 : s.take 3 = [83, 65, 76]
    · rw [c2] at ex3
      by_cases c3 : Gu (s.getD 3 0) = true
      · have hkd : s.getD 3 0 = 77 ∨ s.getD 3 0 = 70 ∨ s.getD 3 0 = 82 := by
          unfold Gu at c3
          simp only [Bool.or_eq_true, beq_iff_eq] at c3
          rcases c3 with (h | h) | h
          · exact .inl h
          · exact .inr (.inl h)
          · exact .inr (.inr h)
        have ex12 : (str l).extract (k + 12) (k + 14) = str ((s.drop 12).take 2) := by
          rw [AB, hs, List.drop_drop, show k + 14 - (k + 12) = 2 from by omega]
        have hN := Aa (BF ((s.drop 12).take 2) (by rw [List.length_take]; omega))
        have hnl := Na s
        by_cases c4 : 22 + Bq s ≤ s.length
        · have ex14 : (str l).extract k (k + 14 + Bq s) = str (s.take (14 + Bq s)) := by rw [AB, ← hs, show k + 14 + Bq s - k = 14 + Bq s from by omega]
          have ex22 : (str l).extract (k + 14 + Bq s) (k + 22 + Bq s) = str ((s.drop (14 + Bq s)).take 8) := by
            rw [AB, show (l.drop (k + 14 + Bq s)) = s.drop (14 + Bq s) from by rw [hs, List.drop_drop]; congr 1; omega, show k + 22 + Bq s - (k + 14 + Bq s) = 8 from by omega]
          have ex4 : (str l).extract (k + 4) (k + 12) = str ((s.drop 4).take 8) := by
            rw [AB, hs, List.drop_drop, show k + 12 - (k + 4) = 8 from by omega]
          have exb : (str l).extract (k + 14) (k + 14 + Bq s) = str ((s.drop 14).take (Bq s)) := by
            rw [AB, show l.drop (k + 14) = s.drop 14 from by rw [hs, List.drop_drop], show k + 14 + Bq s - (k + 14) = Bq s from by omega]
          have hH := Aa (DS (s.take (14 + Bq s)) (by rw [List.length_take]; omega))
          have hM := Aa (BF ((s.drop (14 + Bq s)).take 8) (by rw [List.length_take]; omega))
          have hS := Aa (BF ((s.drop 4).take 8) (by rw [List.length_take]; omega))
          by_cases c5 : AC (s.take (14 + Bq s)) = C0 ((s.drop (14 + Bq s)).take 8)
          · have hr : Cv s = true := by
              unfold Cv
              rw [decide_eq_true c1, c2, c3, decide_eq_true c4, c5]
              simp
            have hyes : JE s = .tuple #[.agg #[.int .u8 ((s.getD 3 0).toNat : Int), .int .u64 ((C0 ((s.drop 4).take 8) : Nat) : Int), .string (str ((s.drop 14).take (Bq s)))], .int .i64 ((22 + Bq s : Nat) : Int)] := by
              unfold JE Dv
              rw [hr, if_pos rfl]
              rfl
            rw [hyes]
            rw [c5] at hH
            exact PW l l.length k hl hss (Bq s) _ _ (by omega) _ hkd ex3 ix3 _ _ _ ex12 ex14 ex22 _ _ ex4 exb w hN hH hM hS
          · have hno : Cv s = false := by
              unfold Cv
              rw [beq_eq_false_iff_ne.2 c5, Bool.and_false]
            rw [DR hno]
            exact PC l l.length k hl hss (Bq s) _ _ (by omega) c5 _ hkd ex3 ix3 _ _ _ ex12 ex14 ex22 w hN hH hM
        · have hno : Cv s = false := by
            unfold Cv
            rw [decide_eq_false c4, Bool.and_false, Bool.false_and]
          rw [DR hno]
          exact PS l l.length k hl hss (by omega) (Bq s) hnl (by omega) _ hkd ex3 ix3 _ ex12 w hN
      · have hno : Cv s = false := by
          unfold Cv
          rw [(by simpa using c3 : Gu (s.getD 3 0) = false), Bool.and_false, Bool.false_and, Bool.false_and]
        rw [DR hno]
        exact Pv l l.length k hl hss (by omega) _ (by simpa using c3) ex3 ix3 w
    · have hno : Cv s = false := by
        unfold Cv
        rw [beq_eq_false_iff_ne.2 c2, Bool.and_false, Bool.false_and, Bool.false_and, Bool.false_and]
      rw [DR hno]
      exact O8 l l.length k hl hss (by omega) _ ex3 c2 w
  · have hno : Cv s = false := by
      unfold Cv
      rw [decide_eq_false c1]
      rfl
    rw [DR hno]
    exact PI l l.length k hl hss (by omega) hk w
theorem Tryz.infoFo : (Tryz.prog.info? 148).map (fun i => (i.zero, i.size, i.bytes)) = some (some (.agg #[.int .u8 0, .int .u64 0, .string ByteArray.empty]), 3, 32) := by kernel_rfl
theorem NZ (vs : List (List UInt8)) (a : Option Addr) (cap : Nat) (hn : vs.length ≤ 1000) (hv : ∀ v ∈ vs, v.length ≤ 1000000) (w : World) (hrd : Rd w a (AM vs)) :
  Calls Tryz.prog 85 #[.slice a vs.length cap] w fun e w' => ∃ v, e = .returned v ∧ w'.ownsRow w.heap.size 148 3 v (At vs).length (A8 (At vs)) ∧ Below w.heap.size w w' := by
 obtain ⟨i0, hi, hz0, hz1, hz2⟩ := info_parts Tryz.infoFo
 have HRD := Aa hrd
 have HV := Aa hv
 clear hrd hv
 go_enter Tryz.func85, Tryz.ntmps85
 go_wp2_with fail
 go_loopw [3, 4, 5, 6, 7] (fun l i _ _ _ wr => ∃ k : Nat, k ≤ vs.length ∧ i = .int .i64 (k : Int) ∧ wr.ownsRow w.heap.size 148 3 l (At (vs.take k)).length (A8 (At (vs.take k))) ∧ Below w.heap.size w wr)
  (fun _ i _ _ _ _ => vs.length - (intOf i).toNat)
 case atStart => exact ⟨0, by omega, rfl, World.ownsRow_nil _ _ _ _, Below.refl _ _⟩
 case round =>
  obtain ⟨k, hk, rfl, hownr, hbl⟩ := hrel
  by_cases hlt : k < vs.length
  ·have hvl := HV.out vs[k] (List.getElem_mem hlt)
   have hsn := JF vs k hlt
   obtain ⟨bb, off, rfl, hc0⟩ := HRD.out k (.string (str vs[k])) (by simp [AM, hlt])
   have hcnt : (At (vs.take (k + 1))).length ≤ 1000000000 := by
    have := Gh (vs.take (k + 1)) 1000000 (fun v hv => HV.out v (List.mem_of_mem_take hv))
    rw [List.length_take] at this
    have h9 : min (k + 1) vs.length * 1000000 ≤ 1000 * 1000000 := Nat.mul_le_mul_right _ (by omega)
    omega
   obtain ⟨v, hve⟩ : ∃ x, x = vs[k] := ⟨_, rfl⟩
   rw [← hve] at hvl hsn hc0
   have hss := Ae v
   have HC0 := Aa hc0
   have HSN := Aa hsn
   have HO := Aa hownr
   have HB := Aa hbl
   clear hownr hbl hsn hve hc0
   go_wp2_with fail
   go_loopw [3, 5, 6, 7] (fun l at' _ _ W => ∃ (j : Nat) (F : List FoundL), j ≤ v.length ∧ at' = .int .i64 (j : Int) ∧ W.ownsRow w.heap.size 148 3 l F.length (A8 F) ∧ Hid (F ++ DQ (v.drop j) = At (vs.take (k + 1))) ∧ Below w.heap.size w W)
    (fun _ at' _ _ _ => v.length - (intOf at').toNat)
   case atStart => exact ⟨0, _, by omega, rfl, HO.out, Aa (by rw [HSN.out]; rfl), HB.out⟩
   case round =>
    clear HO HB
    obtain ⟨j, F, hj, rfl, hownr, HF, hbl⟩ := hrel
    have hsz := hbl.size
    have hcv : wr.cell? ⟨bb, off + k, none⟩ = some (.string (str v)) := by
     rw [hbl.cell (World.block_lt_of_cell? w _ HC0.out)]; exact HC0.out
    by_cases hjl : j < v.length
    ·have hst := JP (v.drop j) (by rw [List.length_drop]; omega)
     have hR := M0 v j hvl (by omega) wr
     have hFl : F.length + (DQ (v.drop j)).length ≤ 1000000000 := by
      have := congrArg List.length HF.out
      rw [List.length_append] at this
      omega
     have HO := Aa hownr
     have HB := Aa hbl
     clear hownr hbl
     unfold JE at hR
     cases hr : Dv (v.drop j) with
     | none =>
      rw [hr] at hR hst
      simp only [EW, GN] at hR
      have HR := Aa hR
      have hn2 : Hid (F ++ DQ (v.drop (j + 1)) = At (vs.take (k + 1))) := Aa (by rw [← HF.out, hst]; simp [List.drop_drop])
      clear hR hst hr hFl
      go_wp2_with fail
      refine HR.out.mono ?_
      rintro e w2 ⟨rfl, hb2⟩
      have L1 := Aa (Ab HO.out (Nat.le_refl _) hb2)
      have L2 := Aa (HB.out.trans (hb2.mono hsz))
      clear hb2 HO HB
      go_wp2_with fail
      exact ⟨⟨j + 1, F, by omega, by go_num, L1.out.alloc _, hn2, L2.out.alloc L2.out.size _⟩, by simp [intOf]; omega⟩
     | some x =>
      obtain ⟨f, n⟩ := x
      rw [hr] at hR hst
      simp only [EW] at hR
      have hpos := IJ hr
      rw [List.length_drop] at hpos
      have HR := Aa hR
      have hn2 : Hid ((F ++ [f]) ++ DQ (v.drop (j + n)) = At (vs.take (k + 1))) := Aa (by rw [← HF.out, hst]; simp [List.drop_drop])
      have hFl2 : F.length + 1 ≤ 1000000000 := by
       have := congrArg List.length hst
       simp only [List.length_cons] at this
       omega
      clear hR hst hr hFl
      have hn0 : (0 : Int) < (n : Int) := by omega
      go_wp2_with fail
      refine HR.out.mono ?_
      rintro e w2 ⟨rfl, hb2⟩
      have L1 := Aa (Ab HO.out (Nat.le_refl _) hb2)
      have L2 := Aa (HB.out.trans (hb2.mono hsz))
      have hsz2 : w.heap.size ≤ w2.heap.size := L2.out.size
      clear hb2 HO HB hcv
      obtain ⟨x1, hx1⟩ : ∃ x, x = Value.int .u8 (f.kind.toNat : Int) := ⟨_, rfl⟩
      obtain ⟨x2, hx2⟩ : ∃ x, x = Value.int .u64 (f.set : Int) := ⟨_, rfl⟩
      have hsn := G0 F f
      have H3 := Aa hsn
      clear hsn hx1 hx2 x1 x2
      go_wp2_with (at_builtin; refine wpList_append_own _ rfl (.tmp 32) (.tmp 34) 145 rfl w.heap.size 148 i0 (.agg #[.int .u8 0, .int .u64 0, .string ByteArray.empty]) 3 32 Tryz.underlying145 hi hz0 hz1 hz2 rfl (by decide) _ _ _ rfl ((L1.out.alloc _).alloc _) ⟨w2.heap.size + 1, 0, none⟩ 1 1 [.int .u8 (f.kind.toNat : Int), .int .u64 (f.set : Int), .string (str f.body)] rfl rfl ?c1 ?c2 ?c3 ?c4 ?c5 ?_)
      case c1 =>
       have := LH (w2.alloc (.cells #[.int .u8 (f.kind.toNat : Int), .int .u64 (f.set : Int), .string (str f.body)] 148)) (.int .u8 (f.kind.toNat : Int)) (.int .u64 (f.set : Int)) (.string (str f.body)) 148
       simpa using this
      case c2 =>
       intro u hu
       simp at hu
       rcases hu with rfl | rfl | rfl <;> rfl
      case c3 => unfold maxLen; omega
      case c4 => omega
      case c5 => simp; omega
      intro v6 w6 hown6 hg6 _
      have hb6 := Az (L2.out.alloc hsz2 _) (by simp; omega) (L1.out.alloc _) hg6
      rw [← H3.out] at hown6
      have K1 := Aa hown6
      have K2 := Aa hb6
      clear hown6 hg6 hb6 L1 L2
      go_wp2_with fail
      refine ⟨⟨j + n, F ++ [f], by omega, by go_num, ?_, hn2, K2.out⟩, by simp [intOf]; omega⟩
      rw [List.length_append]
      exact K1.out
    ·obtain rfl : v.length = j := by omega
     have hend : At (vs.take (k + 1)) = F := by
      have := HF.out
      rw [List.drop_length, Lg, List.append_nil] at this
      exact this.symm
     have HE := Aa hend
     have HO := Aa hownr
     have HB := Aa hbl
     clear hownr hbl hend
     go_wp2_with fail
     refine ⟨⟨k + 1, by omega, by go_num, ?_, HB.out⟩, by simp [intOf]; omega⟩
     rw [HE.out]
     exact HO.out
  ·obtain rfl : vs.length = k := by omega
   rw [List.take_length] at hownr
   have HO := Aa hownr
   have HB := Aa hbl
   clear hownr hbl
   go_wp2_with fail
   go_ret
   exact ⟨_, rfl, HO.out, HB.out⟩
end Go.Proofs.YtonjphollmdicaaGreatDoor
