import Derived.Test.YtonjphollmdicaaGreatDoorB30
import Derived.Test.YtonjphollmdicaaGreatDoorB40
set_option maxRecDepth 100000
set_option maxHeartbeats 4000000
set_option linter.unusedSimpArgs false
namespace Go.Proofs.YtonjphollmdicaaGreatDoor
open Go.ChangeShapes Go.WideShapes Go.ChangeAt Go.RowKit
open Go.Maps
def exV (es : List (Nat × List UInt8)) : List Value := es.flatMap fun e => [.int .i64 (e.1 : Int), .string (str e.2)]
theorem RZ (es : List (Nat × List UInt8)) : ∀ (j : Nat) (h : j < es.length), (exV es)[j * 2]? = some (.int .i64 (es[j].1 : Int)) ∧ (exV es)[j * 2 + 1]? = some (.string (str es[j].2)) := by
 induction es with
 | nil => intro j h; simp at h
 | cons e r ih =>
  intro j h
  have ee : exV (e :: r) = .int .i64 (e.1 : Int) :: .string (str e.2) :: exV r := rfl
  cases j with
  | zero => exact ⟨rfl, rfl⟩
  | succ j =>
   obtain ⟨h1, h2⟩ := ih j (by simpa using h)
   rw [ee, show (j + 1) * 2 = j * 2 + 1 + 1 from by omega]
   exact ⟨h1, h2⟩
theorem Sh {w : World} {a : Option Addr} {es : List (Nat × List UInt8)} (h : Rd w a (exV es)) (j : Nat) (hj : j < es.length) : ∃ b off, a = some ⟨b, off, none⟩ ∧ w.cell? ⟨b, off + j * 2, none⟩ = some (.int .i64 (es[j].1 : Int)) ∧ w.cell? ⟨b, off + j * 2 + 1, none⟩ = some (.string (str es[j].2)) := by
 obtain ⟨h1, h2⟩ := RZ es j hj
 obtain ⟨b, off, e, c1⟩ := h _ _ h1
 obtain ⟨b', off', e', c2⟩ := h _ _ h2
 rw [e] at e'
 cases e'
 exact ⟨b, off, e, c1, c2⟩
def BN (Q : List (List UInt8)) (hs : List Nat) (i : Nat) : Option (List UInt8) := BV Q (hs.getD i 0)
theorem Jm (Q : List (List UInt8)) (hs : List Nat) : (AT hs.length (BN Q hs)).length = Dr Q hs := rfl
def PtsRows (W : World) (B : Nat) (v1 v2 : Value) (pts : List Nat) (rs : List (List Nat)) : Prop := W.ownsRow B 80 1 v1 pts.length (A9 pts) ∧ ∃ vs, W.ownsRow B 167 1 v2 rs.length vs ∧ ∀ (j : Nat) (r : List Nat), rs[j]? = some r → ∃ u, vs[j]? = some u ∧ W.ownsRow B 80 1 u r.length (A9 r) ∧ (u.ownBlock = none ∨ u.ownBlock ≠ v1.ownBlock)
theorem PtsRows.later {W W' : World} {B : Nat} {v1 v2 : Value} {pts : List Nat} {rs : List (List Nat)} (h : PtsRows W B v1 v2 pts rs) (hb : Below W.heap.size W W') : PtsRows W' B v1 v2 pts rs := by
 obtain ⟨h1, vs, h2, h3⟩ := h
 refine ⟨Ab h1 (Nat.le_refl _) hb, vs, Ab h2 (Nat.le_refl _) hb, fun j r hj => ?_⟩
 obtain ⟨u, m1, m2, m3⟩ := h3 j r hj
 exact ⟨u, m1, Ab m2 (Nat.le_refl _) hb, m3⟩
theorem PtsRows.rows {W : World} {B : Nat} {v1 v2 : Value} {pts : List Nat} {rs : List (List Nat)} (h : PtsRows W B v1 v2 pts rs) : OwnRows W B v2 rs := by
 obtain ⟨_, vs, h2, h3⟩ := h
 refine ⟨vs, h2, fun j r hj => ?_⟩
 obtain ⟨u, m1, m2, _⟩ := h3 j r hj
 exact ⟨u, m1, m2⟩
theorem PtsRows.point {W W' : World} {B : Nat} {v1 v1' v2 : Value} {pts : List Nat} {rs : List (List Nat)} (h : PtsRows W B v1 v2 pts rs) {p : Nat} (hv : W'.ownsRow B 80 1 v1' (pts.length + 1) (A9 pts ++ [.int .u16 (p : Int)])) (hg : W.grownBy W' v1.ownBlock) (ho : v1'.ownBlock = v1.ownBlock ∨ v1'.ownBlock = some W.heap.size) : PtsRows W' B v1' v2 (pts ++ [p]) rs := by
 obtain ⟨h1, vs, h2, h3⟩ := h
 refine ⟨?_, vs, h2.kept hg (Bn h2 h1 (by decide)), fun j r hj => ?_⟩
 ·rw [List.length_append]
  unfold A9 at hv ⊢
  rw [List.map_append]
  exact hv
 ·obtain ⟨u, m1, m2, m3⟩ := h3 j r hj
  refine ⟨u, m1, m2.kept hg m3, ?_⟩
  rcases m3 with m3 | m3
  ·exact .inl m3
  ·rcases ho with e | e
   ·rw [e]; exact .inr m3
   ·cases hu : u.ownBlock with
    | none => exact .inl rfl
    | some g =>
     right
     rw [e]
     intro e2
     have := (m2.lt g hu).2
     cases e2
     omega
theorem PtsRows.row {W W' : World} {B : Nat} {v1 v2 v2' u : Value} {pts : List Nat} {rs : List (List Nat)} {vs : List Value} {r : List Nat} (h1 : W.ownsRow B 80 1 v1 pts.length (A9 pts)) (h2 : W.ownsRow B 167 1 v2 rs.length vs) (h3 : ∀ (j : Nat) (r : List Nat), rs[j]? = some r → ∃ u, vs[j]? = some u ∧ W.ownsRow B 80 1 u r.length (A9 r) ∧ (u.ownBlock = none ∨ u.ownBlock ≠ v1.ownBlock))
  (hu : W.ownsRow B 80 1 u r.length (A9 r)) (hne : u.ownBlock = none ∨ u.ownBlock ≠ v1.ownBlock) (hv : W'.ownsRow B 167 1 v2' (rs.length + 1) (vs ++ [u])) (hg : W.grownBy W' v2.ownBlock) : PtsRows W' B v1 v2' pts (rs ++ [r]) := by
 have hl : vs.length = rs.length := by have := h2.1; simpa using this
 refine ⟨h1.kept hg (Bn h1 h2 (by decide)), vs ++ [u], by rw [List.length_append]; exact hv, fun j r' hj => ?_⟩
 rcases Nat.lt_or_ge j rs.length with hlt | hge
 ·rw [List.getElem?_append_left hlt] at hj
  obtain ⟨u', m1, m2, m3⟩ := h3 j r' hj
  exact ⟨u', by rw [List.getElem?_append_left (by omega)]; exact m1, m2.kept hg (Bn m2 h2 (by decide)), m3⟩
 ·rw [List.getElem?_append_right hge] at hj
  have hj0 : j - rs.length = 0 := by
   have := (List.getElem?_eq_some_iff.1 hj).1
   simp at this
   omega
  rw [hj0] at hj
  simp only [List.getElem?_cons_zero, Option.some.injEq] at hj
  subst hj
  exact ⟨u, by rw [List.getElem?_append_right (by omega), show j - vs.length = 0 from by omega]; rfl, hu.kept hg (Bn hu h2 (by decide)), hne⟩
theorem I7 (sz : Int) (fv : Value) (hs : List Nat) (N c : Nat) (D : DataW Value) (Q : List (List UInt8)) (ea : Option Addr) (es : List (Nat × List UInt8)) (ec : Nat) (hn : hs.length ≤ 60) (hec : es.length ≤ ec)
  (he : ∀ e ∈ es, e.1 < 20 ∧ e.2.length ≤ 100) (hQ : ∀ i p, BN Q hs i = some p → p.length ≤ 100) (hlost : hs.length - Dr Q hs ≤ es.length) (w : World) (hF : FoundM w N c D hs Q) (hE : Rd w ea (exV es)) :
  Calls Tryz.prog 118 #[.agg #[.int .i64 sz, fv, .int .i64 (hs.length : Int), .map (some N), .slice ea es.length ec]] w fun e w' => ∃ v1 v2, e = .returned (.tuple #[v1, v2]) ∧ w'.ownsRow w.heap.size 80 1 v1 hs.length (A9 (Ko hs.length (BN Q hs) es)) ∧ OwnRows w' w.heap.size v2 (GC hs.length (BN Q hs) es) ∧ Below w.heap.size w w' := by
 obtain ⟨i0, hi, hz0, hz1, hz2⟩ := info_parts Tryz.info16
 obtain ⟨i1, hj, hy0, hy1, hy2⟩ := info_parts Tryz.infoRow
 have hbk := Blk.new w #[.int .i64 sz, fv, .int .i64 (hs.length : Int), .map (some N), .slice ea es.length ec] 92
 have hb1 : Below w.heap.size w (w.alloc (.cells #[.int .i64 sz, fv, .int .i64 (hs.length : Int), .map (some N), .slice ea es.length ec] 92)) := (Below.refl _ _).alloc (Nat.le_refl _) _
 obtain ⟨W1, hW1⟩ : ∃ x, x = w.alloc (.cells #[.int .i64 sz, fv, .int .i64 (hs.length : Int), .map (some N), .slice ea es.length ec] 92) := ⟨_, rfl⟩
 rw [← hW1] at hbk hb1
 have hs1 : W1.heap.size = w.heap.size + 1 := by rw [hW1]; simp
 have hall : ∀ W, Below (w.heap.size + 1) W1 W → Blk W w.heap.size [.int .i64 sz, fv, .int .i64 (hs.length : Int), .map (some N), .slice ea es.length ec] ∧ FoundM W N c D hs Q ∧ Rd W ea (exV es) ∧ Below w.heap.size w W := by
  intro W hW
  have hW' : Below W1.heap.size W1 W := by rw [hs1]; exact hW
  have hb := Below.next hb1 hW'
  exact ⟨hbk.touch (Touch.of_below hW' []) (by simp), ⟨Ar hF.own (Touch.of_below hb []) (by simp), hF.at', hF.keys⟩, hE.later (Nat.le_refl _) hb, hb⟩
 have HA := Aa hall
 have HW1 := Aa hW1
 have hsz1 := hs1
 have HQ := Aa hQ
 have HE := Aa he
 clear hall hbk hb1 hW1 hs1 hF hE hQ he
 go_enter Tryz.func118, Tryz.ntmps118
 go_wp2_with fail
 rw [← HW1.out]
 have hsa : w.heap.size + 1 ≤ W1.heap.size := by omega
 have ho1 : ((W1.alloc (.cells #[] 80)).alloc (.cells #[] 167)).ownsRow (w.heap.size + 1) 80 1 (.slice (some ⟨w.heap.size + 1, 0, none⟩) 0 0) 0 [] := by
  have h : (W1.alloc (.cells #[] 80)).ownsRow (w.heap.size + 1) 80 1 (.slice (some ⟨W1.heap.size, 0, none⟩) 0 0) 0 [] := World.ownsRow_lit W1 #[] 0 hsa (Nat.zero_le _) rfl
  have := h.alloc (.cells #[] 167)
  rw [hsz1] at this
  exact this
 have ho2 : OwnRows ((W1.alloc (.cells #[] 80)).alloc (.cells #[] 167)) (w.heap.size + 1) (.slice (some ⟨w.heap.size + 1 + 1, 0, none⟩) 0 0) [] := by
  refine ⟨[], ?_, fun j r hj => by simp at hj⟩
  have this : ((W1.alloc (.cells #[] 80)).alloc (.cells #[] 167)).ownsRow (w.heap.size + 1) 167 1 (.slice (some ⟨(W1.alloc (.cells #[] 80)).heap.size, 0, none⟩) 0 0) 0 [] := World.ownsRow_lit (W1.alloc (.cells #[] 80)) #[] 0 (by simp; omega) (Nat.zero_le _) rfl
  rw [show (W1.alloc (.cells #[] 80)).heap.size = w.heap.size + 1 + 1 from by simp [hsz1]] at this
  exact this
 have hb3 : Below (w.heap.size + 1) W1 ((W1.alloc (.cells #[] 80)).alloc (.cells #[] 167)) := ((Below.refl _ _).alloc (by omega) _).alloc (by simp; omega) _
 have H1 := Aa ho1
 have H2 := Aa ho2
 have H3 := Aa hb3
 clear ho1 ho2 hb3
 obtain ⟨K, hK⟩ : ∃ x, x = hs.length := ⟨_, rfl⟩
 obtain ⟨P, hP⟩ : ∃ x, x = BN Q hs := ⟨_, rfl⟩
 rw [← hK]
 have hK60 : K ≤ 60 := by omega
 have HK := Aa hK
 have HP := Aa hP
 clear hK hP hn
 go_loopw [4, 5, 15] (fun v1 v2 i wr => ∃ k : Nat, k ≤ K ∧ i = .int .i64 (k : Int) ∧ PtsRows wr (w.heap.size + 1) v1 v2 (AT k P) ((AT k P).map fun i => C7 ((P i).getD [])) ∧ Below (w.heap.size + 1) W1 wr)
  (fun _ _ i _ => K - (intOf i).toNat)
 case atStart => exact ⟨0, by omega, rfl, ⟨H1.out, H2.out.choose, H2.out.choose_spec.1, fun j r hj => by simp [AT] at hj⟩, H3.out⟩
 case round =>
  clear H1 H2 H3
  obtain ⟨k, hk, rfl, hpr, hbl⟩ := hrel
  obtain ⟨hbx, hfm, hex, hbw⟩ := HA.out wr hbl
  have hszr := hbl.size
  have hszr' : w.heap.size + 1 ≤ wr.heap.size := by omega
  by_cases hlt : k < K
  ·have hlk := EN hfm.own Tryz.lawInt Tryz.underlying89 (Tryz.zeroPiece _) (Di k (by omega))
   rw [hfm.at' k (by rw [← HK.out]; exact hlt)] at hlk
   have hpk : BV Q (hs.getD k 0) = P k := by rw [HP.out]; rfl
   rw [hpk] at hlk
   have q3 := (hbx 3 _ rfl).1
   have hks : AT (k + 1) P = AT k P ++ if (P k).isSome then [k] else [] := by
    unfold AT
    rw [List.range_succ, List.filter_append]
    cases hp : P k <;> simp [hp]
   cases hp : P k with
   | none =>
    rw [hp] at hlk hks
    simp only [Option.map_none, Option.getD_none, Option.isSome_none, Bool.false_eq_true, if_false, List.append_nil] at hlk hks
    have HKS := Aa hks
    have HPR := Aa hpr
    have HB := Aa hbl
    clear hks hpr hbl hfm hex hbw hpk hp hbx
    go_wp2_with fail
    refine ⟨⟨k + 1, by omega, by go_num, ?_, HB.out.alloc hszr' _⟩, by simp [intOf]; omega⟩
    rw [HKS.out]
    exact HPR.out.later ((Below.refl _ _).alloc (Nat.le_refl _) _)
   | some p =>
    rw [hp] at hlk hks
    simp only [Option.map_some, Option.getD_some, Option.isSome_some, if_true] at hlk hks
    have hpl := HQ.out k p (by rw [← HP.out]; exact hp)
    have hb2 : Below wr.heap.size wr (wr.alloc (.cells #[.string (str p)] 189)) := (Below.refl _ _).alloc (Nat.le_refl _) _
    have hpr2 := hpr.later hb2
    have hu4 : ∀ g, u4.ownBlock = some g → g < wr.heap.size := fun g hg => (hpr.1.lt g hg).2
    have HU4 := Aa hu4
    clear hu4
    have hpb := Blk.new wr #[.string (str p)] 189
    have w16 : IntKind.u16.wrap (k : Int) = (k : Int) := by rw [IntKind.wrap_u16]; omega
    have hkl : (AT k P).length ≤ 60 := by have := Gn k P; omega
    have HKS := Aa hks
    have HPR := Aa hpr2
    have HPB := Aa hpb
    have HB := Aa (hbl.alloc hszr' (.cells #[.string (str p)] 189))
    have HPP := Aa hp
    have HRR := Aa (fun W => Fw p (by omega) W)
    clear hks hpr hpr2 hpb hbl hfm hex hbw hpk hp hbx hb2
    go_wp2_with (at_builtin; refine wpList_append_own_at _ rfl (.tmp 26) (.tmp 29) 121 rfl (w.heap.size + 1) 80 i0 (.int .u16 0) 1 2 Tryz.underlying121 hi hz0 hz1 hz2 rfl (by decide) _ _ _ rfl (HPR.out.1.alloc _) ⟨wr.heap.size + 1, 0, none⟩ 1 1 [.int .u16 (k : Int)] rfl rfl ?c1 ?c2 ?c3 ?c4 ?c5 ?_)
    case c2 => rfl
    case c3 => unfold maxLen; omega
    case c4 => omega
    case c5 => omega
    intro v6 w6 hown6 hg6 _ hob6
    have hpr6 := (HPR.out.later ((Below.refl _ _).alloc (Nat.le_refl _) (.cells #[.int .u16 (k : Int)] 80))).point hown6 hg6 (by simpa using hob6)
    have hb6 := Az HB.out (by simp; omega) HPR.out.1 hg6
    have hpc := ((HPB.out.alloc (.cells #[.int .u16 (k : Int)] 80)).touch (Touch.of_row hg6) (fun hm => by
     have := HU4.out _ (blkL_mem.1 hm)
     omega)) 0 _ rfl
    have q7 := hpc.1
    have HPR6 := Aa hpr6
    have HB6 := Aa hb6
    have hsz6 := hb6.size
    clear hown6 hg6 hob6 hpr6 hb6 hpc HPR HPB HB HU4
    go_wp2_with fail
    refine (HRR.out w6).mono ?_
    rintro e w7 ⟨v7, rfl, hown7, hb7⟩
    obtain ⟨a7, c7, rfl, _⟩ := AE hown7
    have hb7' := HB6.out.trans (hb7.mono (by omega))
    have hsz7 := hb7'.size
    have hpr7 := (HPR6.out.later hb7).later ((Below.refl _ _).alloc (Nat.le_refl _) (.cells #[.slice a7 (p.length / 2) c7] 167))
    have hnew7 : ∀ g, (Value.slice a7 (p.length / 2) c7).ownBlock = some g → w6.heap.size ≤ g := fun g hg => (hown7.lt g hg).1
    have hold6 : ∀ g, v6.ownBlock = some g → g < w6.heap.size := fun g hg => (HPR6.out.1.lt g hg).2
    have hne : (Value.slice a7 (p.length / 2) c7).ownBlock = none ∨ (Value.slice a7 (p.length / 2) c7).ownBlock ≠ v6.ownBlock := by
     cases hg : (Value.slice a7 (p.length / 2) c7).ownBlock with
     | none => exact .inl rfl
     | some g =>
      right
      intro e
      have h1 := hnew7 g hg
      have h2 := hold6 g e.symm
      omega
    have hu7 := (Ad (base' := w.heap.size + 1) (by omega) hown7).alloc (.cells #[.slice a7 (p.length / 2) c7] 167)
    obtain ⟨r1, vs, r2, r3⟩ := hpr7
    have hrl : (C7 p).length = p.length / 2 := BK p
    have HR1 := Aa r1
    have HR2 := Aa r2
    have HR3 := Aa r3
    have HU7 := Aa hu7
    have HNE := Aa hne
    have HB7 := Aa hb7'
    have hml : ((AT k P).map fun i => C7 ((P i).getD [])).length ≤ 60 := by rw [List.length_map]; omega
    clear r1 r2 r3 hu7 hne hb7' hb7 hown7 hnew7 hold6 HPR6 HB6
    go_wp2_with (at_builtin; refine wpList_append_own _ rfl (.tmp 31) (.tmp 35) 160 rfl (w.heap.size + 1) 167 i1 (.slice none 0 0) 1 24 Tryz.underlying160 hj hy0 hy1 hy2 rfl (by decide) _ _ _ rfl HR2.out ⟨w7.heap.size, 0, none⟩ 1 1 [.slice a7 (p.length / 2) c7] rfl rfl (cell_one_new _ _ _) ?d2 ?d3 ?d4 ?d5 ?_)
    case d2 => intro u hu; simp at hu; subst hu; rfl
    case d3 => unfold maxLen; omega
    case d4 => omega
    case d5 => simp; omega
    intro v8 w8 hown8 hg8 _
    have hpr8 : PtsRows w8 (w.heap.size + 1) v6 v8 (AT (k + 1) P) ((AT (k + 1) P).map fun i => C7 ((P i).getD [])) := by
     have h := PtsRows.row (r := C7 p) HR1.out HR2.out HR3.out (by rw [hrl]; exact HU7.out) HNE.out (by rw [List.length_map]; exact hown8) hg8
     rw [HKS.out, List.map_append]
     have e : [k].map (fun i => C7 ((P i).getD [])) = [C7 p] := by simp [HPP.out]
     rw [e]
     exact h
    have hb8 : Below (w.heap.size + 1) W1 w8 := ((HB7.out.alloc (by omega) _).grown hg8 (by simp; omega) (fun g hg => (HR2.out.lt g hg).1))
    have HPR8 := Aa hpr8
    have HB8 := Aa hb8
    clear hpr8 hb8 hown8 hg8 HR1 HR2 HR3 HU7 HNE
    go_wp2_with fail
    exact ⟨⟨k + 1, by omega, by go_num, HPR8.out, HB8.out⟩, by simp [intOf]; omega⟩
  ·obtain rfl : k = K := by omega
   obtain ⟨m, hm⟩ : ∃ x, x = k - Dr Q hs := ⟨_, rfl⟩
   have hlo := fun W (hW : Below (w.heap.size + 1) W1 W) => IQ sz fv (.slice ea es.length ec) N c D hs Q (by rw [← HK.out]; omega) W (HA.out W hW).2.1
   rw [← HK.out, ← hm] at hlo
   have hmes : m ≤ es.length := by rw [hm, HK.out]; exact hlost
   have hS : ∀ W, Below (w.heap.size + 1) W1 W → W.cell? ⟨w.heap.size, 0, none⟩ = some (.int .i64 sz) ∧ W.cell? ⟨w.heap.size, 1, none⟩ = some fv ∧ W.cell? ⟨w.heap.size, 2, none⟩ = some (.int .i64 (k : Int)) ∧ W.cell? ⟨w.heap.size, 3, none⟩ = some (.map (some N)) ∧ W.cell? ⟨w.heap.size, 4, none⟩ = some (.slice ea es.length ec) ∧ Below (w.heap.size + 1) W1 W := fun W hW => by
    have hb := (HA.out W hW).1
    rw [← HK.out] at hb
    exact ⟨(hb 0 _ rfl).1, (hb 1 _ rfl).1, (hb 2 _ rfl).1, (hb 3 _ rfl).1, (hb 4 _ rfl).1, hW⟩
   have HS := Aa hS
   have HLO := Aa hlo
   have HPR := Aa hpr
   have HB := Aa hbl
   have HM := Aa hm
   clear hlo hpr hm hbx hfm hex hbw hlost hS
   go_wp2_with fail
   go_region_held (fun W => W.cell? ⟨w.heap.size, 0, none⟩ = some (.int .i64 sz) ∧ W.cell? ⟨w.heap.size, 1, none⟩ = some fv ∧ W.cell? ⟨w.heap.size, 2, none⟩ = some (.int .i64 (k : Int)) ∧ W.cell? ⟨w.heap.size, 3, none⟩ = some (.map (some N)) ∧ W.cell? ⟨w.heap.size, 4, none⟩ = some (.slice ea es.length ec) ∧ Below (w.heap.size + 1) W1 W)
    (first | assumption | exact HS.out _ hbl.drew | exact HS.out _ (HB.out.drew.trans (hb6.mono (by show w.heap.size + 1 ≤ wr.heap.size; omega))))
    (first | (go_at_call 84; refine (HLO.out _ hbl.drew).mono ?_; rintro e w6 ⟨rfl, hb6⟩))
   have hb6' : Below (w.heap.size + 1) W1 w6 := HB.out.drew.trans (hb6.mono (by show w.heap.size + 1 ≤ wr.heap.size; omega))
   have hpr6 : PtsRows w6 (w.heap.size + 1) u4 u5 (AT k P) ((AT k P).map fun i => C7 ((P i).getD [])) := by
    have h0 : Below wr.heap.size wr wr.drew := (Below.refl _ _).drew
    exact (HPR.out.later h0).later hb6
   have H1 := Aa hb6'
   have H2 := Aa hpr6
   have hkn : (AT k P).length ≤ k := Gn k P
   have hm60 : m ≤ 60 := by have := HM.out; omega
   clear hb6 hb6' hpr6 hbl HS HLO HB HPR
   go_wp2_with fail
   go_loopw [4, 5, 44] (fun v1 v2 i wr => ∃ j : Nat, j ≤ m ∧ i = .int .i64 (j : Int) ∧ PtsRows wr (w.heap.size + 1) v1 v2 (AT k P ++ (es.take j).map fun e => k + e.1) (((AT k P).map fun i => C7 ((P i).getD [])) ++ (es.take j).map fun e => C7 e.2) ∧ Below (w.heap.size + 1) W1 wr)
    (fun _ _ i _ => m - (intOf i).toNat)
   case atStart => exact ⟨0, by omega, rfl, by simpa using H2.out, H1.out⟩
   case round =>
    clear H1 H2
    obtain ⟨j, hjm, rfl, hpr, hbl⟩ := hrel
    obtain ⟨hbx, hfm, hex, hbw⟩ := HA.out wr hbl
    have hszr := hbl.size
    have hszr' : w.heap.size + 1 ≤ wr.heap.size := by omega
    have q2 := fun o => ((hbx.alloc o) 2 _ rfl).1
    rw [← HK.out] at q2
    by_cases hlt : j < m
    ·have hje : j < es.length := by omega
     obtain ⟨eb, eo, rfl, c1, c2⟩ := Sh hex j hje
     have hee := HE.out _ (List.getElem_mem hje)
     have htk : es.take (j + 1) = es.take j ++ [es[j]] := Ap es j hje
     obtain ⟨en, es1, hen⟩ : ∃ a b, es[j] = (a, b) := ⟨_, _, rfl⟩
     rw [hen] at c1 c2 hee htk
     dsimp only at c1 c2 hee
     have HTK := Aa htk
     have hb2 : Below wr.heap.size wr (wr.alloc (.cells #[.int .i64 (en : Int), .string (str es1)] 192)) := (Below.refl _ _).alloc (Nat.le_refl _) _
     have hpr2 := hpr.later hb2
     have hu4 : ∀ g, u4.ownBlock = some g → g < wr.heap.size := fun g hg => (hpr.1.lt g hg).2
     have hpb := Blk.new wr #[.int .i64 (en : Int), .string (str es1)] 192
     have w16 : IntKind.u16.wrap ((k : Int) + (en : Int)) = (k : Int) + (en : Int) := by rw [IntKind.wrap_u16]; omega
     have hpl : (AT k P ++ (es.take j).map fun e => k + e.1).length ≤ 1000 := by
      rw [List.length_append, List.length_map, List.length_take]
      have : m ≤ k := by rw [HM.out]; omega
      omega
     have hrl2 : (((AT k P).map fun i => C7 ((P i).getD [])) ++ (es.take j).map fun e => C7 e.2).length ≤ 1000 := by
      rw [List.length_append, List.length_map, List.length_map, List.length_take]
      have : m ≤ k := by rw [HM.out]; omega
      omega
     obtain ⟨PL, hPL⟩ : ∃ x, x = AT k P ++ (es.take j).map fun e => k + e.1 := ⟨_, rfl⟩
     obtain ⟨RL, hRL⟩ : ∃ x, x = ((AT k P).map fun i => C7 ((P i).getD [])) ++ (es.take j).map fun e => C7 e.2 := ⟨_, rfl⟩
     rw [← hPL, ← hRL] at hpr2
     rw [← hPL] at hpl
     rw [← hRL] at hrl2
     have HPL := Aa hPL
     have HRL := Aa hRL
     clear hPL hRL
     have HU4 := Aa hu4
     have HPR := Aa hpr2
     have HPB := Aa hpb
     have HB := Aa (hbl.alloc hszr' (.cells #[.int .i64 (en : Int), .string (str es1)] 192))
     have HRR := Aa (fun W => Fw es1 (by omega) W)
     have l1 := World.block_lt_of_cell? wr _ c1
     clear hu4 hpr hpr2 hpb hbl hfm hex hbw hbx hb2 htk hen
     go_wp2_with (at_builtin; refine wpList_append_own_at _ rfl (.tmp 48) (.tmp 55) 121 rfl (w.heap.size + 1) 80 i0 (.int .u16 0) 1 2 Tryz.underlying121 hi hz0 hz1 hz2 rfl (by decide) _ _ _ rfl (HPR.out.1.alloc _) ⟨wr.heap.size + 1, 0, none⟩ 1 1 [.int .u16 ((k : Int) + (en : Int))] rfl rfl ?x1 ?x2 ?x3 ?x4 ?x5 ?_)
     case x2 => rfl
     case x3 => unfold maxLen; omega
     case x4 => omega
     case x5 => omega
     intro v6 w6 hown6 hg6 _ hob6
     have hpr6 := (HPR.out.later ((Below.refl _ _).alloc (Nat.le_refl _) (.cells #[.int .u16 ((k : Int) + (en : Int))] 80))).point (p := k + en) hown6 hg6 (by simpa using hob6)
     have hb6 := Az HB.out (by simp; omega) HPR.out.1 hg6
     have hpc := ((HPB.out.alloc (.cells #[.int .u16 ((k : Int) + (en : Int))] 80)).touch (Touch.of_row hg6) (fun hm => by
      have := HU4.out _ (blkL_mem.1 hm)
      omega)) 1 _ rfl
     have q7 := hpc.1
     have HPR6 := Aa hpr6
     have HB6 := Aa hb6
     have hsz6 := hb6.size
     clear hown6 hg6 hob6 hpr6 hb6 hpc HPR HPB HB HU4
     go_wp2_with fail
     refine (HRR.out w6).mono ?_
     rintro e w7 ⟨v7, rfl, hown7, hb7⟩
     obtain ⟨a7, c7, rfl, _⟩ := AE hown7
     have hb7' := HB6.out.trans (hb7.mono (by omega))
     have hsz7 := hb7'.size
     have hpr7 := (HPR6.out.later hb7).later ((Below.refl _ _).alloc (Nat.le_refl _) (.cells #[.slice a7 (es1.length / 2) c7] 167))
     have hne : (Value.slice a7 (es1.length / 2) c7).ownBlock = none ∨ (Value.slice a7 (es1.length / 2) c7).ownBlock ≠ v6.ownBlock := by
      cases hg : (Value.slice a7 (es1.length / 2) c7).ownBlock with
      | none => exact .inl rfl
      | some g =>
       right
       intro e
       have h1 := (hown7.lt g hg).1
       have h2 := (HPR6.out.1.lt g e.symm).2
       omega
     have hu7 := (Ad (base' := w.heap.size + 1) (by omega) hown7).alloc (.cells #[.slice a7 (es1.length / 2) c7] 167)
     obtain ⟨r1, vs, r2, r3⟩ := hpr7
     have hrl : (C7 es1).length = es1.length / 2 := BK es1
     have HR1 := Aa r1
     have HR2 := Aa r2
     have HR3 := Aa r3
     have HU7 := Aa hu7
     have HNE := Aa hne
     have HB7 := Aa hb7'
     clear r1 r2 r3 hu7 hne hb7' hb7 hown7 HPR6 HB6
     go_wp2_with (at_builtin; refine wpList_append_own _ rfl (.tmp 57) (.tmp 61) 160 rfl (w.heap.size + 1) 167 i1 (.slice none 0 0) 1 24 Tryz.underlying160 hj hy0 hy1 hy2 rfl (by decide) _ _ _ rfl HR2.out ⟨w7.heap.size, 0, none⟩ 1 1 [.slice a7 (es1.length / 2) c7] rfl rfl (cell_one_new _ _ _) ?y2 ?y3 ?y4 ?y5 ?_)
     case y2 => intro u hu; simp at hu; subst hu; rfl
     case y3 => unfold maxLen; omega
     case y4 => omega
     case y5 => simp; omega
     intro v8 w8 hown8 hg8 _
     have hpr8 : PtsRows w8 (w.heap.size + 1) v6 v8 (AT k P ++ (es.take (j + 1)).map fun e => k + e.1) (((AT k P).map fun i => C7 ((P i).getD [])) ++ (es.take (j + 1)).map fun e => C7 e.2) := by
      have h := PtsRows.row (r := C7 es1) HR1.out HR2.out HR3.out (by rw [hrl]; exact HU7.out) HNE.out hown8 hg8
      rw [HTK.out, List.map_append, List.map_append, ← List.append_assoc, ← List.append_assoc, ← HPL.out, ← HRL.out]
      exact h
     have hb8 : Below (w.heap.size + 1) W1 w8 := ((HB7.out.alloc (by omega) _).grown hg8 (by simp; omega) (fun g hg => (HR2.out.lt g hg).1))
     have HPR8 := Aa hpr8
     have HB8 := Aa hb8
     clear hpr8 hb8 hown8 hg8 HR1 HR2 HR3 HU7 HNE
     go_wp2_with fail
     exact ⟨⟨j + 1, by omega, by go_num, HPR8.out, HB8.out⟩, by simp [intOf]; omega⟩
    ·obtain rfl : j = m := by omega
     have hlent : GH hs.length (BN Q hs) es = es.take j := by
      unfold GH
      rw [Jm, HM.out, HK.out]
     have hfin : PtsRows wr (w.heap.size + 1) u4 u5 (Ko hs.length (BN Q hs) es) (GC hs.length (BN Q hs) es) := by
      unfold Ko GC
      rw [hlent, ← HK.out, ← HP.out]
      exact hpr
     have hplen : (Ko hs.length (BN Q hs) es).length = hs.length := (Ks hs.length (BN Q hs) es (by rw [Jm, ← HK.out, ← HM.out]; exact hmes)).1
     obtain ⟨a4, c4, hu4e, _⟩ := AE hfin.1
     obtain ⟨a5, c5, hu5e, _⟩ := hfin.rows.rdRows
     have HF := Aa hfin
     have HPL := Aa hplen
     have HBW := Aa hbw
     clear hpr hfin hplen hlent hbx hfm hex hbl
     rw [hu4e, hu5e] at HF ⊢
     clear hu4e hu5e hbw q2
     go_wp2_with fail
     go_ret2
     refine ⟨_, _, rfl, ?_, ?_, HBW.out⟩
     ·have := Ad (base' := w.heap.size) (by omega) HF.out.1
      rw [HPL.out] at this
      rw [HPL.out]
      exact this
     ·exact HF.out.rows.base (by omega)
end Go.Proofs.YtonjphollmdicaaGreatDoor
namespace Go.Proofs.YtonjphollmdicaaGreatDoor
open Go.ChangeShapes Go.WideShapes Go.ChangeAt Go.RowKit
open Go.Maps
theorem Gm {α : Type} (zs xs : List α) (k : Nat) (x : α) (hz : k < zs.length) (ha : xs[k]? = some x) (h : zs.take k = xs.take k) : (zs.set k x).take (k + 1) = xs.take (k + 1) := by
 obtain ⟨hl, e⟩ := List.getElem?_eq_some_iff.1 ha
 rw [Ap xs k hl, Ap (zs.set k x) k (by rw [List.length_set]; exact hz), List.getElem_set_self, e, ← h, List.take_set, List.set_eq_of_length_le (by rw [List.length_take]; omega)]
theorem Jc (size : Nat) (fv : Value) (hs : List Nat) (N c : Nat) (D : DataW Value) (Q : List (List UInt8)) (ea : Option Addr) (es : List (Nat × List UInt8)) (ec : Nat) (hsz : 2 ≤ size) (hsz2 : size ≤ 32) (hn1 : 1 ≤ hs.length) (hn : hs.length ≤ 60) (hec : es.length ≤ ec)
  (he : ∀ e ∈ es, e.1 < 20 ∧ e.2.length = size) (hQ : ∀ i p, BN Q hs i = some p → p.length = size) (hlost : hs.length - Dr Q hs ≤ es.length) (w : World) (hF : FoundM w N c D hs Q) (hE : Rd w ea (exV es)) :
  Calls Tryz.prog 91 #[.agg #[.int .i64 (size : Int), fv, .int .i64 (hs.length : Int), .map (some N), .slice ea es.length ec]] w fun e w' => ∃ v, e = .returned v ∧ w'.ownsRow w.heap.size 9 1 v hs.length (AM (GV size hs.length (BN Q hs) es)) ∧ Below w.heap.size w w' := by
 obtain ⟨i0, hi, hz0, hz1, hz2⟩ := info_parts Tryz.infoS
 have hbk := Blk.new w #[.int .i64 (size : Int), fv, .int .i64 (hs.length : Int), .map (some N), .slice ea es.length ec] 92
 have hb1 : Below w.heap.size w (w.alloc (.cells #[.int .i64 (size : Int), fv, .int .i64 (hs.length : Int), .map (some N), .slice ea es.length ec] 92)) := (Below.refl _ _).alloc (Nat.le_refl _) _
 obtain ⟨W1, hW1⟩ : ∃ x, x = w.alloc (.cells #[.int .i64 (size : Int), fv, .int .i64 (hs.length : Int), .map (some N), .slice ea es.length ec] 92) := ⟨_, rfl⟩
 rw [← hW1] at hbk hb1
 have hs1 : W1.heap.size = w.heap.size + 1 := by rw [hW1]; simp
 have hall : ∀ W, Below W1.heap.size W1 W → Blk W w.heap.size [.int .i64 (size : Int), fv, .int .i64 (hs.length : Int), .map (some N), .slice ea es.length ec] ∧ FoundM W N c D hs Q ∧ Rd W ea (exV es) ∧ Below w.heap.size w W := by
  intro W hW
  have hb := Below.next hb1 hW
  exact ⟨hbk.touch (Touch.of_below hW []) (by simp), ⟨Ar hF.own (Touch.of_below hb []) (by simp), hF.at', hF.keys⟩, hE.later (Nat.le_refl _) hb, hb⟩
 have hKn := I7 (size : Int) fv hs N c D Q ea es ec hn hec (fun e h => ⟨(he e h).1, by rw [(he e h).2]; omega⟩) (fun i p h => by rw [hQ i p h]; omega) hlost W1 (hall W1 (Below.refl _ _)).2.1 (hall W1 (Below.refl _ _)).2.2.1
 obtain ⟨hpl, hrl⟩ := Ks hs.length (BN Q hs) es hlost
 have hplt := Ps hs.length (BN Q hs) es (by omega) (fun e h => by have := (he e h).1; omega)
 have hrok := Nq hs.length size (BN Q hs) es hQ (fun e h => (he e h).2)
 obtain ⟨K, hK⟩ : ∃ x, x = hs.length := ⟨_, rfl⟩
 obtain ⟨P, hP⟩ : ∃ x, x = BN Q hs := ⟨_, rfl⟩
 have hmS : ∀ i, Ho size K P es i = match P i with | some p => p | none => Cx (Jr (GC K P es) (Bc (Ko K P es) (AX (Ko K P es)) i) (size / 2)) := fun i => rfl
 have hAl : (GV size K P es).length = K := by simp [GV]
 have hAi : ∀ i (h : i < K), (GV size K P es)[i]? = some (Ho size K P es i) := fun i h => by simp [GV, h]
 rw [← hK, ← hP] at hpl hrl hplt hrok hKn ⊢
 rw [← hK] at hW1 hall
 rw [← hK] at hn hn1
 obtain ⟨pts, hpts⟩ : ∃ x, x = Ko K P es := ⟨_, rfl⟩
 obtain ⟨rws, hrws⟩ : ∃ x, x = GC K P es := ⟨_, rfl⟩
 obtain ⟨AS, hAS⟩ : ∃ x, x = GV size K P es := ⟨_, rfl⟩
 obtain ⟨mS, hmSe⟩ : ∃ x, x = Ho size K P es := ⟨_, rfl⟩
 rw [← hpts, ← hrws] at hKn hmS
 rw [← hpts] at hpl hplt
 rw [← hrws] at hrl hrok
 rw [← hAS] at hAl hAi ⊢
 rw [← hmSe] at hmS hAi
 have HA := Aa hall
 have HW1 := Aa hW1
 have HKN := Aa hKn
 have HK := Aa hK
 have HP := Aa hP
 have HMS := Aa hmS
 have HAI := Aa hAi
 have HRO := Aa hrok
 have HPLT := Aa hplt
 have hscl : (AX pts).length = pts.length := by simp [AX]
 have hTh := Aa (fun W a cp (h : Rd W a (A9 pts)) => Hc pts a cp (by omega) (by omega) hplt W h)
 have hWe := Aa (fun t (ht : t < 65536) a1 a2 c1 c2 W (h1 : Rd W a1 (A9 pts)) (h2 : Rd W a2 (A9 (AX pts))) => Hb pts (AX pts) t a1 a2 c1 c2 (by omega) (by omega) hscl hplt (Dx pts) ht W h1 h2)
 have hwl : ∀ t, (Bc pts (AX pts) t).length = rws.length := fun t => by unfold Bc; rw [List.length_map, List.length_range, hpl, hrl]
 have hMi := Aa (fun t a1 a2 c1 c2 W (h1 : RdRows W a1 rws) (h2 : Rd W a2 (A9 (Bc pts (AX pts) t))) => Ns rws (Bc pts (AX pts) t) (size / 2) a1 a2 c1 c2 (by omega) (hwl t) (by omega) hrok (DM pts (AX pts) t (Dx pts)) W h1 h2)
 have hTx := Aa (fun t a cp W (h : Rd W a (A9 (Jr rws (Bc pts (AX pts) t) (size / 2)))) => KG (Jr rws (Bc pts (AX pts) t) (size / 2)) a cp (by rw [Hy]; omega) (RF rws (DM pts (AX pts) t (Dx pts)) _) W h)
 simp only [Hy] at hTx
 rw [hrl] at hMi
 rw [hpl] at hTh hWe
 clear hall hbk hb1 hW1 hF hE hQ he hKn hK hP hmS hAi hpts hrws hAS hmSe hrok hplt hwl hscl hlost
 go_enter Tryz.func91, Tryz.ntmps91
 go_wp2_with fail
 rw [← HW1.out]
 refine HKN.out.mono ?_
 rintro e w2 ⟨v1, v2, rfl, ho1, ho2, hb2⟩
 obtain ⟨pa, pc, rfl, hrp⟩ := AE ho1
 obtain ⟨ra, rc, rfl, hrr⟩ := ho2.rdRows
 rw [hrl]
 have HB2 := Aa hb2
 have HRP := Aa hrp
 have HRR := Aa hrr
 clear ho1 ho2 hb2 hrp hrr HKN
 go_wp2_with fail
 refine (hTh.out w2 pa pc HRP.out).mono ?_
 rintro e w3 ⟨a1, c1, a2, c2, rfl, hr1, hr2, hb3⟩
 have hbc : Below w3.heap.size w3 (w3.alloc (.cells #[.slice a1 K c1, .slice a2 K c2] 201)) := (Below.refl _ _).alloc (Nat.le_refl _) _
 have hcb := Blk.new w3 #[.slice a1 K c1, .slice a2 K c2] 201
 obtain ⟨W4, hW4⟩ : ∃ x, x = w3.alloc (.cells #[.slice a1 K c1, .slice a2 K c2] 201) := ⟨_, rfl⟩
 rw [← hW4] at hbc hcb
 have hb24 := Below.next hb3 hbc
 have hb14 := Below.next HB2.out hb24
 have hstay : ∀ W, Below W4.heap.size W4 W → Blk W w3.heap.size [.slice a1 K c1, .slice a2 K c2] ∧ Rd W a1 (A9 pts) ∧ Rd W a2 (A9 (AX pts)) ∧ RdRows W ra rws ∧ Blk W w.heap.size [.int .i64 (size : Int), fv, .int .i64 (K : Int), .map (some N), .slice ea es.length ec] ∧ FoundM W N c D hs Q ∧ Below w.heap.size w W := by
  intro W hW
  have h3 := Below.next hbc hW
  obtain ⟨k1, k2, _, k4⟩ := HA.out W (Below.next hb14 hW)
  exact ⟨hcb.touch (Touch.of_below hW []) (by simp), hr1.later (Nat.le_refl _) h3, hr2.later (Nat.le_refl _) h3, HRR.out.later (Nat.le_refl _) (Below.next hb24 hW), k1, k2, k4⟩
 have HST := Aa hstay
 have HW4 := Aa hW4
 have q2 := ((HST.out W4 (Below.refl _ _)).2.2.2.2.1 2 _ rfl).1
 clear hstay hbc hcb hW4 hb24 hb14 hr1 hr2 hb3 HRP HRR HB2 HA hTh
 rw [HW4.out] at q2
 have hs4 : W4.heap.size = w3.heap.size + 1 := by rw [HW4.out]; simp
 go_wp2_with (at_make; refine wpList_make_full _ rfl _ _ 23 rfl (w3.heap.size + 1) 9 i0 (.string ByteArray.empty) 1 Tryz.underlying23 hi hz0 hz1 .i64 .i64 _ _ K rfl rfl rfl rfl ?c1 ?c2 ?c3 ?_)
 case c1 => rw [hz2]; omega
 case c2 => unfold maxLen; omega
 case c3 => simp
 intro w5 hown5 hg5
 have hb5 : Below (w3.heap.size + 1) W4 w5 := by
  rw [HW4.out]
  exact (Below.refl _ _).grown hg5 (by simp) (by intro k hk; cases hk)
 obtain ⟨g, hg⟩ : ∃ g, g = w3.heap.size + 1 := ⟨_, rfl⟩
 rw [← hg] at hown5 hb5 hs4 ⊢
 have HW45 := Aa hb5
 have HO5 := Aa hown5
 have HG := Aa hg
 clear hg5 hown5 hb5 hg q2
 go_wp2_with fail
 go_loopw [23] (fun i wr => ∃ (k : Nat) (zs : List (List UInt8)), k ≤ K ∧ i = .int .i64 (k : Int) ∧ wr.ownsRow g 9 1 (.slice (some ⟨g, 0, none⟩) K K) K (AM zs) ∧ Below g W4 wr ∧ Hid (zs.take k = AS.take k))
  (fun i _ => K - (intOf i).toNat)
 case atStart => exact ⟨0, List.replicate K [], by omega, rfl, by simp only [AM, List.map_replicate, show str [] = ByteArray.empty from rfl]; simpa [toList_madeCells_one] using HO5.out, HW45.out, Aa (by simp)⟩
 case round =>
  clear HO5 HW45
  obtain ⟨k, zs, hk, rfl, hown, hbl, hzs⟩ := hrel
  have hbl' : Below W4.heap.size W4 wr := by rw [hs4]; exact hbl
  obtain ⟨hcb, hr1, hr2, hrr, hbx, hfm, hbw⟩ := HST.out wr hbl'
  have hszr := hbl.size
  have hszr' : g ≤ wr.heap.size := by omega
  have hzl : zs.length = K := by have := hown.1; simpa [AM] using this
  by_cases hlt : k < K
  ·have hlk := EN hfm.own Tryz.lawInt Tryz.underlying89 (Tryz.zeroPiece _) (Di k (by omega))
   rw [hfm.at' k (by rw [← HK.out]; exact hlt)] at hlk
   have hpk : BV Q (hs.getD k 0) = P k := by rw [HP.out]; rfl
   rw [hpk] at hlk
   have q3 := (hbx 3 _ rfl).1
   have hgl : g < wr.heap.size := (hown.lt g rfl).2
   have HNX := Aa (fun x (hx : AS[k]? = some x) => Gm zs AS k x (by omega) hx hzs.out)
   have HAK := Aa (HAI.out k hlt)
   have HMK := Aa (HMS.out k)
   have hset : ∀ (W : World) (x : List UInt8), Below wr.heap.size wr W → (W.setCell ⟨g, k, none⟩ (.string (str x))).ownsRow g 9 1 (.slice (some ⟨g, 0, none⟩) K K) K (AM (zs.set k x)) ∧ Below g W4 (W.setCell ⟨g, k, none⟩ (.string (str x))) ∧ W.cell? ⟨g, k, none⟩ = some (.string (str (zs.getD k []))) ∧ W.frozen? ⟨g, k, none⟩ = false := by
    intro W x hW
    have ho := Ab hown (Nat.le_refl _) hW
    refine ⟨?_, (hbl.trans (hW.mono hszr')).setCell (Nat.le_refl _) _, ?_, ho.frozenAt k⟩
    ·have h := (ho.stored k (.string (str x))).1
     have e : AM (zs.set k x) = (AM zs).set k (.string (str x)) := by simp [AM, List.map_set]
     rw [e]
     exact h
    ·rw [ho.cellAt k (by omega)]
     simp [AM, hzl, hlt]
   have HSET := Aa hset
   cases hp : P k with
   | none =>
    rw [hp] at hlk HMK
    simp only [Option.map_none, Option.getD_none, Option.isSome_none] at hlk
    dsimp only at HMK
    have hba : Below wr.heap.size wr (wr.alloc (.cells #[.string ⟨#[]⟩] 189)) := (Below.refl _ _).alloc (Nat.le_refl _) _
    obtain ⟨Wa, hWa⟩ : ∃ x, x = wr.alloc (.cells #[.string ⟨#[]⟩] 189) := ⟨_, rfl⟩
    rw [← hWa] at hba
    have z0 := ((hcb.touch (Touch.of_below hba []) (by simp)) 0 _ rfl).1
    have z1 := ((hcb.touch (Touch.of_below hba []) (by simp)) 1 _ rfl).1
    have hwe := hWe.out k (by omega) a1 a2 c1 c2 Wa (hr1.later (Nat.le_refl _) hba) (hr2.later (Nat.le_refl _) hba)
    have w16 : IntKind.u16.wrap (k : Int) = (k : Int) := by rw [IntKind.wrap_u16]; omega
    have HWE := Aa hwe
    have HRRW := Aa hrr
    have HBX := Aa hbx
    have HBA := Aa hba
    have HWA := Aa hWa
    have HMP : Hid (AS[k]? = some (Cx (Jr rws (Bc pts (AX pts) k) (size / 2)))) := Aa (by rw [HAK.out, HMK.out])
    rw [hWa] at z0 z1
    clear hwe hrr hbx hba hWa hset hown hbl hbl' hzs hcb hr1 hr2 hfm hbw HAK HMK hpk hp
    go_wp2_with fail
    rw [← HWA.out]
    refine HWE.out.mono ?_
    rintro e w6 ⟨v6, rfl, ho6, hb6⟩
    obtain ⟨wa, wc, rfl, hrw⟩ := AE ho6
    have hb06 := Below.next HBA.out hb6
    have x0 := ((HBX.out.touch (Touch.of_below hb06 []) (by simp)) 0 _ rfl).1
    have hmi := hMi.out k ra wa rc wc w6 (HRRW.out.later (Nat.le_refl _) hb06) hrw
    have HMI := Aa hmi
    have HB06 := Aa hb06
    clear hmi hb06 hrw ho6 hb6 HWE HRRW HBX HBA
    go_wp2_with fail
    rw [show ((size : Int) / 2) = ((size / 2 : Nat) : Int) from by omega]
    refine HMI.out.mono ?_
    rintro e w7 ⟨v7, rfl, ho7, hb7⟩
    obtain ⟨ma, mc, rfl, hrm⟩ := AE ho7
    have htx := hTx.out k ma mc w7 hrm
    have hb07 := Below.next HB06.out hb7
    have HTX := Aa htx
    clear htx hrm ho7 hb7 HMI
    go_wp2_with fail
    refine HTX.out.mono ?_
    rintro e w8 ⟨rfl, hb8⟩
    have hb08 := Below.next hb07 hb8
    obtain ⟨TT, hTT⟩ : ∃ x, x = Cx (Jr rws (Bc pts (AX pts) k) (size / 2)) := ⟨_, rfl⟩
    rw [← hTT] at HMP ⊢
    obtain ⟨s1, s2, s3, s4⟩ := HSET.out w8 TT hb08
    have S1 := Aa s1
    have S2 := Aa s2
    have S5 := Aa (HNX.out TT HMP.out)
    clear s1 s2 hb08 hb07 hb8 hTT HTX HSET HNX
    go_wp2_with fail
    exact ⟨⟨k + 1, zs.set k TT, by omega, by go_num, S1.out, S2.out, S5⟩, by simp [intOf]; omega⟩
   | some p =>
    rw [hp] at hlk HMK
    simp only [Option.map_some, Option.getD_some, Option.isSome_some] at hlk
    have hmp : AS[k]? = some p := by rw [HAK.out, HMK.out]
    have hnx := HNX.out p hmp
    obtain ⟨s1, s2, s3, s4⟩ := HSET.out wr p (Below.refl _ _)
    have S1 := Aa (s1.alloc (.cells #[.string (str p)] 189))
    have S2 := Aa (s2.alloc (by simp; omega) (.cells #[.string (str p)] 189))
    have S5 := Aa hnx
    clear s1 s2 hnx hmp hset hown hbl hbl' hzs hcb hr1 hr2 hrr hbx hfm hbw HSET HNX HAK HMK hpk hp
    go_wp2_with fail
    exact ⟨⟨k + 1, zs.set k p, by omega, by go_num, S1.out, S2.out, S5⟩, by simp [intOf]; omega⟩
  ·obtain rfl : k = K := by omega
   have hze : zs = AS := by
    have h := hzs.out
    rw [← hzl, List.take_length, hzl, List.take_of_length_le (by rw [hAl]; exact Nat.le_refl _)] at h
    exact h
   rw [hze] at hown
   have hgw : w.heap.size ≤ g := by
    have h1 := hbw.size
    have h2 := (HST.out W4 (Below.refl _ _)).2.2.2.2.2.2.size
    omega
   have HO := Aa hown
   have HBW := Aa hbw
   clear hown hbw hzs hze hcb hr1 hr2 hrr hbx hfm hbl hbl'
   go_wp2_with fail
   go_ret
   exact ⟨_, rfl, Ad hgw HO.out, HBW.out⟩
end Go.Proofs.YtonjphollmdicaaGreatDoor
