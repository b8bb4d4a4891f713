import Derived.Test.YtonjphollmdicaaGreatDoorB06
import Derived.Test.YtonjphollmdicaaGreatDoorB38
import Derived.Test.YtonjphollmdicaaGreatDoorB43
import Derived.Test.YtonjphollmdicaaGreatDoorB44
import Derived.Deep.DeepCutAuto
namespace Go.Proofs.YtonjphollmdicaaGreatDoor
open Go.ChangeShapes Go.WideShapes Go.ChangeAt Go.RowKit

section
variable {P : Program} {w : World} {ops : Array Oper} {rest : List Oper} {o : Oper} {a : Act} {Q : Exit → Act → World → Prop}
/-- files more behind a row of the call's own, nil or not -/
theorem wpList_append_rd2 (hgd : o.guard = none) (s x : Operand) (t : TypeId) (ho : o.op = .call { callee := .builtin .append, args := #[s, x], argTypes := #[t, t] })
    (base : Nat) (e : TypeId) (i : TypeInfo) (z : Value) (bytes : Nat) (ht : P.underlying t = some (.slice e)) (hi : P.info? e = some i) (hz : i.zero = some z)
    (hsize : i.size = 2) (hby : i.bytes = bytes) (hzs : z.cells.size = 2)
    (v : Value) (n : Nat) (xs : List Value) (hs : a.eval s = v) (hown : w.ownsRow base e 2 v n xs)
    (xa : Option Addr) (m c : Nat) (news : List Value) (hx : a.eval x = .slice xa m c) (hl : news.length = m * 2) (hr : Rd w xa news) (hc : xa = none → c = 0) (h1 : ∀ u ∈ news, u.oneCell' = true)
    (h63 : n + m ≤ maxLen) (hbytes : (n + m) * bytes ≤ 140737488355328) (hbase : base ≤ w.heap.size)
    (h : ∀ v' w', w'.ownsRow base e 2 v' (n + m) (xs ++ news) → w.grownBy w' v.ownBlock → wpList P ops Q rest (a.put o.dst v') w') : wpList P ops Q (o :: rest) a w := by
  cases xa with
  | none =>
    have hn : news = [] := by
      cases news with
      | nil => rfl
      | cons u r =>
        obtain ⟨_, _, e, _⟩ := hr 0 u rfl
        cases e
    subst hn
    have hm : m = 0 := by simp at hl; omega
    subst hm
    rw [hc rfl] at hx
    refine wpList_append_own_none hgd s x t ho base e i 2 ht hi v n xs hs hown hx (h v w ?_ ⟨rfl, rfl, rfl, Nat.le_refl _, fun _ _ _ => rfl⟩)
    simpa using hown
  | some ad =>
    refine wpList_append_own w hgd s x t ho base e i z 2 bytes ht hi hz hsize hby hzs (by decide) v n xs hs hown ad m c news hx (by omega) (fun j u hj => ?_) h1 h63 hbytes hbase (fun v' w' k1 k2 _ => h v' w' k1 k2)
    obtain ⟨b, off, e, hcell⟩ := hr j u hj
    cases e
    have hadd : (⟨b, off, none⟩ : Addr).add j = ⟨b, off + j, none⟩ := by unfold Addr.add; split <;> simp_all
    rw [hadd]
    exact hcell
end
theorem filesV_one (l : List FileL) : ∀ u ∈ filesV l, u.oneCell' = true := by
  intro u hu
  unfold filesV at hu
  obtain ⟨f, _, hu⟩ := List.mem_flatMap.1 hu
  simp at hu
  rcases hu with rfl | rfl <;> rfl

theorem filesV_tk (l : List FileL) (k : Nat) : filesV (l.take k) = (filesV l).take (k * 2) := by
  induction l generalizing k with
  | nil => simp [filesV]
  | cons f r ih =>
    cases k with
    | zero => simp [filesV]
    | succ k =>
      rw [List.take_succ_cons]
      have e1 : ∀ (x : FileL) (y : List FileL), filesV (x :: y) = Value.string (str x.1) :: Value.string (str x.2) :: filesV y := fun _ _ => rfl
      rw [e1, e1, ih k, show (k + 1) * 2 = k * 2 + 1 + 1 from by omega, List.take_succ_cons, List.take_succ_cons]
theorem filesV_drop (l : List FileL) (k : Nat) : filesV (l.drop k) = (filesV l).drop (k * 2) := by
  induction l generalizing k with
  | nil => simp [filesV]
  | cons f r ih =>
    cases k with
    | zero => simp
    | succ k =>
      have e1 : ∀ (x : FileL) (y : List FileL), filesV (x :: y) = Value.string (str x.1) :: Value.string (str x.2) :: filesV y := fun _ _ => rfl
      rw [List.drop_succ_cons, e1, ih k, show (k + 1) * 2 = k * 2 + 1 + 1 from by omega, List.drop_succ_cons, List.drop_succ_cons]
theorem look_changed {size : Nat} {fs : List FileL} {extra : Nat} {CH : List FileL} (hs : sliceSize (size : Int) = true) (h2 : 2 ≤ size) (h32 : size ≤ 32) (hev : size % 2 = 0) (hex : extra ≤ 20) (hg : goodSet fs size = true) (hh : HandF CH) :
    ∃ ST FLG LO, lookP CH (packetsL size fs extra) = .inl ⟨ST, FLG, LO, extra⟩ ∧ ST.length = fs.length ∧ ∀ y (h : y < fs.length), ST[y]? = some (descState CH (descOf size fs[y])) := by
  refine ⟨_, _, _, look_made hs h2 h32 hev hex hg (handed_packets (by omega) h32 hex hg hh.1 (fun f hf => (hh.2 f hf).2)), by simp, fun y h => ?_⟩
  rw [List.getElem?_map, List.getElem?_map, List.getElem?_eq_getElem h]
  rfl
theorem filesV_app (l m : List FileL) : filesV (l ++ m) = filesV l ++ filesV m := by unfold filesV; rw [List.flatMap_append]
theorem rd_tail2 {w : World} {g k vc A : Nat} {FL : List FileL} (hr : Rd w (some ⟨g, 0, none⟩) (filesV FL)) (hl : FL.length = k) (hc : k ≤ vc) (xa : Option Addr) (h : xa = some ⟨g, A * 2, none⟩ ∨ vc - A = 0) : Rd w xa (filesV (FL.drop A)) := by
  intro j u hj
  have hlt : A * 2 + j < (filesV FL).length := by
    rw [filesV_drop] at hj
    have := (List.getElem?_eq_some_iff.1 hj).1
    rw [List.length_drop] at this
    omega
  rcases h with rfl | h
  · rw [filesV_drop, List.getElem?_drop] at hj
    obtain ⟨b, o, e, hcell⟩ := hr (A * 2 + j) u hj
    cases e
    rw [Nat.zero_add] at hcell
    exact ⟨g, A * 2, rfl, hcell⟩
  · rw [filesV_length] at hlt
    omega

set_option linter.unusedSimpArgs false in
set_option maxRecDepth 100000 in
set_option maxHeartbeats 40000000 in
theorem intact_walk (s : KSet) (a : Option Addr) (cap : Nat) (which : Int) (ins : List UInt8) (hgo : -9223372036854775808 ≤ which ∧ which ≤ 9223372036854775807) (hil : ins.length ≤ 9223372036854775807) (w : World) (hK : Kinds w) (h : KOk w s a cap) :
    Calls Tryz.prog 5 #[kV s a cap, .int .i64 which, .string (str ins)] w fun e w' => e = .returned (.bool true) ∧ Below w.heap.size w w' := by
  have hb0 : Below w.heap.size w (w.alloc (.cells #[.slice a s.D.length cap, .int .i64 s.sl, .int .i64 s.ex] 54)) := (Below.refl _ _).alloc (Nat.le_refl _) _
  have hbk := Blk.new w #[.slice a s.D.length cap, .int .i64 s.sl, .int .i64 s.ex] 54
  obtain ⟨W0, hW0⟩ : ∃ W0, W0 = w.alloc (.cells #[.slice a s.D.length cap, .int .i64 s.sl, .int .i64 s.ex] 54) := ⟨_, rfl⟩
  rw [← hW0] at hb0 hbk
  have hall : ∀ W, Below W0.heap.size W0 W → Kinds W ∧ KOk W s a cap ∧ W.cell? ⟨w.heap.size, 0, none⟩ = some (.slice a s.D.length cap) ∧ W.cell? ⟨w.heap.size, 1, none⟩ = some (.int .i64 s.sl) ∧ W.cell? ⟨w.heap.size, 2, none⟩ = some (.int .i64 s.ex) := by
    intro W hW
    have hb := Below.next hb0 hW
    have hk' := hbk.touch (Touch.of_below hW []) (by simp)
    exact ⟨hK.later hb hK.lt, h.later hb, (hk' 0 _ rfl).1, (hk' 1 _ rfl).1, (hk' 2 _ rfl).1⟩
  have HA := hid_of hall
  have HW := hid_of hW0
  have HB0 := hid_of hb0
  unfold kV
  clear hall hW0 hb0 hbk h hK
  go_enter Tryz.func5, Tryz.ntmps5
  go_wp2_with fail
  rw [← HW.out]
  refine (krepaired_walk W0 (HA.out W0 (Below.refl _ _)).1).mono ?_
  rintro e w1 ⟨rfl, hb1⟩
  obtain ⟨-, hok1, q0, q1, q2⟩ := HA.out w1 hb1
  have hM := kmade_cap s a cap w1 hok1
  unfold kV at hM
  have HM := hid_of hM
  have HB1 := hid_of hb1
  clear hM hb1 hok1
  go_wp2_with fail
  refine HM.out.mono ?_
  rintro e w2 ⟨g1, c1, vp, rfl, hc1f, hrdf, hownp, hb2⟩
  have hb02 := Below.next HB1.out hb2
  obtain ⟨k1, k2, k3⟩ := kFiles_short s
  have hex := kExtra_le s
  obtain ⟨z0, z1, z2, z3⟩ := kSize_facts s
  have hgd := kSet_good s
  obtain ⟨sl1, sl2⟩ := kSlices s
  obtain ⟨gp, cp, hvp⟩ : ∃ gp cp, vp = .slice (some ⟨gp, 0, none⟩) (1 + (kFiles s).length + kExtra s) cp := by
    rcases hownp.2 with ⟨_, h1⟩ | ⟨g, c, cur, h1, _⟩
    · omega
    · exact ⟨_, _, h1⟩
  subst hvp
  have hpc : 1 + (kFiles s).length + kExtra s ≤ cp := by
    rcases hownp.2 with ⟨h0, _⟩ | ⟨g, c, cur, h1, _, _, hc, _⟩
    · cases h0
    · cases h1; exact hc
  have hrp : Rd w2 (some ⟨gp, 0, none⟩) (strV (packetsL (kSize s) (kFiles s) (kExtra s))) := by
    obtain ⟨a', c', e, hr⟩ := row_rd hownp
    cases e
    exact hr
  have hks := fun W (hW : Below w2.heap.size w2 W) => kslice_walk s a cap W (HA.out W (Below.next hb02 hW)).2.1
  have hkc := fun W (hW : Below w2.heap.size w2 W) => kcut_walk (kFiles s) (kSize s) (some ⟨g1, 0, none⟩) c1 z0 (by omega) (by omega) (fun f hf => by have := (k1 f hf).2; omega) W (hrdf.later (Nat.le_refl _) hW)
  unfold kV at hks
  have hkx := fun W (hW : Below w2.heap.size w2 W) => kextra_walk s a cap W (HA.out W (Below.next hb02 hW)).2.1
  unfold kV at hkx
  have hlk := fun W (hW : Below w2.heap.size w2 W) fs fa fc vs b cb (hf : Rd W fa (filesV fs)) (hv : Rd W b (strV vs)) => Look_walk fs vs fa b fc cb W (HA.out W (Below.next hb02 hW)).1 hf hv
  have hrep := fun W (hW : Below w2.heap.size w2 W) fs fa fc vs b cb (hf : Rd W fa (filesV fs)) (hv : Rd W b (strV vs)) => Repair_walk fs vs fa b fc cb W (HA.out W (Below.next hb02 hW)).1 hf hv
  simp only [repairP_eq] at hrep
  have HREP := hid_of hrep
  have HLOK := hid_of hlk
  have HKX := hid_of hkx
  have HKS := hid_of hks
  have HKC := hid_of hkc
  have HB2 := hid_of hb02
  have HRP := hid_of hrp
  have HRF := hid_of hrdf
  have HGD := hid_of hgd
  have HZ3 := hid_of z3
  have HK1 := hid_of k1
  have HSL2 := hid_of sl2
  obtain ⟨sz, hsz⟩ : ∃ n, n = kSize s := ⟨_, rfl⟩
  obtain ⟨FS, hFS⟩ : ∃ n, n = kFiles s := ⟨_, rfl⟩
  obtain ⟨ex, hexx⟩ : ∃ n, n = kExtra s := ⟨_, rfl⟩
  rw [← hsz] at HKS HKC HRP HGD HZ3 z0 z1 z2 sl1 HSL2
  rw [← hFS] at HKC HRP HGD HRF HK1 k2 k3 hpc sl1 HSL2 hc1f ⊢
  rw [← hexx] at HRP hpc hex HKX ⊢
  obtain ⟨nf, hnf⟩ : ∃ n, n = FS.length := ⟨_, rfl⟩
  obtain ⟨SL, hSL⟩ : ∃ n, n = slicesL sz FS := ⟨_, rfl⟩
  rw [← hSL] at HKC sl1 HSL2
  rw [← hnf] at k2 k3 hpc HKC hc1f ⊢
  obtain ⟨sn, hsn⟩ : ∃ x, x = SL.length := ⟨_, rfl⟩
  rw [← hsn] at sl1 HKC
  have HSN := hid_of hsn
  have HSL := hid_of hSL
  have HNF := hid_of hnf
  obtain ⟨P, hP⟩ : ∃ x, x = packetsL sz FS ex := ⟨_, rfl⟩
  rw [← hP] at HRP
  have hPl : P.length = 1 + nf + ex := by rw [hP, packets_length, HNF.out]
  have HP := hid_of hP
  have hfew : P.take (1 + nf) = packetsL sz FS 0 := by rw [hP, hnf, few_packets]
  have hfl : (packetsL sz FS 0).length = 1 + nf := by rw [packets_length, HNF.out]; rfl
  have hrf : Rd w2 (some ⟨gp, 0, none⟩) (strV (packetsL sz FS 0)) := by
    rw [← hfew]
    have := HRP.out.take (1 + nf)
    unfold strV at this ⊢
    rw [List.map_take]
    exact this
  obtain ⟨fl, hfln, hlook⟩ := look_whole HZ3.out (by omega) (by omega) z2 HGD.out
  have hl1 := HLOK.out w2 (Below.refl _ _) FS (some ⟨g1, 0, none⟩) c1 (packetsL sz FS 0) (some ⟨gp, 0, none⟩) cp HRF.out hrf
  rw [hlook, hfl, ← HNF.out] at hl1
  have HL1 := hid_of hl1
  have HFW := hid_of hrf
  have HFL := hid_of hfl
  have HLN := hid_of hfln
  obtain ⟨-, -, q0, q1, q2⟩ := HA.out w2 HB2.out
  clear hks hkc hkx hlk hrep hb02 hrp hrdf hgd z3 k1 hsz hFS hexx hnf hSL hownp hb2 HM HB1 sl2 hl1 hrf hfl hfln hlook hfew hP hsn
  go_wp2_with fail
  refine HL1.out.mono ?_
  rintro e w4 ⟨hb4, v, rfl, sv, pv, rfl, hsv, hpv⟩
  obtain ⟨sa, sc, rfl, hsr⟩ := row_rd hsv
  obtain ⟨pa, pc, rfl, -⟩ := row_rd hpv
  dsimp only
  rw [List.length_replicate, HLN.out, ← HSL.out, ← HSN.out]
  obtain ⟨W5, hW5⟩ : ∃ W5, W5 = w4.alloc (.cells #[.slice sa nf sc, .slice pa sn pc, .int .i64 0, .int .i64 0] 34) := ⟨_, rfl⟩
  have hbk5 := Blk.new w4 #[.slice sa nf sc, .slice pa sn pc, .int .i64 0, .int .i64 0] 34
  rw [← hW5] at hbk5
  have hb45 : Below w4.heap.size w4 W5 := by rw [hW5]; exact (Below.refl _ _).alloc (Nat.le_refl _) _
  have hb25 : Below w2.heap.size w2 W5 := Below.next hb4 hb45
  have hrb := fun W (hW : Below W5.heap.size W5 W) => (hbk5.touch (Touch.of_below hW []) (by simp))
  have hS : ∀ W, Below W5.heap.size W5 W → W.cell? ⟨w4.heap.size, 0, none⟩ = some (.slice sa nf sc) ∧ W.cell? ⟨w4.heap.size, 1, none⟩ = some (.slice pa sn pc) ∧ W.cell? ⟨w4.heap.size, 2, none⟩ = some (.int .i64 0) ∧ W.cell? ⟨w4.heap.size, 3, none⟩ = some (.int .i64 0) ∧ W.cell? ⟨w.heap.size, 0, none⟩ = some (.slice a s.D.length cap) ∧ W.cell? ⟨w.heap.size, 1, none⟩ = some (.int .i64 s.sl) ∧ W.cell? ⟨w.heap.size, 2, none⟩ = some (.int .i64 s.ex) ∧ Below W5.heap.size W5 W := fun W hW => ⟨(hrb W hW 0 _ rfl).1, (hrb W hW 1 _ rfl).1, (hrb W hW 2 _ rfl).1, (hrb W hW 3 _ rfl).1, (HA.out W (Below.next (Below.next HB2.out hb25) hW)).2.2.1, (HA.out W (Below.next (Below.next HB2.out hb25) hW)).2.2.2.1, (HA.out W (Below.next (Below.next HB2.out hb25) hW)).2.2.2.2, hW⟩
  have hcur : Below W5.heap.size W5 W5 := Below.refl _ _
  obtain ⟨r0, r1, r2, r3, q0, q1, q2, -⟩ := hS W5 hcur
  have HS := hid_of hS
  have HRB := hid_of hbk5
  have HB25 := hid_of hb25
  have HB45 := hid_of hb45
  have HW5 := hid_of hW5
  have HST := hid_of (hsr.later (Nat.le_refl _) hb45)
  have h24 : w2.heap.size ≤ w4.heap.size := hb4.size
  have h45 : w4.heap.size < W5.heap.size := by rw [hW5]; simp
  clear hsv hpv hsr hb4 hb45 hb25 hW5 hbk5 hrb hS HL1
  go_wp2_with fail
  rw [← HW5.out]
  clear r0 r1 r2 r3 q0 q1 q2
  refine wp_region_held_drew (S := fun W => W.cell? ⟨w4.heap.size, 0, none⟩ = some (.slice sa nf sc) ∧ W.cell? ⟨w4.heap.size, 1, none⟩ = some (.slice pa sn pc) ∧ W.cell? ⟨w4.heap.size, 2, none⟩ = some (.int .i64 0) ∧ W.cell? ⟨w4.heap.size, 3, none⟩ = some (.int .i64 0) ∧ W.cell? ⟨w.heap.size, 0, none⟩ = some (.slice a s.D.length cap) ∧ W.cell? ⟨w.heap.size, 1, none⟩ = some (.int .i64 s.sl) ∧ W.cell? ⟨w.heap.size, 2, none⟩ = some (.int .i64 s.ex) ∧ Below W5.heap.size W5 W) (by kernel_rfl) (HS.out _ hcur.drew) (fun hHeld => ?_)
  first | (refine take_yes' (i := 0) (d := (some 46)) (v := ?tv1) (a' := ?ta1) rfl (by kernel_rfl) (by kernel_rfl) (by kernel_rfl) (by rfl) (fun _ _ _ h => h) ?thy1 (by assumption) rfl ?tha1 ?_; (case thy1 => (intro w hSw; (try dsimp only at hSw); simp only [List.getElem?_toArray, List.getElem?_cons_succ, List.getElem?_cons_zero, Option.map_some, Option.some.injEq]; go_simp; (try with_reducible rfl))); (case tha1 => (simp only [Act.put, List.setIfInBounds_toArray, List.set_cons_zero, List.set_cons_succ]; try rfl))) | (refine take_no' (i := 0) (d := (some 46)) (a' := ?ta1) rfl (by kernel_rfl) (by kernel_rfl) (by kernel_rfl) (by rfl) (fun _ _ _ h => h) (by assumption) rfl ?tha1 ?_; (case tha1 => (simp only [Act.put, List.setIfInBounds_toArray, List.set_cons_zero, List.set_cons_succ]; try rfl)))
  first | (refine take_yes' (i := 1) (d := (some 47)) (v := ?tv2) (a' := ?ta2) rfl (by kernel_rfl) (by kernel_rfl) (by kernel_rfl) (by rfl) (fun _ _ _ h => h) ?thy2 (by assumption) rfl ?tha2 ?_; (case thy2 => (intro w hSw; (try dsimp only at hSw); simp only [List.getElem?_toArray, List.getElem?_cons_succ, List.getElem?_cons_zero, Option.map_some, Option.some.injEq]; go_simp; (try with_reducible rfl))); (case tha2 => (simp only [Act.put, List.setIfInBounds_toArray, List.set_cons_zero, List.set_cons_succ]; try rfl))) | (refine take_no' (i := 1) (d := (some 47)) (a' := ?ta2) rfl (by kernel_rfl) (by kernel_rfl) (by kernel_rfl) (by rfl) (fun _ _ _ h => h) (by assumption) rfl ?tha2 ?_; (case tha2 => (simp only [Act.put, List.setIfInBounds_toArray, List.set_cons_zero, List.set_cons_succ]; try rfl)))
  first | (refine take_yes' (i := 2) (d := (some 48)) (v := ?tv3) (a' := ?ta3) rfl (by kernel_rfl) (by kernel_rfl) (by kernel_rfl) (by rfl) (fun _ _ _ h => h) ?thy3 (by assumption) rfl ?tha3 ?_; (case thy3 => (intro w hSw; (try dsimp only at hSw); simp only [List.getElem?_toArray, List.getElem?_cons_succ, List.getElem?_cons_zero, Option.map_some, Option.some.injEq]; go_simp; (try with_reducible rfl))); (case tha3 => (simp only [Act.put, List.setIfInBounds_toArray, List.set_cons_zero, List.set_cons_succ]; try rfl))) | (refine take_no' (i := 2) (d := (some 48)) (a' := ?ta3) rfl (by kernel_rfl) (by kernel_rfl) (by kernel_rfl) (by rfl) (fun _ _ _ h => h) (by assumption) rfl ?tha3 ?_; (case tha3 => (simp only [Act.put, List.setIfInBounds_toArray, List.set_cons_zero, List.set_cons_succ]; try rfl)))
  first | (refine take_yes' (i := 3) (d := (some 49)) (v := ?tv4) (a' := ?ta4) rfl (by kernel_rfl) (by kernel_rfl) (by kernel_rfl) (by rfl) (fun _ _ _ h => h) ?thy4 (by assumption) rfl ?tha4 ?_; (case thy4 => (intro w hSw; (try dsimp only at hSw); simp only [List.getElem?_toArray, List.getElem?_cons_succ, List.getElem?_cons_zero, Option.map_some, Option.some.injEq]; go_simp; (try with_reducible rfl))); (case tha4 => (simp only [Act.put, List.setIfInBounds_toArray, List.set_cons_zero, List.set_cons_succ]; try rfl))) | (refine take_no' (i := 3) (d := (some 49)) (a' := ?ta4) rfl (by kernel_rfl) (by kernel_rfl) (by kernel_rfl) (by rfl) (fun _ _ _ h => h) (by assumption) rfl ?tha4 ?_; (case tha4 => (simp only [Act.put, List.setIfInBounds_toArray, List.set_cons_zero, List.set_cons_succ]; try rfl)))
  first | (refine take_yes' (i := 4) (d := (some 50)) (v := ?tv5) (a' := ?ta5) rfl (by kernel_rfl) (by kernel_rfl) (by kernel_rfl) (by rfl) (fun _ _ _ h => h) ?thy5 (by assumption) rfl ?tha5 ?_; (case thy5 => (intro w hSw; (try dsimp only at hSw); simp only [List.getElem?_toArray, List.getElem?_cons_succ, List.getElem?_cons_zero, Option.map_some, Option.some.injEq]; go_simp; (try with_reducible rfl))); (case tha5 => (simp only [Act.put, List.setIfInBounds_toArray, List.set_cons_zero, List.set_cons_succ]; try rfl))) | (refine take_no' (i := 4) (d := (some 50)) (a' := ?ta5) rfl (by kernel_rfl) (by kernel_rfl) (by kernel_rfl) (by rfl) (fun _ _ _ h => h) (by assumption) rfl ?tha5 ?_; (case tha5 => (simp only [Act.put, List.setIfInBounds_toArray, List.set_cons_zero, List.set_cons_succ]; try rfl)))
  first | (refine take_yes' (i := 5) (d := (some 51)) (v := ?tv6) (a' := ?ta6) rfl (by kernel_rfl) (by kernel_rfl) (by kernel_rfl) (by rfl) (fun _ _ _ h => h) ?thy6 (by assumption) rfl ?tha6 ?_; (case thy6 => (intro w hSw; (try dsimp only at hSw); simp only [List.getElem?_toArray, List.getElem?_cons_succ, List.getElem?_cons_zero, Option.map_some, Option.some.injEq]; go_simp; (try with_reducible rfl))); (case tha6 => (simp only [Act.put, List.setIfInBounds_toArray, List.set_cons_zero, List.set_cons_succ]; try rfl))) | (refine take_no' (i := 5) (d := (some 51)) (a' := ?ta6) rfl (by kernel_rfl) (by kernel_rfl) (by kernel_rfl) (by rfl) (fun _ _ _ h => h) (by assumption) rfl ?tha6 ?_; (case tha6 => (simp only [Act.put, List.setIfInBounds_toArray, List.set_cons_zero, List.set_cons_succ]; try rfl)))
  first | (refine take_yes' (i := 6) (d := (some 52)) (v := ?tv7) (a' := ?ta7) rfl (by kernel_rfl) (by kernel_rfl) (by kernel_rfl) (by rfl) (fun _ _ _ h => h) ?thy7 (by assumption) rfl ?tha7 ?_; (case thy7 => (intro w hSw; (try dsimp only at hSw); simp only [List.getElem?_toArray, List.getElem?_cons_succ, List.getElem?_cons_zero, Option.map_some, Option.some.injEq]; go_simp; (try with_reducible rfl))); (case tha7 => (simp only [Act.put, List.setIfInBounds_toArray, List.set_cons_zero, List.set_cons_succ]; try rfl))) | (refine take_no' (i := 6) (d := (some 52)) (a' := ?ta7) rfl (by kernel_rfl) (by kernel_rfl) (by kernel_rfl) (by rfl) (fun _ _ _ h => h) (by assumption) rfl ?tha7 ?_; (case tha7 => (simp only [Act.put, List.setIfInBounds_toArray, List.set_cons_zero, List.set_cons_succ]; try rfl)))
  first | (refine take_yes' (i := 7) (d := (some 53)) (v := ?tv8) (a' := ?ta8) rfl (by kernel_rfl) (by kernel_rfl) (by kernel_rfl) (by rfl) (fun _ _ _ h => h) ?thy8 (by assumption) rfl ?tha8 ?_; (case thy8 => (intro w hSw; (try dsimp only at hSw); simp only [List.getElem?_toArray, List.getElem?_cons_succ, List.getElem?_cons_zero, Option.map_some, Option.some.injEq]; go_simp; (try with_reducible rfl))); (case tha8 => (simp only [Act.put, List.setIfInBounds_toArray, List.set_cons_zero, List.set_cons_succ]; try rfl))) | (refine take_no' (i := 7) (d := (some 53)) (a' := ?ta8) rfl (by kernel_rfl) (by kernel_rfl) (by kernel_rfl) (by rfl) (fun _ _ _ h => h) (by assumption) rfl ?tha8 ?_; (case tha8 => (simp only [Act.put, List.setIfInBounds_toArray, List.set_cons_zero, List.set_cons_succ]; try rfl)))
  first | (refine take_yes' (i := 8) (d := (some 54)) (v := ?tv9) (a' := ?ta9) rfl (by kernel_rfl) (by kernel_rfl) (by kernel_rfl) (by rfl) (fun _ _ _ h => h) ?thy9 (by assumption) rfl ?tha9 ?_; (case thy9 => (intro w hSw; (try dsimp only at hSw); simp only [List.getElem?_toArray, List.getElem?_cons_succ, List.getElem?_cons_zero, Option.map_some, Option.some.injEq]; go_simp; (try with_reducible rfl))); (case tha9 => (simp only [Act.put, List.setIfInBounds_toArray, List.set_cons_zero, List.set_cons_succ]; try rfl))) | (refine take_no' (i := 8) (d := (some 54)) (a' := ?ta9) rfl (by kernel_rfl) (by kernel_rfl) (by kernel_rfl) (by rfl) (fun _ _ _ h => h) (by assumption) rfl ?tha9 ?_; (case tha9 => (simp only [Act.put, List.setIfInBounds_toArray, List.set_cons_zero, List.set_cons_succ]; try rfl)))
  first | (refine take_yes' (i := 9) (d := (some 55)) (v := ?tv10) (a' := ?ta10) rfl (by kernel_rfl) (by kernel_rfl) (by kernel_rfl) (by rfl) (fun _ _ _ h => h) ?thy10 (by assumption) rfl ?tha10 ?_; (case thy10 => (intro w hSw; (try dsimp only at hSw); simp only [List.getElem?_toArray, List.getElem?_cons_succ, List.getElem?_cons_zero, Option.map_some, Option.some.injEq]; go_simp; (try with_reducible rfl))); (case tha10 => (simp only [Act.put, List.setIfInBounds_toArray, List.set_cons_zero, List.set_cons_succ]; try rfl))) | (refine take_no' (i := 9) (d := (some 55)) (a' := ?ta10) rfl (by kernel_rfl) (by kernel_rfl) (by kernel_rfl) (by rfl) (fun _ _ _ h => h) (by assumption) rfl ?tha10 ?_; (case tha10 => (simp only [Act.put, List.setIfInBounds_toArray, List.set_cons_zero, List.set_cons_succ]; try rfl)))
  first | (refine take_yes' (i := 10) (d := (some 56)) (v := ?tv11) (a' := ?ta11) rfl (by kernel_rfl) (by kernel_rfl) (by kernel_rfl) (by rfl) (fun _ _ _ h => h) ?thy11 (by assumption) rfl ?tha11 ?_; (case thy11 => (intro w hSw; (try dsimp only at hSw); simp only [List.getElem?_toArray, List.getElem?_cons_succ, List.getElem?_cons_zero, Option.map_some, Option.some.injEq]; go_simp; (try with_reducible rfl))); (case tha11 => (simp only [Act.put, List.setIfInBounds_toArray, List.set_cons_zero, List.set_cons_succ]; try rfl))) | (refine take_no' (i := 10) (d := (some 56)) (a' := ?ta11) rfl (by kernel_rfl) (by kernel_rfl) (by kernel_rfl) (by rfl) (fun _ _ _ h => h) (by assumption) rfl ?tha11 ?_; (case tha11 => (simp only [Act.put, List.setIfInBounds_toArray, List.set_cons_zero, List.set_cons_succ]; try rfl)))
  first | (refine take_yes' (i := 11) (d := (some 57)) (v := ?tv12) (a' := ?ta12) rfl (by kernel_rfl) (by kernel_rfl) (by kernel_rfl) (by rfl) (fun _ _ _ h => h) ?thy12 (by assumption) rfl ?tha12 ?_; (case thy12 => (intro w hSw; (try dsimp only at hSw); simp only [List.getElem?_toArray, List.getElem?_cons_succ, List.getElem?_cons_zero, Option.map_some, Option.some.injEq]; go_simp; (try with_reducible rfl))); (case tha12 => (simp only [Act.put, List.setIfInBounds_toArray, List.set_cons_zero, List.set_cons_succ]; try rfl))) | (refine take_no' (i := 11) (d := (some 57)) (a' := ?ta12) rfl (by kernel_rfl) (by kernel_rfl) (by kernel_rfl) (by rfl) (fun _ _ _ h => h) (by assumption) rfl ?tha12 ?_; (case tha12 => (simp only [Act.put, List.setIfInBounds_toArray, List.set_cons_zero, List.set_cons_succ]; try rfl)))
  first | (refine take_yes' (i := 12) (d := (some 58)) (v := ?tv13) (a' := ?ta13) rfl (by kernel_rfl) (by kernel_rfl) (by kernel_rfl) (by rfl) (fun _ _ _ h => h) ?thy13 (by assumption) rfl ?tha13 ?_; (case thy13 => (intro w hSw; (try dsimp only at hSw); simp only [List.getElem?_toArray, List.getElem?_cons_succ, List.getElem?_cons_zero, Option.map_some, Option.some.injEq]; go_simp; (try with_reducible rfl))); (case tha13 => (simp only [Act.put, List.setIfInBounds_toArray, List.set_cons_zero, List.set_cons_succ]; try rfl))) | (refine take_no' (i := 12) (d := (some 58)) (a' := ?ta13) rfl (by kernel_rfl) (by kernel_rfl) (by kernel_rfl) (by rfl) (fun _ _ _ h => h) (by assumption) rfl ?tha13 ?_; (case tha13 => (simp only [Act.put, List.setIfInBounds_toArray, List.set_cons_zero, List.set_cons_succ]; try rfl)))
  first | (refine take_yes' (i := 13) (d := (some 59)) (v := ?tv14) (a' := ?ta14) rfl (by kernel_rfl) (by kernel_rfl) (by kernel_rfl) (by rfl) (fun _ _ _ h => h) ?thy14 (by assumption) rfl ?tha14 ?_; (case thy14 => (intro w hSw; (try dsimp only at hSw); simp only [List.getElem?_toArray, List.getElem?_cons_succ, List.getElem?_cons_zero, Option.map_some, Option.some.injEq]; go_simp; (try with_reducible rfl))); (case tha14 => (simp only [Act.put, List.setIfInBounds_toArray, List.set_cons_zero, List.set_cons_succ]; try rfl))) | (refine take_no' (i := 13) (d := (some 59)) (a' := ?ta14) rfl (by kernel_rfl) (by kernel_rfl) (by kernel_rfl) (by rfl) (fun _ _ _ h => h) (by assumption) rfl ?tha14 ?_; (case tha14 => (simp only [Act.put, List.setIfInBounds_toArray, List.set_cons_zero, List.set_cons_succ]; try rfl)))
  first | (refine take_yes' (i := 14) (d := (some 60)) (v := ?tv15) (a' := ?ta15) rfl (by kernel_rfl) (by kernel_rfl) (by kernel_rfl) (by rfl) (fun _ _ _ h => h) ?thy15 (by assumption) rfl ?tha15 ?_; (case thy15 => (intro w hSw; (try dsimp only at hSw); simp only [List.getElem?_toArray, List.getElem?_cons_succ, List.getElem?_cons_zero, Option.map_some, Option.some.injEq]; go_simp; (try with_reducible rfl))); (case tha15 => (simp only [Act.put, List.setIfInBounds_toArray, List.set_cons_zero, List.set_cons_succ]; try rfl))) | (refine take_no' (i := 14) (d := (some 60)) (a' := ?ta15) rfl (by kernel_rfl) (by kernel_rfl) (by kernel_rfl) (by rfl) (fun _ _ _ h => h) (by assumption) rfl ?tha15 ?_; (case tha15 => (simp only [Act.put, List.setIfInBounds_toArray, List.set_cons_zero, List.set_cons_succ]; try rfl)))
  first | (refine take_yes' (i := 15) (d := (some 61)) (v := ?tv16) (a' := ?ta16) rfl (by kernel_rfl) (by kernel_rfl) (by kernel_rfl) (by rfl) (fun _ _ _ h => h) ?thy16 (by assumption) rfl ?tha16 ?_; (case thy16 => (intro w hSw; (try dsimp only at hSw); simp only [List.getElem?_toArray, List.getElem?_cons_succ, List.getElem?_cons_zero, Option.map_some, Option.some.injEq]; go_simp; (try with_reducible rfl))); (case tha16 => (simp only [Act.put, List.setIfInBounds_toArray, List.set_cons_zero, List.set_cons_succ]; try rfl))) | (refine take_no' (i := 15) (d := (some 61)) (a' := ?ta16) rfl (by kernel_rfl) (by kernel_rfl) (by kernel_rfl) (by rfl) (fun _ _ _ h => h) (by assumption) rfl ?tha16 ?_; (case tha16 => (simp only [Act.put, List.setIfInBounds_toArray, List.set_cons_zero, List.set_cons_succ]; try rfl)))
  first | (refine take_yes' (i := 16) (d := (some 62)) (v := ?tv17) (a' := ?ta17) rfl (by kernel_rfl) (by kernel_rfl) (by kernel_rfl) (by rfl) (fun _ _ _ h => h) ?thy17 (by assumption) rfl ?tha17 ?_; (case thy17 => (intro w hSw; (try dsimp only at hSw); simp only [List.getElem?_toArray, List.getElem?_cons_succ, List.getElem?_cons_zero, Option.map_some, Option.some.injEq]; go_simp; (try with_reducible rfl))); (case tha17 => (simp only [Act.put, List.setIfInBounds_toArray, List.set_cons_zero, List.set_cons_succ]; try rfl))) | (refine take_no' (i := 16) (d := (some 62)) (a' := ?ta17) rfl (by kernel_rfl) (by kernel_rfl) (by kernel_rfl) (by rfl) (fun _ _ _ h => h) (by assumption) rfl ?tha17 ?_; (case tha17 => (simp only [Act.put, List.setIfInBounds_toArray, List.set_cons_zero, List.set_cons_succ]; try rfl)))
  first | (refine take_yes' (i := 17) (d := (some 63)) (v := ?tv18) (a' := ?ta18) rfl (by kernel_rfl) (by kernel_rfl) (by kernel_rfl) (by rfl) (fun _ _ _ h => h) ?thy18 (by assumption) rfl ?tha18 ?_; (case thy18 => (intro w hSw; (try dsimp only at hSw); simp only [List.getElem?_toArray, List.getElem?_cons_succ, List.getElem?_cons_zero, Option.map_some, Option.some.injEq]; go_simp; (try with_reducible rfl))); (case tha18 => (simp only [Act.put, List.setIfInBounds_toArray, List.set_cons_zero, List.set_cons_succ]; try rfl))) | (refine take_no' (i := 17) (d := (some 63)) (a' := ?ta18) rfl (by kernel_rfl) (by kernel_rfl) (by kernel_rfl) (by rfl) (fun _ _ _ h => h) (by assumption) rfl ?tha18 ?_; (case tha18 => (simp only [Act.put, List.setIfInBounds_toArray, List.set_cons_zero, List.set_cons_succ]; try rfl)))
  first | (refine take_yes' (i := 18) (d := (some 64)) (v := ?tv19) (a' := ?ta19) rfl (by kernel_rfl) (by kernel_rfl) (by kernel_rfl) (by rfl) (fun _ _ _ h => h) ?thy19 (by assumption) rfl ?tha19 ?_; (case thy19 => (intro w hSw; (try dsimp only at hSw); simp only [List.getElem?_toArray, List.getElem?_cons_succ, List.getElem?_cons_zero, Option.map_some, Option.some.injEq]; go_simp; (try with_reducible rfl))); (case tha19 => (simp only [Act.put, List.setIfInBounds_toArray, List.set_cons_zero, List.set_cons_succ]; try rfl))) | (refine take_no' (i := 18) (d := (some 64)) (a' := ?ta19) rfl (by kernel_rfl) (by kernel_rfl) (by kernel_rfl) (by rfl) (fun _ _ _ h => h) (by assumption) rfl ?tha19 ?_; (case tha19 => (simp only [Act.put, List.setIfInBounds_toArray, List.set_cons_zero, List.set_cons_succ]; try rfl)))
  first | (refine take_yes' (i := 19) (d := (some 65)) (v := ?tv20) (a' := ?ta20) rfl (by kernel_rfl) (by kernel_rfl) (by kernel_rfl) (by rfl) (fun _ _ _ h => h) ?thy20 (by assumption) rfl ?tha20 ?_; (case thy20 => (intro w hSw; (try dsimp only at hSw); simp only [List.getElem?_toArray, List.getElem?_cons_succ, List.getElem?_cons_zero, Option.map_some, Option.some.injEq]; go_simp; (try with_reducible rfl))); (case tha20 => (simp only [Act.put, List.setIfInBounds_toArray, List.set_cons_zero, List.set_cons_succ]; try rfl))) | (refine take_no' (i := 19) (d := (some 65)) (a' := ?ta20) rfl (by kernel_rfl) (by kernel_rfl) (by kernel_rfl) (by rfl) (fun _ _ _ h => h) (by assumption) rfl ?tha20 ?_; (case tha20 => (simp only [Act.put, List.setIfInBounds_toArray, List.set_cons_zero, List.set_cons_succ]; try rfl)))
  first | (refine take_yes' (i := 20) (d := (some 66)) (v := ?tv21) (a' := ?ta21) rfl (by kernel_rfl) (by kernel_rfl) (by kernel_rfl) (by rfl) (fun _ _ _ h => h) ?thy21 (by assumption) rfl ?tha21 ?_; (case thy21 => (intro w hSw; (try dsimp only at hSw); simp only [List.getElem?_toArray, List.getElem?_cons_succ, List.getElem?_cons_zero, Option.map_some, Option.some.injEq]; go_simp; (try with_reducible rfl))); (case tha21 => (simp only [Act.put, List.setIfInBounds_toArray, List.set_cons_zero, List.set_cons_succ]; try rfl))) | (refine take_no' (i := 20) (d := (some 66)) (a' := ?ta21) rfl (by kernel_rfl) (by kernel_rfl) (by kernel_rfl) (by rfl) (fun _ _ _ h => h) (by assumption) rfl ?tha21 ?_; (case tha21 => (simp only [Act.put, List.setIfInBounds_toArray, List.set_cons_zero, List.set_cons_succ]; try rfl)))
  first | (refine take_yes' (i := 21) (d := (some 67)) (v := ?tv22) (a' := ?ta22) rfl (by kernel_rfl) (by kernel_rfl) (by kernel_rfl) (by rfl) (fun _ _ _ h => h) ?thy22 (by assumption) rfl ?tha22 ?_; (case thy22 => (intro w hSw; (try dsimp only at hSw); simp only [List.getElem?_toArray, List.getElem?_cons_succ, List.getElem?_cons_zero, Option.map_some, Option.some.injEq]; go_simp; (try with_reducible rfl))); (case tha22 => (simp only [Act.put, List.setIfInBounds_toArray, List.set_cons_zero, List.set_cons_succ]; try rfl))) | (refine take_no' (i := 21) (d := (some 67)) (a' := ?ta22) rfl (by kernel_rfl) (by kernel_rfl) (by kernel_rfl) (by rfl) (fun _ _ _ h => h) (by assumption) rfl ?tha22 ?_; (case tha22 => (simp only [Act.put, List.setIfInBounds_toArray, List.set_cons_zero, List.set_cons_succ]; try rfl)))
  first | (refine take_yes' (i := 22) (d := (some 68)) (v := ?tv23) (a' := ?ta23) rfl (by kernel_rfl) (by kernel_rfl) (by kernel_rfl) (by rfl) (fun _ _ _ h => h) ?thy23 (by assumption) rfl ?tha23 ?_; (case thy23 => (intro w hSw; (try dsimp only at hSw); simp only [List.getElem?_toArray, List.getElem?_cons_succ, List.getElem?_cons_zero, Option.map_some, Option.some.injEq]; go_simp; (try with_reducible rfl))); (case tha23 => (simp only [Act.put, List.setIfInBounds_toArray, List.set_cons_zero, List.set_cons_succ]; try rfl))) | (refine take_no' (i := 22) (d := (some 68)) (a' := ?ta23) rfl (by kernel_rfl) (by kernel_rfl) (by kernel_rfl) (by rfl) (fun _ _ _ h => h) (by assumption) rfl ?tha23 ?_; (case tha23 => (simp only [Act.put, List.setIfInBounds_toArray, List.set_cons_zero, List.set_cons_succ]; try rfl)))
  first | (refine take_yes' (i := 23) (d := (some 69)) (v := ?tv24) (a' := ?ta24) rfl (by kernel_rfl) (by kernel_rfl) (by kernel_rfl) (by rfl) (fun _ _ _ h => h) ?thy24 (by assumption) rfl ?tha24 ?_; (case thy24 => (intro w hSw; (try dsimp only at hSw); simp only [List.getElem?_toArray, List.getElem?_cons_succ, List.getElem?_cons_zero, Option.map_some, Option.some.injEq]; go_simp; (try with_reducible rfl))); (case tha24 => (simp only [Act.put, List.setIfInBounds_toArray, List.set_cons_zero, List.set_cons_succ]; try rfl))) | (refine take_no' (i := 23) (d := (some 69)) (a' := ?ta24) rfl (by kernel_rfl) (by kernel_rfl) (by kernel_rfl) (by rfl) (fun _ _ _ h => h) (by assumption) rfl ?tha24 ?_; (case tha24 => (simp only [Act.put, List.setIfInBounds_toArray, List.set_cons_zero, List.set_cons_succ]; try rfl)))
  first | (refine take_yes' (i := 24) (d := (some 70)) (v := ?tv25) (a' := ?ta25) rfl (by kernel_rfl) (by kernel_rfl) (by kernel_rfl) (by rfl) (fun _ _ _ h => h) ?thy25 (by assumption) rfl ?tha25 ?_; (case thy25 => (intro w hSw; (try dsimp only at hSw); simp only [List.getElem?_toArray, List.getElem?_cons_succ, List.getElem?_cons_zero, Option.map_some, Option.some.injEq]; go_simp; (try with_reducible rfl))); (case tha25 => (simp only [Act.put, List.setIfInBounds_toArray, List.set_cons_zero, List.set_cons_succ]; try rfl))) | (refine take_no' (i := 24) (d := (some 70)) (a' := ?ta25) rfl (by kernel_rfl) (by kernel_rfl) (by kernel_rfl) (by rfl) (fun _ _ _ h => h) (by assumption) rfl ?tha25 ?_; (case tha25 => (simp only [Act.put, List.setIfInBounds_toArray, List.set_cons_zero, List.set_cons_succ]; try rfl)))
  first | (refine take_yes' (i := 25) (d := (some 71)) (v := ?tv26) (a' := ?ta26) rfl (by kernel_rfl) (by kernel_rfl) (by kernel_rfl) (by rfl) (fun _ _ _ h => h) ?thy26 (by assumption) rfl ?tha26 ?_; (case thy26 => (intro w hSw; (try dsimp only at hSw); simp only [List.getElem?_toArray, List.getElem?_cons_succ, List.getElem?_cons_zero, Option.map_some, Option.some.injEq]; go_simp; (try with_reducible rfl))); (case tha26 => (simp only [Act.put, List.setIfInBounds_toArray, List.set_cons_zero, List.set_cons_succ]; try rfl))) | (refine take_no' (i := 25) (d := (some 71)) (a' := ?ta26) rfl (by kernel_rfl) (by kernel_rfl) (by kernel_rfl) (by rfl) (fun _ _ _ h => h) (by assumption) rfl ?tha26 ?_; (case tha26 => (simp only [Act.put, List.setIfInBounds_toArray, List.set_cons_zero, List.set_cons_succ]; try rfl)))
  refine step_one (i := 26) (by kernel_rfl) (fun K o ho hK => ?_)
  simp only [List.getElem?_toArray, List.getElem?_cons_succ, List.getElem?_cons_zero, Option.some.injEq] at ho
  subst ho
  go_simp
  refine (HKS.out _ (Below.next HB25.out hcur.drew)).mono ?_
  rintro e w6 ⟨rfl, hb6⟩
  have hcb : Below W5.heap.size W5 w6 := Below.next hcur.drew hb6
  refine hK.out _ _ ?_ (fun hHeld => ?_)
  focus exact HS.out _ hcb
  clear hK K
  try simp only [Act.put, List.setIfInBounds_toArray, List.set_cons_zero, List.set_cons_succ]
  refine step_one (i := 27) (by kernel_rfl) (fun K o ho hK => ?_)
  simp only [List.getElem?_toArray, List.getElem?_cons_succ, List.getElem?_cons_zero, Option.some.injEq] at ho
  subst ho
  go_simp
  refine (HKC.out _ (Below.next HB25.out hcb)).mono ?_
  rintro e w7 ⟨vc, rfl, hownc, hb6⟩
  obtain ⟨ac, cc, rfl, -⟩ := row_rd hownc
  clear hownc
  refine hK.out _ _ ?_ (fun hHeld => ?_)
  focus exact HS.out _ (Below.next hcb hb6)
  clear hK K
  try simp only [Act.put, List.setIfInBounds_toArray, List.set_cons_zero, List.set_cons_succ]
  first | (refine take_yes' (i := 28) (d := (some 74)) (v := ?tv27) (a' := ?ta27) rfl (by kernel_rfl) (by kernel_rfl) (by kernel_rfl) (by rfl) (fun _ _ _ h => h) ?thy27 (by assumption) rfl ?tha27 ?_; (case thy27 => (intro w hSw; (try dsimp only at hSw); simp only [List.getElem?_toArray, List.getElem?_cons_succ, List.getElem?_cons_zero, Option.map_some, Option.some.injEq]; go_simp; (try with_reducible rfl))); (case tha27 => (simp only [Act.put, List.setIfInBounds_toArray, List.set_cons_zero, List.set_cons_succ]; try rfl))) | (refine take_no' (i := 28) (d := (some 74)) (a' := ?ta27) rfl (by kernel_rfl) (by kernel_rfl) (by kernel_rfl) (by rfl) (fun _ _ _ h => h) (by assumption) rfl ?tha27 ?_; (case tha27 => (simp only [Act.put, List.setIfInBounds_toArray, List.set_cons_zero, List.set_cons_succ]; try rfl)))
  first | (refine take_yes' (i := 29) (d := (some 75)) (v := ?tv28) (a' := ?ta28) rfl (by kernel_rfl) (by kernel_rfl) (by kernel_rfl) (by rfl) (fun _ _ _ h => h) ?thy28 (by assumption) rfl ?tha28 ?_; (case thy28 => (intro w hSw; (try dsimp only at hSw); simp only [List.getElem?_toArray, List.getElem?_cons_succ, List.getElem?_cons_zero, Option.map_some, Option.some.injEq]; go_simp; (try with_reducible rfl))); (case tha28 => (simp only [Act.put, List.setIfInBounds_toArray, List.set_cons_zero, List.set_cons_succ]; try rfl))) | (refine take_no' (i := 29) (d := (some 75)) (a' := ?ta28) rfl (by kernel_rfl) (by kernel_rfl) (by kernel_rfl) (by rfl) (fun _ _ _ h => h) (by assumption) rfl ?tha28 ?_; (case tha28 => (simp only [Act.put, List.setIfInBounds_toArray, List.set_cons_zero, List.set_cons_succ]; try rfl)))
  first | (refine take_yes' (i := 30) (d := (some 76)) (v := ?tv29) (a' := ?ta29) rfl (by kernel_rfl) (by kernel_rfl) (by kernel_rfl) (by rfl) (fun _ _ _ h => h) ?thy29 (by assumption) rfl ?tha29 ?_; (case thy29 => (intro w hSw; (try dsimp only at hSw); simp only [List.getElem?_toArray, List.getElem?_cons_succ, List.getElem?_cons_zero, Option.map_some, Option.some.injEq]; go_simp; (try with_reducible rfl))); (case tha29 => (simp only [Act.put, List.setIfInBounds_toArray, List.set_cons_zero, List.set_cons_succ]; try rfl))) | (refine take_no' (i := 30) (d := (some 76)) (a' := ?ta29) rfl (by kernel_rfl) (by kernel_rfl) (by kernel_rfl) (by rfl) (fun _ _ _ h => h) (by assumption) rfl ?tha29 ?_; (case tha29 => (simp only [Act.put, List.setIfInBounds_toArray, List.set_cons_zero, List.set_cons_succ]; try rfl)))
  refine wpAnyH_done (by kernel_rfl) ?_ _
  have hb57 : Below W5.heap.size W5 w7 := Below.next hcb hb6
  have HB57 := hid_of hb57
  clear hb57 hb6 hcb hcur
  go_wp2_with fail
  go_loopw [14] (fun i wr => ∃ k : Nat, k ≤ nf ∧ i = .int .i64 (k : Int) ∧ Below W5.heap.size W5 wr) (fun i _ => nf - (intOf i).toNat)
  case atStart => exact ⟨0, by omega, rfl, HB57.out⟩
  case round =>
    obtain ⟨k, hk, rfl, hbl⟩ := hrel
    obtain ⟨r0, r1, r2, r3, q0, q1, q2, -⟩ := HS.out wr hbl
    by_cases hlt : k < nf
    · obtain ⟨sb, so, rfl, hsc⟩ := (HST.out.later (Nat.le_refl _) hbl) k (.int .i64 1) (by simp [natsV, hlt])
      have HB := hid_of hbl
      clear hbl
      go_wp2_with fail
      exact ⟨⟨k + 1, by omega, by go_num, HB.out⟩, by simp [intOf]; omega⟩
    · have HB := hid_of hbl
      have hb2r := Below.next HB25.out hbl
      have h1 := HREP.out wr hb2r FS (some ⟨g1, 0, none⟩) c1 (packetsL sz FS 0) (some ⟨gp, 0, none⟩) cp (HRF.out.later (Nat.le_refl _) hb2r) (HFW.out.later (Nat.le_refl _) hb2r)
      rw [HFL.out, ← HNF.out] at h1
      have HB2R := hid_of hb2r
      have H1 := hid_of h1
      clear hbl hb2r h1 r0 r1 r2 r3
      go_wp2_with fail
      refine H1.out.mono ?_
      rintro e w8 hg8
      obtain ⟨hb8, ra, rc, rfl, hra⟩ := rep_out hg8
      obtain ⟨R, hR⟩ : ∃ x, x = repairL FS (packetsL sz FS 0) := ⟨_, rfl⟩
      rw [← hR] at hra ⊢
      obtain ⟨en, hen⟩ : ∃ x : Int, x = ((outN' R : Nat) : Int) := ⟨_, rfl⟩
      rw [← hen]
      have HEN := hid_of hen
      clear hen
      have hRl : (outA R).length ≤ 1000000 := by
        cases hR2 : R with
        | inr n => simp [outA]
        | inl fl =>
          have := dbl_len (extra := 0) (handed := FS) HZ3.out (by omega) (by omega) z2 (by omega) HGD.out ⟨by rw [← HNF.out]; omega, fun f hf => by have := HK1.out f hf; omega⟩ fl (by rw [← hR]; exact hR2)
          rw [← HNF.out] at this
          show fl.length ≤ _
          omega
      have hb28 := Below.next HB2R.out hb8
      have hq : ∀ W, Below w8.heap.size w8 W → W.cell? ⟨w.heap.size, 0, none⟩ = some (.slice a s.D.length cap) ∧ W.cell? ⟨w.heap.size, 1, none⟩ = some (.int .i64 s.sl) ∧ W.cell? ⟨w.heap.size, 2, none⟩ = some (.int .i64 s.ex) := fun W hW => (HA.out W (Below.next (Below.next HB2.out hb28) hW)).2.2
      have hcla := fun W (hW : Below w2.heap.size w2 W) sa sc (hs : Rd W sa (strV SL)) => kclash_walk FS sz SL (some ⟨g1, 0, none⟩) sa c1 sc (by omega) (by omega) (by rw [← HNF.out]; omega) (fun f hf => by have := (HK1.out f hf).2; omega) (by rw [← HSN.out]; omega) (fun t ht => by have := HSL2.out t ht; omega) W (HRF.out.later (Nat.le_refl _) hW) hs
      rw [← HNF.out, ← HSN.out] at hcla
      have HCL := hid_of hcla
      have HQ := hid_of hq
      have hcb : Below w8.heap.size w8 w8 := Below.refl _ _
      have hbW8 : Below W5.heap.size W5 w8 := Below.next HB.out hb8
      have HRA := hid_of hra
      have HR := hid_of hR
      have HB8 := hid_of hb28
      have HB58 := hid_of hbW8
      clear hg8 hb8 hra hR hcla H1 hb28 hbW8 q0 q1 q2 hq
      go_wp2_with fail
      go_region_held (fun W => W.cell? ⟨w.heap.size, 0, none⟩ = some (.slice a s.D.length cap) ∧ W.cell? ⟨w.heap.size, 1, none⟩ = some (.int .i64 s.sl) ∧ W.cell? ⟨w.heap.size, 2, none⟩ = some (.int .i64 s.ex))
        (first | assumption | exact HQ.out _ hcb | exact HQ.out _ hcb.drew)
        (first | (go_at_call 26; first | (refine (HKS.out _ (Below.next HB8.out hcb)).mono ?_; rintro e wn ⟨rfl, hbn⟩; replace hcb := Below.next hcb hbn; clear hbn) | (refine (HKS.out _ (Below.next HB8.out hcb.drew)).mono ?_; rintro e wn ⟨rfl, hbn⟩; replace hcb := Below.next hcb.drew hbn; clear hbn))
               | (go_at_call 25; refine (HKC.out _ (Below.next HB8.out hcb)).mono ?_; rintro e wc ⟨vc, rfl, hownc, hbn⟩; obtain ⟨ac, cc, rfl, hrc⟩ := row_rd hownc; replace hcb := Below.next hcb hbn; clear hownc hbn)
               | (go_at_call 27; refine (HCL.out _ (Below.next HB8.out hcb) _ _ hrc).mono ?_; rintro e wd ⟨⟨v, rfl, hno⟩, hbn⟩; replace hcb := Below.next hcb hbn; clear hbn hrc))
      have hs8 := ksame_walk (outA R) FS ra (some ⟨g1, 0, none⟩) rc c1 hRl (by rw [← HNF.out]; omega) wd (HRA.out.later (Nat.le_refl _) hcb) (HRF.out.later (Nat.le_refl _) (Below.next HB8.out hcb))
      rw [← HNF.out] at hs8
      obtain ⟨bk, hbk⟩ : ∃ x : Bool, x = (outA R == FS) := ⟨_, rfl⟩
      rw [← hbk] at hs8
      have HS8 := hid_of hs8
      have HBD := hid_of (Below.next HB58.out hcb)
      have hfin : v = false → en = 0 ∧ bk = true := fun h => by
        have e := HR.out.trans (repair_whole HZ3.out (by omega) (by omega) z2 HGD.out (by rw [← HSL.out]; exact hno h))
        rw [HEN.out, hbk, e]
        exact ⟨rfl, beq_self_eq_true FS⟩
      have HFI := hid_of hfin
      clear hs8 hcb hfin hno hbk HRA HB58 HQ HCL
      go_wp2_with fail
      refine HS8.out.mono ?_
      rintro e we ⟨rfl, hbe⟩
      have HBE := hid_of (Below.next HBD.out hbe)
      have hpick := fun W => kpick_walk which nf (by omega) (by omega) hgo.1 hgo.2 W
      obtain ⟨y, hy⟩ : ∃ y, y = pickN which nf := ⟨_, rfl⟩
      have hyl : y < nf := by rw [hy]; exact pickN_lt _ _ (by omega)
      rw [← hy] at hpick
      have HPK := hid_of hpick
      clear hbe HS8 HBD hpick hy
      obtain ⟨hf1, hf2⟩ := HK1.out (FS[y]'(by rw [← HNF.out]; exact hyl)) (List.getElem_mem _)
      obtain ⟨f1, f2, ff⟩ := fileCells HRF.out (Nat.le_refl _) (Below.next HB25.out HBE.out) y (by rw [← HNF.out]; exact hyl)
      obtain ⟨e0, hc1, hc2⟩ := ff
      cases e0
      rw [Nat.zero_add] at hc1 hc2
      obtain ⟨nm, hnm⟩ : ∃ x, x = (FS[y]'(by rw [← HNF.out]; exact hyl)).1 := ⟨_, rfl⟩
      obtain ⟨dt, hdt⟩ : ∃ x, x = (FS[y]'(by rw [← HNF.out]; exact hyl)).2 := ⟨_, rfl⟩
      rw [← hnm] at hc1 hf1
      rw [← hdt] at hc2 hf2
      have HNM := hid_of hnm
      have HDT := hid_of hdt
      clear hnm hdt
      obtain ⟨ins', hins⟩ : ∃ x, x = ins.take 30 := ⟨_, rfl⟩
      have hil' : ins'.length ≤ 30 := by rw [hins, List.length_take]; omega
      have hsi := str_size ins
      have hsi' := str_size ins'
      have hsd := str_size dt
      have hx30 : (str ins).extract 0 30 = str ins' := by rw [hins, str_extract]; rfl
      have HINS := hid_of hins
      clear hins
      obtain ⟨i0, hi, hzz0, hzz1, hzz2⟩ := info_parts Tryz.infoF
      have hbe2 := Below.next HB25.out HBE.out
      have HFE := hid_of (HRF.out.later (Nat.le_refl _) hbe2)
      have HT1 : Hid (Rd we (some ⟨g1, 0, none⟩) (filesV (FS.take y))) := hid_of (by rw [filesV_tk]; exact HFE.out.take _)
      have HBE2 := hid_of hbe2
      clear hbe2
      go_upto_region 17 with fail
      go_cut [13, 16, 17, 115] from 89 to 114 (fun _ _ _ t wx => we = wx ∧ t = Value.bool false)
      case first =>
        cases v
        case' false =>
          obtain ⟨he, hb⟩ := HFI.out rfl
          subst he hb
        all_goals
          go_wp2_with fail
          go_meet
          exact ⟨rfl, rfl⟩
      case rest =>
      obtain ⟨rfl, rfl⟩ := hcut
      clear HFI
      go_wp2_with fail
      refine (HPK.out _).mono ?_
      rintro e w' ⟨rfl, hw'⟩
      rw [hw']
      clear hw' w'
      go_upto_if 122 with fail
      go_cut [2] from 120 to 124 (fun x wx => we = wx ∧ x = Value.string (str ins'))
      case first =>
        by_cases h30 : 30 < ins.length
        case' neg =>
          have hie : ins' = ins := by rw [HINS.out, List.take_of_length_le (by omega)]
          subst hie
        all_goals
          go_wp2_with fail
          go_meet
          exact ⟨rfl, rfl⟩
      case rest =>
      obtain ⟨rfl, rfl⟩ := hcut
      clear hx30 hsi
      go_wp2_with (at_builtin; refine wpList_append_rd2 rfl (.tmp 125) (.tmp 128) 22 rfl we.heap.size 62 i0 (.agg #[.string ByteArray.empty, .string ByteArray.empty]) 32 Tryz.underlying22 hi hzz0 hzz1 hzz2 rfl _ _ _ rfl (World.ownsRow_nil _ _ _ _) (some ⟨g1, 0, none⟩) y c1 (filesV (FS.take y)) rfl (by rw [filesV_length, List.length_take, ← HNF.out]; omega) HT1.out (by intro h; cases h) (filesV_one _) (by unfold maxLen; omega) (by omega) (Nat.le_refl _) ?_)
      intro v7 w7 ho7 hg7
      have hb7 : Below we.heap.size we w7 := (Below.refl _ we).grown hg7 (Nat.le_refl _) (by intro k hk; cases hk)
      have hs7 := hb7.size
      have hl1 : (⟨g1, y * 2, none⟩ : Addr).block < we.heap.size := World.block_lt_of_cell? we _ hc1
      have hl2 : (⟨g1, y * 2 + 1, none⟩ : Addr).block < we.heap.size := hl1
      have hd1 : w7.cell? ⟨g1, y * 2, none⟩ = some (.string (str nm)) := (hb7.cell hl1).trans hc1
      have hd2 : w7.cell? ⟨g1, y * 2 + 1, none⟩ = some (.string (str dt)) := (hb7.cell hl2).trans hc2
      have HB7 := hid_of hb7
      have HO7 := hid_of ho7
      clear hb7 ho7 hg7 hc1 hc2
      obtain ⟨mid, hmid⟩ : ∃ x : List FileL, x = if ins' = dt then [] else [(nm, ins')] := ⟨_, rfl⟩
      have hml : mid.length ≤ 1 := by rw [hmid]; split <;> simp
      have hmp : ins' = dt → mid = [] := fun h => by rw [hmid, if_pos h]
      have hmn : ins' ≠ dt → mid = [(nm, ins')] := fun h => by rw [hmid, if_neg h]
      have HMP := hid_of hmp
      have HMN := hid_of hmn
      obtain ⟨mn, hmnn⟩ : ∃ x, x = mid.length := ⟨_, rfl⟩
      rw [← hmnn] at hml
      have HMD := hid_of hmnn
      clear hmid hmp hmn hmnn
      go_upto_if 136 with fail
      go_cut [19] from 130 to 146 (fun x wx => wx.ownsRow we.heap.size 62 2 x (y + mn) (filesV (FS.take y ++ mid)) ∧ Below we.heap.size we wx)
      case first =>
        by_cases hid : ins' = dt
        · have hm0 := HMP.out hid
          subst hm0
          obtain rfl : mn = 0 := HMD.out
          have q1 : (!(str ins').toList == (str dt).toList) = false := by rw [str_toList, str_toList, hid, beq_self_eq_true]; rfl
          rw [q1]
          clear hid q1
          go_wp2_with fail
          go_meet
          rw [List.append_nil]
          exact ⟨HO7.out, HB7.out⟩
        · have hm0 := HMN.out hid
          subst hm0
          obtain rfl : mn = 1 := HMD.out
          have q1 : (!(str ins').toList == (str dt).toList) = true := by rw [str_toList, str_toList, beq_eq_false_iff_ne.2 hid]; rfl
          rw [q1]
          clear hid q1
          go_wp2_with (at_builtin; refine wpList_append_own _ rfl (.tmp 137) (.tmp 145) 22 rfl we.heap.size 62 i0 (.agg #[.string ByteArray.empty, .string ByteArray.empty]) 2 32 Tryz.underlying22 hi hzz0 hzz1 hzz2 rfl (by decide) _ _ _ rfl (HO7.out.alloc _) _ 1 1 [.string (str nm), .string (str ins')] rfl rfl (two_at _ _ _ _ _ (by simp)) two_ones (by unfold maxLen; omega) (by omega) (by simp; omega) ?_)
          intro v8 w8' ho8 hg8 _
          have hb8 := below_step HB7.out hs7 HO7.out hg8
          have K1 := hid_of ho8
          have K2 := hid_of hb8
          clear ho8 hg8 hb8
          go_wp2_with fail
          go_meet
          refine ⟨?_, K2.out⟩
          rw [filesV_app]
          exact K1.out
      case rest =>
      obtain ⟨ho8, hb8⟩ := hcut
      have hs8 := hb8.size
      have HF8 := hid_of (HFE.out.later (Nat.le_refl _) hb8)
      have HO8 := hid_of ho8
      have HB8' := hid_of hb8
      clear ho8 hb8 hd1 hd2 HO7 HB7
      obtain ⟨CH, hCH⟩ : ∃ x, x = FS.take y ++ mid ++ FS.drop (y + 1) := ⟨_, rfl⟩
      have hchl : CH.length = y + mn + (nf - (y + 1)) := by rw [hCH, List.length_append, List.length_append, List.length_take, List.length_drop, ← HNF.out, ← HMD.out]; omega
      have hchf : HandF CH := ⟨by omega, fun f hf => by
        rw [hCH, List.mem_append, List.mem_append] at hf
        rcases hf with (h | h) | h
        · have := HK1.out f (List.mem_of_mem_take h)
          omega
        · by_cases hid : ins' = dt
          · rw [HMP.out hid] at h
            cases h
          · rw [HMN.out hid, List.mem_singleton] at h
            rw [h]
            exact ⟨by show nm.length ≤ 20; omega, by show ins'.length ≤ 400; omega⟩
        · have := HK1.out f (List.mem_of_mem_drop h)
          omega⟩
      obtain ⟨sty, hsty⟩ : ∃ x : Nat, x = if ins' = dt then 3 else if ins'.length = dt.length ∧ hashL ins' = hashL dt then 1 else 2 := ⟨_, rfl⟩
      have hyF : y < FS.length := by rw [← HNF.out]; exact hyl
      have HSTY : Hid (descState CH (descOf sz (FS[y]'(by rw [← HNF.out]; exact hyl))) = sty) := hid_of (by
        rw [hsty, hCH]
        by_cases hid : ins' = dt
        · rw [if_pos hid, HMP.out hid, List.append_nil]
          exact state_gone HGD.out hyF
        · rw [if_neg hid, HMN.out hid, List.append_assoc, HNM.out, HDT.out]
          exact state_other HGD.out hyF ins')
      have hcv : filesV CH = filesV (FS.take y ++ mid) ++ filesV (FS.drop (y + 1)) := by rw [hCH, filesV_app]
      obtain ⟨chn, hchn⟩ : ∃ x, x = CH.length := ⟨_, rfl⟩
      rw [← hchn] at hchl
      have HCV := hid_of hcv
      have HCF := hid_of hchf
      have HST3 := hid_of hsty
      have HCN := hid_of hchn
      clear hcv hchf hsty hCH hyF hchn
      go_upto_region 26 with fail
      go_cut [19] from 147 to 152 (fun x wx => wx.ownsRow we.heap.size 62 2 x chn (filesV CH) ∧ Below we.heap.size we wx)
      case first =>
        go_wp2_with (at_builtin; refine wpList_append_rd2 rfl (.tmp 147) (.tmp 151) 22 rfl we.heap.size 62 i0 (.agg #[.string ByteArray.empty, .string ByteArray.empty]) 32 Tryz.underlying22 hi hzz0 hzz1 hzz2 rfl _ _ _ rfl HO8.out _ (nf - (y + 1)) (c1 - (y + 1)) (filesV (FS.drop (y + 1))) rfl (by rw [filesV_length, List.length_drop, ← HNF.out]; omega) (rd_tail2 (A := y + 1) HF8.out HNF.out.symm hc1f _ (by first | exact .inl rfl | exact .inr (by omega) | (split <;> first | exact .inl rfl | exact .inr (by omega)))) (by intro h; first | cases h | (split at h <;> cases h)) (filesV_one _) (by unfold maxLen; omega) (by omega) hs8 ?_)
        all_goals
          intro v9 w9 ho9 hg9
          have hb9 : Below we.heap.size we w9 := HB8'.out.grown hg9 hs8 (fun g hg => (HO8.out.lt g hg).1)
          have K1 := hid_of ho9
          have K2 := hid_of hb9
          clear ho9 hg9 hb9
          go_wp2_with fail
          first | (have hcq : c1 = y + 1 := by assumption
                   rw [← hcq]) | skip
          go_meet
          refine ⟨?_, K2.out⟩
          rw [HCV.out, hchl]
          exact K1.out
      case rest =>
      obtain ⟨ho9, hb9⟩ := hcut
      obtain ⟨w9, rfl⟩ : ∃ x, x = wc := ⟨_, rfl⟩
      obtain ⟨a9, c9, rfl, hr9⟩ := row_rd ho9
      have hb59 := Below.next HBE.out hb9
      have hb29 := Below.next HB25.out hb59
      have hchn := HCN.out
      clear ho9 hb9 HO8 HB8' hchl hml HF8 hs8 HT1 HFE HMP HMN HMD HCV
      obtain ⟨ST, FLG, LO, hlm, hSTl, hSTy⟩ := look_changed (size := sz) (fs := FS) (extra := ex) (CH := CH) HZ3.out (by omega) (by omega) z2 hex HGD.out HCF.out
      have hl9 := HLOK.out w9 hb29 CH a9 c9 P (some ⟨gp, 0, none⟩) cp hr9 (HRP.out.later (Nat.le_refl _) hb29)
      rw [← hchn, hPl, HP.out, hlm] at hl9
      rw [← HNF.out] at hSTl
      have hsy := hSTy y (by rw [← HNF.out]; exact hyl)
      rw [HSTY.out] at hsy
      have HL9 := hid_of hl9
      have HB59 := hid_of hb59
      have h59 := hb59.size
      have HSY := hid_of hsy
      clear hchn hr9 hb59 hb29 hlm hSTy hl9 hsy
      go_wp2_with fail
      refine HL9.out.mono ?_
      rintro e w10 ⟨hb10, v, rfl, sv, pv, rfl, hsv, hpv⟩
      obtain ⟨sa2, sc2, rfl, -⟩ := row_rd hsv
      obtain ⟨pa2, pc2, rfl, -⟩ := row_rd hpv
      have hb510 := Below.next HB59.out hb10
      have hk10 := HRB.out.touch (Touch.of_below hb510 []) (by simp)
      have y0 := (hk10 0 _ rfl).1
      have y1 := (hk10 1 _ rfl).1
      have y2 := (hk10 2 _ rfl).1
      have y3 := (hk10 3 _ rfl).1
      have fz0 := (hk10 0 _ rfl).2
      have fz1 := (hk10 1 _ rfl).2
      have fz2 := (hk10 2 _ rfl).2
      have fz3 := (hk10 3 _ rfl).2
      dsimp only
      rw [hSTl]
      dsimp only at hsv
      rw [hSTl] at hsv
      obtain ⟨fn, hfn⟩ : ∃ x, x = FLG.length := ⟨_, rfl⟩
      rw [← hfn]
      obtain ⟨W12, hW12⟩ : ∃ x, x = ((((w10.setCell ⟨w4.heap.size, 0, none⟩ (.slice sa2 nf sc2)).setCell ⟨w4.heap.size, 1, none⟩ (.slice pa2 fn pc2)).setCell ⟨w4.heap.size, 2, none⟩ (.int .i64 (LO : Int))).setCell ⟨w4.heap.size, 3, none⟩ (.int .i64 (ex : Int))) := ⟨_, rfl⟩
      have hk12 := (((hk10.set 0 (.slice sa2 nf sc2)).set 1 (.slice pa2 fn pc2)).set 2 (.int .i64 (LO : Int))).set 3 (.int .i64 (ex : Int))
      have ht12 : Touch [w4.heap.size] w10 W12 := by
        rw [hW12]
        exact (((((Touch.of_below (Below.refl _ w10) [w4.heap.size]).setCell (x := ⟨w4.heap.size, 0, none⟩) (.inl (by simp)) _).setCell (x := ⟨w4.heap.size, 1, none⟩) (.inl (by simp)) _).setCell (x := ⟨w4.heap.size, 2, none⟩) (.inl (by simp)) _).setCell (x := ⟨w4.heap.size, 3, none⟩) (.inl (by simp)) _)
      rw [← hW12] at hk12
      have hb212 : Below w2.heap.size w2 W12 := (Below.next HB25.out hb510).trans (ht12.below (Below.next HB25.out hb510).size (fun x hx => by simp only [List.mem_singleton] at hx; omega))
      have hst12 := owns_touch hsv ht12 (fun x hx => by simp only [List.mem_singleton] at hx; omega)
      obtain ⟨_, _, e0, hsr⟩ := row_rd hst12
      cases e0
      obtain ⟨tb, tq, ht0, hty⟩ := hsr y (.int .i64 (sty : Int)) (by unfold natsV; rw [List.getElem?_map, HSY.out]; rfl)
      subst ht0
      have hS : ∀ W, Below W12.heap.size W12 W → W.cell? ⟨w4.heap.size, 0, none⟩ = some (.slice (some ⟨tb, tq, none⟩) nf sc2) ∧ W.cell? ⟨w4.heap.size, 3, none⟩ = some (.int .i64 (ex : Int)) ∧ W.cell? ⟨w.heap.size, 0, none⟩ = some (.slice a s.D.length cap) ∧ W.cell? ⟨w.heap.size, 1, none⟩ = some (.int .i64 s.sl) ∧ W.cell? ⟨w.heap.size, 2, none⟩ = some (.int .i64 s.ex) := fun W hW => ⟨((hk12.touch (Touch.of_below hW []) (by simp)) 0 _ rfl).1, ((hk12.touch (Touch.of_below hW []) (by simp)) 3 _ rfl).1, (HA.out W (Below.next (Below.next HB2.out hb212) hW)).2.2⟩
      have hrest : ∀ W, Below W12.heap.size W12 W → W.cell? ⟨g1, y * 2, none⟩ = some (.string (str nm)) ∧ W.cell? ⟨g1, y * 2 + 1, none⟩ = some (.string (str dt)) ∧ W.cell? ⟨tb, tq + y, none⟩ = some (.int .i64 (sty : Int)) := fun W hW => by
        obtain ⟨_, _, e0, h1, h2⟩ := fileCells HRF.out (Nat.le_refl _) (Below.next hb212 hW) y (by rw [← HNF.out]; exact hyl)
        cases e0
        rw [Nat.zero_add] at h1 h2
        rw [← HNM.out] at h1
        rw [← HDT.out] at h2
        exact ⟨h1, h2, (hW.cell (World.block_lt_of_cell? W12 _ hty)).trans hty⟩
      have HS12 := hid_of hS
      have HRS := hid_of hrest
      have HB212 := hid_of hb212
      have HW12 := hid_of hW12
      have hcb : Below W12.heap.size W12 W12 := Below.refl _ _
      clear hb10 hsv hpv hb510 hk10 hk12 ht12 hb212 hst12 hsr hty hS hrest hfn hW12 HL9
      go_wp2_with fail
      rw [← HW12.out]
      clear y0 y1 y2 y3 fz0 fz1 fz2 fz3
      refine wp_region_held_drew (S := fun W => W.cell? ⟨w4.heap.size, 0, none⟩ = some (.slice (some ⟨tb, tq, none⟩) nf sc2) ∧ W.cell? ⟨w4.heap.size, 3, none⟩ = some (.int .i64 (ex : Int)) ∧ W.cell? ⟨w.heap.size, 0, none⟩ = some (.slice a s.D.length cap) ∧ W.cell? ⟨w.heap.size, 1, none⟩ = some (.int .i64 s.sl) ∧ W.cell? ⟨w.heap.size, 2, none⟩ = some (.int .i64 s.ex)) (by kernel_rfl) (HS12.out _ hcb.drew) (fun hHeld => ?_)
      first | (refine take_yes' (i := 0) (d := (some 159)) (v := ?tv30) (a' := ?ta30) rfl (by kernel_rfl) (by kernel_rfl) (by kernel_rfl) (by rfl) (fun _ _ _ h => h) ?thy30 (by assumption) rfl ?tha30 ?_; (case thy30 => (intro w hSw; (try dsimp only at hSw); simp only [List.getElem?_toArray, List.getElem?_cons_succ, List.getElem?_cons_zero, Option.map_some, Option.some.injEq]; go_simp; (try with_reducible rfl))); (case tha30 => (simp only [Act.put, List.setIfInBounds_toArray, List.set_cons_zero, List.set_cons_succ]; try rfl))) | (refine take_no' (i := 0) (d := (some 159)) (a' := ?ta30) rfl (by kernel_rfl) (by kernel_rfl) (by kernel_rfl) (by rfl) (fun _ _ _ h => h) (by assumption) rfl ?tha30 ?_; (case tha30 => (simp only [Act.put, List.setIfInBounds_toArray, List.set_cons_zero, List.set_cons_succ]; try rfl)))
      first | (refine take_yes' (i := 1) (d := (some 160)) (v := ?tv31) (a' := ?ta31) rfl (by kernel_rfl) (by kernel_rfl) (by kernel_rfl) (by rfl) (fun _ _ _ h => h) ?thy31 (by assumption) rfl ?tha31 ?_; (case thy31 => (intro w hSw; (try dsimp only at hSw); simp only [List.getElem?_toArray, List.getElem?_cons_succ, List.getElem?_cons_zero, Option.map_some, Option.some.injEq]; go_simp; (try with_reducible rfl))); (case tha31 => (simp only [Act.put, List.setIfInBounds_toArray, List.set_cons_zero, List.set_cons_succ]; try rfl))) | (refine take_no' (i := 1) (d := (some 160)) (a' := ?ta31) rfl (by kernel_rfl) (by kernel_rfl) (by kernel_rfl) (by rfl) (fun _ _ _ h => h) (by assumption) rfl ?tha31 ?_; (case tha31 => (simp only [Act.put, List.setIfInBounds_toArray, List.set_cons_zero, List.set_cons_succ]; try rfl)))
      first | (refine take_yes' (i := 2) (d := (some 161)) (v := ?tv32) (a' := ?ta32) rfl (by kernel_rfl) (by kernel_rfl) (by kernel_rfl) (by rfl) (fun _ _ _ h => h) ?thy32 (by assumption) rfl ?tha32 ?_; (case thy32 => (intro w hSw; (try dsimp only at hSw); simp only [List.getElem?_toArray, List.getElem?_cons_succ, List.getElem?_cons_zero, Option.map_some, Option.some.injEq]; go_simp; (try with_reducible rfl))); (case tha32 => (simp only [Act.put, List.setIfInBounds_toArray, List.set_cons_zero, List.set_cons_succ]; try rfl))) | (refine take_no' (i := 2) (d := (some 161)) (a' := ?ta32) rfl (by kernel_rfl) (by kernel_rfl) (by kernel_rfl) (by rfl) (fun _ _ _ h => h) (by assumption) rfl ?tha32 ?_; (case tha32 => (simp only [Act.put, List.setIfInBounds_toArray, List.set_cons_zero, List.set_cons_succ]; try rfl)))
      first | (refine take_yes' (i := 3) (d := (some 162)) (v := ?tv33) (a' := ?ta33) rfl (by kernel_rfl) (by kernel_rfl) (by kernel_rfl) (by rfl) (fun _ _ _ h => h) ?thy33 (by assumption) rfl ?tha33 ?_; (case thy33 => (intro w hSw; (try dsimp only at hSw); simp only [List.getElem?_toArray, List.getElem?_cons_succ, List.getElem?_cons_zero, Option.map_some, Option.some.injEq]; go_simp; (try with_reducible rfl))); (case tha33 => (simp only [Act.put, List.setIfInBounds_toArray, List.set_cons_zero, List.set_cons_succ]; try rfl))) | (refine take_no' (i := 3) (d := (some 162)) (a' := ?ta33) rfl (by kernel_rfl) (by kernel_rfl) (by kernel_rfl) (by rfl) (fun _ _ _ h => h) (by assumption) rfl ?tha33 ?_; (case tha33 => (simp only [Act.put, List.setIfInBounds_toArray, List.set_cons_zero, List.set_cons_succ]; try rfl)))
      first | (refine take_yes' (i := 4) (d := (some 163)) (v := ?tv34) (a' := ?ta34) rfl (by kernel_rfl) (by kernel_rfl) (by kernel_rfl) (by rfl) (fun _ _ _ h => h) ?thy34 (by assumption) rfl ?tha34 ?_; (case thy34 => (intro w hSw; (try dsimp only at hSw); simp only [List.getElem?_toArray, List.getElem?_cons_succ, List.getElem?_cons_zero, Option.map_some, Option.some.injEq]; go_simp; (try with_reducible rfl))); (case tha34 => (simp only [Act.put, List.setIfInBounds_toArray, List.set_cons_zero, List.set_cons_succ]; try rfl))) | (refine take_no' (i := 4) (d := (some 163)) (a' := ?ta34) rfl (by kernel_rfl) (by kernel_rfl) (by kernel_rfl) (by rfl) (fun _ _ _ h => h) (by assumption) rfl ?tha34 ?_; (case tha34 => (simp only [Act.put, List.setIfInBounds_toArray, List.set_cons_zero, List.set_cons_succ]; try rfl)))
      first | (refine take_yes' (i := 5) (d := (some 164)) (v := ?tv35) (a' := ?ta35) rfl (by kernel_rfl) (by kernel_rfl) (by kernel_rfl) (by rfl) (fun _ _ _ h => h) ?thy35 (by assumption) rfl ?tha35 ?_; (case thy35 => (intro w hSw; (try dsimp only at hSw); simp only [List.getElem?_toArray, List.getElem?_cons_succ, List.getElem?_cons_zero, Option.map_some, Option.some.injEq]; go_simp; (try with_reducible rfl))); (case tha35 => (simp only [Act.put, List.setIfInBounds_toArray, List.set_cons_zero, List.set_cons_succ]; try rfl))) | (refine take_no' (i := 5) (d := (some 164)) (a' := ?ta35) rfl (by kernel_rfl) (by kernel_rfl) (by kernel_rfl) (by rfl) (fun _ _ _ h => h) (by assumption) rfl ?tha35 ?_; (case tha35 => (simp only [Act.put, List.setIfInBounds_toArray, List.set_cons_zero, List.set_cons_succ]; try rfl)))
      first | (refine take_yes' (i := 6) (d := (some 165)) (v := ?tv36) (a' := ?ta36) rfl (by kernel_rfl) (by kernel_rfl) (by kernel_rfl) (by rfl) (fun _ _ _ h => h) ?thy36 (by assumption) rfl ?tha36 ?_; (case thy36 => (intro w hSw; (try dsimp only at hSw); simp only [List.getElem?_toArray, List.getElem?_cons_succ, List.getElem?_cons_zero, Option.map_some, Option.some.injEq]; go_simp; (try with_reducible rfl))); (case tha36 => (simp only [Act.put, List.setIfInBounds_toArray, List.set_cons_zero, List.set_cons_succ]; try rfl))) | (refine take_no' (i := 6) (d := (some 165)) (a' := ?ta36) rfl (by kernel_rfl) (by kernel_rfl) (by kernel_rfl) (by rfl) (fun _ _ _ h => h) (by assumption) rfl ?tha36 ?_; (case tha36 => (simp only [Act.put, List.setIfInBounds_toArray, List.set_cons_zero, List.set_cons_succ]; try rfl)))
      first | (refine take_yes' (i := 7) (d := (some 166)) (v := ?tv37) (a' := ?ta37) rfl (by kernel_rfl) (by kernel_rfl) (by kernel_rfl) (by rfl) (fun _ _ _ h => h) ?thy37 (by assumption) rfl ?tha37 ?_; (case thy37 => (intro w hSw; (try dsimp only at hSw); simp only [List.getElem?_toArray, List.getElem?_cons_succ, List.getElem?_cons_zero, Option.map_some, Option.some.injEq]; go_simp; (try with_reducible rfl))); (case tha37 => (simp only [Act.put, List.setIfInBounds_toArray, List.set_cons_zero, List.set_cons_succ]; try rfl))) | (refine take_no' (i := 7) (d := (some 166)) (a' := ?ta37) rfl (by kernel_rfl) (by kernel_rfl) (by kernel_rfl) (by rfl) (fun _ _ _ h => h) (by assumption) rfl ?tha37 ?_; (case tha37 => (simp only [Act.put, List.setIfInBounds_toArray, List.set_cons_zero, List.set_cons_succ]; try rfl)))
      first | (refine take_yes' (i := 8) (d := (some 167)) (v := ?tv38) (a' := ?ta38) rfl (by kernel_rfl) (by kernel_rfl) (by kernel_rfl) (by rfl) (fun _ _ _ h => h) ?thy38 (by assumption) rfl ?tha38 ?_; (case thy38 => (intro w hSw; (try dsimp only at hSw); simp only [List.getElem?_toArray, List.getElem?_cons_succ, List.getElem?_cons_zero, Option.map_some, Option.some.injEq]; go_simp; (try with_reducible rfl))); (case tha38 => (simp only [Act.put, List.setIfInBounds_toArray, List.set_cons_zero, List.set_cons_succ]; try rfl))) | (refine take_no' (i := 8) (d := (some 167)) (a' := ?ta38) rfl (by kernel_rfl) (by kernel_rfl) (by kernel_rfl) (by rfl) (fun _ _ _ h => h) (by assumption) rfl ?tha38 ?_; (case tha38 => (simp only [Act.put, List.setIfInBounds_toArray, List.set_cons_zero, List.set_cons_succ]; try rfl)))
      first | (refine take_yes' (i := 9) (d := (some 168)) (v := ?tv39) (a' := ?ta39) rfl (by kernel_rfl) (by kernel_rfl) (by kernel_rfl) (by rfl) (fun _ _ _ h => h) ?thy39 (by assumption) rfl ?tha39 ?_; (case thy39 => (intro w hSw; (try dsimp only at hSw); simp only [List.getElem?_toArray, List.getElem?_cons_succ, List.getElem?_cons_zero, Option.map_some, Option.some.injEq]; go_simp; (try with_reducible rfl))); (case tha39 => (simp only [Act.put, List.setIfInBounds_toArray, List.set_cons_zero, List.set_cons_succ]; try rfl))) | (refine take_no' (i := 9) (d := (some 168)) (a' := ?ta39) rfl (by kernel_rfl) (by kernel_rfl) (by kernel_rfl) (by rfl) (fun _ _ _ h => h) (by assumption) rfl ?tha39 ?_; (case tha39 => (simp only [Act.put, List.setIfInBounds_toArray, List.set_cons_zero, List.set_cons_succ]; try rfl)))
      first | (refine take_yes' (i := 10) (d := (some 169)) (v := ?tv40) (a' := ?ta40) rfl (by kernel_rfl) (by kernel_rfl) (by kernel_rfl) (by rfl) (fun _ _ _ h => h) ?thy40 (by assumption) rfl ?tha40 ?_; (case thy40 => (intro w hSw; (try dsimp only at hSw); simp only [List.getElem?_toArray, List.getElem?_cons_succ, List.getElem?_cons_zero, Option.map_some, Option.some.injEq]; go_simp; (try with_reducible rfl))); (case tha40 => (simp only [Act.put, List.setIfInBounds_toArray, List.set_cons_zero, List.set_cons_succ]; try rfl))) | (refine take_no' (i := 10) (d := (some 169)) (a' := ?ta40) rfl (by kernel_rfl) (by kernel_rfl) (by kernel_rfl) (by rfl) (fun _ _ _ h => h) (by assumption) rfl ?tha40 ?_; (case tha40 => (simp only [Act.put, List.setIfInBounds_toArray, List.set_cons_zero, List.set_cons_succ]; try rfl)))
      first | (refine take_yes' (i := 11) (d := (some 170)) (v := ?tv41) (a' := ?ta41) rfl (by kernel_rfl) (by kernel_rfl) (by kernel_rfl) (by rfl) (fun _ _ _ h => h) ?thy41 (by assumption) rfl ?tha41 ?_; (case thy41 => (intro w hSw; (try dsimp only at hSw); simp only [List.getElem?_toArray, List.getElem?_cons_succ, List.getElem?_cons_zero, Option.map_some, Option.some.injEq]; go_simp; (try with_reducible rfl))); (case tha41 => (simp only [Act.put, List.setIfInBounds_toArray, List.set_cons_zero, List.set_cons_succ]; try rfl))) | (refine take_no' (i := 11) (d := (some 170)) (a' := ?ta41) rfl (by kernel_rfl) (by kernel_rfl) (by kernel_rfl) (by rfl) (fun _ _ _ h => h) (by assumption) rfl ?tha41 ?_; (case tha41 => (simp only [Act.put, List.setIfInBounds_toArray, List.set_cons_zero, List.set_cons_succ]; try rfl)))
      first | (refine take_yes' (i := 12) (d := (some 171)) (v := ?tv42) (a' := ?ta42) rfl (by kernel_rfl) (by kernel_rfl) (by kernel_rfl) (by rfl) (fun _ _ _ h => h) ?thy42 (by assumption) rfl ?tha42 ?_; (case thy42 => (intro w hSw; (try dsimp only at hSw); simp only [List.getElem?_toArray, List.getElem?_cons_succ, List.getElem?_cons_zero, Option.map_some, Option.some.injEq]; go_simp; (try with_reducible rfl))); (case tha42 => (simp only [Act.put, List.setIfInBounds_toArray, List.set_cons_zero, List.set_cons_succ]; try rfl))) | (refine take_no' (i := 12) (d := (some 171)) (a' := ?ta42) rfl (by kernel_rfl) (by kernel_rfl) (by kernel_rfl) (by rfl) (fun _ _ _ h => h) (by assumption) rfl ?tha42 ?_; (case tha42 => (simp only [Act.put, List.setIfInBounds_toArray, List.set_cons_zero, List.set_cons_succ]; try rfl)))
      first | (refine take_yes' (i := 13) (d := (some 172)) (v := ?tv43) (a' := ?ta43) rfl (by kernel_rfl) (by kernel_rfl) (by kernel_rfl) (by rfl) (fun _ _ _ h => h) ?thy43 (by assumption) rfl ?tha43 ?_; (case thy43 => (intro w hSw; (try dsimp only at hSw); simp only [List.getElem?_toArray, List.getElem?_cons_succ, List.getElem?_cons_zero, Option.map_some, Option.some.injEq]; go_simp; (try with_reducible rfl))); (case tha43 => (simp only [Act.put, List.setIfInBounds_toArray, List.set_cons_zero, List.set_cons_succ]; try rfl))) | (refine take_no' (i := 13) (d := (some 172)) (a' := ?ta43) rfl (by kernel_rfl) (by kernel_rfl) (by kernel_rfl) (by rfl) (fun _ _ _ h => h) (by assumption) rfl ?tha43 ?_; (case tha43 => (simp only [Act.put, List.setIfInBounds_toArray, List.set_cons_zero, List.set_cons_succ]; try rfl)))
      refine step_one (i := 14) (by kernel_rfl) (fun K o ho hK => ?_)
      simp only [List.getElem?_toArray, List.getElem?_cons_succ, List.getElem?_cons_zero, Option.some.injEq] at ho
      subst ho
      go_simp
      refine (HKX.out _ (Below.next HB212.out hcb.drew)).mono ?_
      rintro e wn ⟨rfl, hbn⟩
      replace hcb := Below.next hcb.drew hbn
      clear hbn
      refine hK.out _ _ ?_ (fun hHeld => ?_)
      focus exact HS12.out _ hcb
      clear hK K
      try simp only [Act.put, List.setIfInBounds_toArray, List.set_cons_zero, List.set_cons_succ]
      first | (refine take_yes' (i := 15) (d := (some 174)) (v := ?tv44) (a' := ?ta44) rfl (by kernel_rfl) (by kernel_rfl) (by kernel_rfl) (by rfl) (fun _ _ _ h => h) ?thy44 (by assumption) rfl ?tha44 ?_; (case thy44 => (intro w hSw; (try dsimp only at hSw); simp only [List.getElem?_toArray, List.getElem?_cons_succ, List.getElem?_cons_zero, Option.map_some, Option.some.injEq]; go_simp; (try with_reducible rfl))); (case tha44 => (simp only [Act.put, List.setIfInBounds_toArray, List.set_cons_zero, List.set_cons_succ]; try rfl))) | (refine take_no' (i := 15) (d := (some 174)) (a' := ?ta44) rfl (by kernel_rfl) (by kernel_rfl) (by kernel_rfl) (by rfl) (fun _ _ _ h => h) (by assumption) rfl ?tha44 ?_; (case tha44 => (simp only [Act.put, List.setIfInBounds_toArray, List.set_cons_zero, List.set_cons_succ]; try rfl)))
      first | (refine take_yes' (i := 16) (d := (some 175)) (v := ?tv45) (a' := ?ta45) rfl (by kernel_rfl) (by kernel_rfl) (by kernel_rfl) (by rfl) (fun _ _ _ h => h) ?thy45 (by assumption) rfl ?tha45 ?_; (case thy45 => (intro w hSw; (try dsimp only at hSw); simp only [List.getElem?_toArray, List.getElem?_cons_succ, List.getElem?_cons_zero, Option.map_some, Option.some.injEq]; go_simp; (try with_reducible rfl))); (case tha45 => (simp only [Act.put, List.setIfInBounds_toArray, List.set_cons_zero, List.set_cons_succ]; try rfl))) | (refine take_no' (i := 16) (d := (some 175)) (a' := ?ta45) rfl (by kernel_rfl) (by kernel_rfl) (by kernel_rfl) (by rfl) (fun _ _ _ h => h) (by assumption) rfl ?tha45 ?_; (case tha45 => (simp only [Act.put, List.setIfInBounds_toArray, List.set_cons_zero, List.set_cons_succ]; try rfl)))
      refine wpAnyH_done (by kernel_rfl) ?_ _
      obtain ⟨r0, r3, -, -, -⟩ := HS12.out _ hcb
      obtain ⟨hd1, hd2, hty⟩ := HRS.out _ hcb
      have HFIN := hid_of (Below.next (Below.next HB0.out HB2.out) (Below.next HB212.out hcb))
      have HCB2 := hid_of hcb
      clear hcb
      have hkh1 := fun W => khash_l ins' (by omega) W
      have hkh2 := fun W => khash_l dt (by omega) W
      obtain ⟨n1, hn1⟩ : ∃ x, x = hashL ins' := ⟨hashL ins', rfl⟩
      obtain ⟨n2, hn2⟩ : ∃ x, x = hashL dt := ⟨hashL dt, rfl⟩
      rw [← hn1] at hkh1
      rw [← hn2] at hkh2
      have hst3 := HST3.out
      rw [← hn1, ← hn2] at hst3
      have HH1 := hid_of hkh1
      have HH2 := hid_of hkh2
      have HS3 := hid_of hst3
      clear hkh1 hkh2 hn1 hn2 hst3 HST3
      by_cases hid : ins' = dt
      · obtain rfl : sty = 3 := by rw [HS3.out, if_pos hid]
        subst hid
        clear HS3 HH1 HH2
        go_wp2_with fail
        first
          | (go_ret; exact ⟨rfl, HFIN.out⟩)
          | (go_quiet (fail); go_wp2_with fail; go_ret; exact ⟨rfl, rdrewN HFIN.out _⟩)
      · have q1 : ((str ins').toList == (str dt).toList) = false := by rw [str_toList, str_toList]; exact beq_eq_false_iff_ne.2 hid
        have hy9 : (y : Int) < (nf : Int) := by omega
        have hd9 : decide ((y : Int) < (nf : Int)) = true := decide_eq_true hy9
        by_cases hL : ins'.length = dt.length
        · by_cases hH : n1 = n2
          · obtain rfl : sty = 1 := by rw [HS3.out, if_neg hid, if_pos ⟨hL, hH⟩]
            subst hH
            clear HS3 hid
            go_wp2_with fail
            refine wp_region_held_drew (S := fun X => X.cell? ⟨g1, y * 2 + 1, none⟩ = some (.string (str dt))) (by kernel_rfl) (HRS.out _ HCB2.out.drew).2.1 (fun hHeld => ?_)
            first | (refine take_yes' (i := 0) (d := (some 183)) (v := ?tv46) (a' := ?ta46) rfl (by kernel_rfl) (by kernel_rfl) (by kernel_rfl) (by rfl) (fun _ _ _ h => h) ?thy46 (by assumption) rfl ?tha46 ?_; (case thy46 => (intro w hSw; (try dsimp only at hSw); simp only [List.getElem?_toArray, List.getElem?_cons_succ, List.getElem?_cons_zero, Option.map_some, Option.some.injEq]; go_simp; (try with_reducible rfl))); (case tha46 => (simp only [Act.put, List.setIfInBounds_toArray, List.set_cons_zero, List.set_cons_succ]; try rfl))) | (refine take_no' (i := 0) (d := (some 183)) (a' := ?ta46) rfl (by kernel_rfl) (by kernel_rfl) (by kernel_rfl) (by rfl) (fun _ _ _ h => h) (by assumption) rfl ?tha46 ?_; (case tha46 => (simp only [Act.put, List.setIfInBounds_toArray, List.set_cons_zero, List.set_cons_succ]; try rfl)))
            first | (refine take_yes' (i := 1) (d := (some 184)) (v := ?tv47) (a' := ?ta47) rfl (by kernel_rfl) (by kernel_rfl) (by kernel_rfl) (by rfl) (fun _ _ _ h => h) ?thy47 (by assumption) rfl ?tha47 ?_; (case thy47 => (intro w hSw; (try dsimp only at hSw); simp only [List.getElem?_toArray, List.getElem?_cons_succ, List.getElem?_cons_zero, Option.map_some, Option.some.injEq]; go_simp; (try with_reducible rfl))); (case tha47 => (simp only [Act.put, List.setIfInBounds_toArray, List.set_cons_zero, List.set_cons_succ]; try rfl))) | (refine take_no' (i := 1) (d := (some 184)) (a' := ?ta47) rfl (by kernel_rfl) (by kernel_rfl) (by kernel_rfl) (by rfl) (fun _ _ _ h => h) (by assumption) rfl ?tha47 ?_; (case tha47 => (simp only [Act.put, List.setIfInBounds_toArray, List.set_cons_zero, List.set_cons_succ]; try rfl)))
            first | (refine take_yes' (i := 2) (d := (some 185)) (v := ?tv48) (a' := ?ta48) rfl (by kernel_rfl) (by kernel_rfl) (by kernel_rfl) (by rfl) (fun _ _ _ h => h) ?thy48 (by assumption) rfl ?tha48 ?_; (case thy48 => (intro w hSw; (try dsimp only at hSw); simp only [List.getElem?_toArray, List.getElem?_cons_succ, List.getElem?_cons_zero, Option.map_some, Option.some.injEq]; go_simp; (try with_reducible rfl))); (case tha48 => (simp only [Act.put, List.setIfInBounds_toArray, List.set_cons_zero, List.set_cons_succ]; try rfl))) | (refine take_no' (i := 2) (d := (some 185)) (a' := ?ta48) rfl (by kernel_rfl) (by kernel_rfl) (by kernel_rfl) (by rfl) (fun _ _ _ h => h) (by assumption) rfl ?tha48 ?_; (case tha48 => (simp only [Act.put, List.setIfInBounds_toArray, List.set_cons_zero, List.set_cons_succ]; try rfl)))
            first | (refine take_yes' (i := 3) (d := (some 186)) (v := ?tv49) (a' := ?ta49) rfl (by kernel_rfl) (by kernel_rfl) (by kernel_rfl) (by rfl) (fun _ _ _ h => h) ?thy49 (by assumption) rfl ?tha49 ?_; (case thy49 => (intro w hSw; (try dsimp only at hSw); simp only [List.getElem?_toArray, List.getElem?_cons_succ, List.getElem?_cons_zero, Option.map_some, Option.some.injEq]; go_simp; (try with_reducible rfl))); (case tha49 => (simp only [Act.put, List.setIfInBounds_toArray, List.set_cons_zero, List.set_cons_succ]; try rfl))) | (refine take_no' (i := 3) (d := (some 186)) (a' := ?ta49) rfl (by kernel_rfl) (by kernel_rfl) (by kernel_rfl) (by rfl) (fun _ _ _ h => h) (by assumption) rfl ?tha49 ?_; (case tha49 => (simp only [Act.put, List.setIfInBounds_toArray, List.set_cons_zero, List.set_cons_succ]; try rfl)))
            first | (refine take_yes' (i := 4) (d := (some 187)) (v := ?tv50) (a' := ?ta50) rfl (by kernel_rfl) (by kernel_rfl) (by kernel_rfl) (by rfl) (fun _ _ _ h => h) ?thy50 (by assumption) rfl ?tha50 ?_; (case thy50 => (intro w hSw; (try dsimp only at hSw); simp only [List.getElem?_toArray, List.getElem?_cons_succ, List.getElem?_cons_zero, Option.map_some, Option.some.injEq]; go_simp; (try with_reducible rfl))); (case tha50 => (simp only [Act.put, List.setIfInBounds_toArray, List.set_cons_zero, List.set_cons_succ]; try rfl))) | (refine take_no' (i := 4) (d := (some 187)) (a' := ?ta50) rfl (by kernel_rfl) (by kernel_rfl) (by kernel_rfl) (by rfl) (fun _ _ _ h => h) (by assumption) rfl ?tha50 ?_; (case tha50 => (simp only [Act.put, List.setIfInBounds_toArray, List.set_cons_zero, List.set_cons_succ]; try rfl)))
            first | (refine take_yes' (i := 5) (d := (some 188)) (v := ?tv51) (a' := ?ta51) rfl (by kernel_rfl) (by kernel_rfl) (by kernel_rfl) (by rfl) (fun _ _ _ h => h) ?thy51 (by assumption) rfl ?tha51 ?_; (case thy51 => (intro w hSw; (try dsimp only at hSw); simp only [List.getElem?_toArray, List.getElem?_cons_succ, List.getElem?_cons_zero, Option.map_some, Option.some.injEq]; go_simp; (try with_reducible rfl))); (case tha51 => (simp only [Act.put, List.setIfInBounds_toArray, List.set_cons_zero, List.set_cons_succ]; try rfl))) | (refine take_no' (i := 5) (d := (some 188)) (a' := ?ta51) rfl (by kernel_rfl) (by kernel_rfl) (by kernel_rfl) (by rfl) (fun _ _ _ h => h) (by assumption) rfl ?tha51 ?_; (case tha51 => (simp only [Act.put, List.setIfInBounds_toArray, List.set_cons_zero, List.set_cons_succ]; try rfl)))
            first | (refine take_yes' (i := 6) (d := (some 189)) (v := ?tv52) (a' := ?ta52) rfl (by kernel_rfl) (by kernel_rfl) (by kernel_rfl) (by rfl) (fun _ _ _ h => h) ?thy52 (by assumption) rfl ?tha52 ?_; (case thy52 => (intro w hSw; (try dsimp only at hSw); simp only [List.getElem?_toArray, List.getElem?_cons_succ, List.getElem?_cons_zero, Option.map_some, Option.some.injEq]; go_simp; (try with_reducible rfl))); (case tha52 => (simp only [Act.put, List.setIfInBounds_toArray, List.set_cons_zero, List.set_cons_succ]; try rfl))) | (refine take_no' (i := 6) (d := (some 189)) (a' := ?ta52) rfl (by kernel_rfl) (by kernel_rfl) (by kernel_rfl) (by rfl) (fun _ _ _ h => h) (by assumption) rfl ?tha52 ?_; (case tha52 => (simp only [Act.put, List.setIfInBounds_toArray, List.set_cons_zero, List.set_cons_succ]; try rfl)))
            first | (refine take_yes' (i := 7) (d := (some 190)) (v := ?tv53) (a' := ?ta53) rfl (by kernel_rfl) (by kernel_rfl) (by kernel_rfl) (by rfl) (fun _ _ _ h => h) ?thy53 (by assumption) rfl ?tha53 ?_; (case thy53 => (intro w hSw; (try dsimp only at hSw); simp only [List.getElem?_toArray, List.getElem?_cons_succ, List.getElem?_cons_zero, Option.map_some, Option.some.injEq]; go_simp; (try with_reducible rfl))); (case tha53 => (simp only [Act.put, List.setIfInBounds_toArray, List.set_cons_zero, List.set_cons_succ]; try rfl))) | (refine take_no' (i := 7) (d := (some 190)) (a' := ?ta53) rfl (by kernel_rfl) (by kernel_rfl) (by kernel_rfl) (by rfl) (fun _ _ _ h => h) (by assumption) rfl ?tha53 ?_; (case tha53 => (simp only [Act.put, List.setIfInBounds_toArray, List.set_cons_zero, List.set_cons_succ]; try rfl)))
            first | (refine take_yes' (i := 8) (d := (some 191)) (v := ?tv54) (a' := ?ta54) rfl (by kernel_rfl) (by kernel_rfl) (by kernel_rfl) (by rfl) (fun _ _ _ h => h) ?thy54 (by assumption) rfl ?tha54 ?_; (case thy54 => (intro w hSw; (try dsimp only at hSw); simp only [List.getElem?_toArray, List.getElem?_cons_succ, List.getElem?_cons_zero, Option.map_some, Option.some.injEq]; go_simp; (try with_reducible rfl))); (case tha54 => (simp only [Act.put, List.setIfInBounds_toArray, List.set_cons_zero, List.set_cons_succ]; try rfl))) | (refine take_no' (i := 8) (d := (some 191)) (a' := ?ta54) rfl (by kernel_rfl) (by kernel_rfl) (by kernel_rfl) (by rfl) (fun _ _ _ h => h) (by assumption) rfl ?tha54 ?_; (case tha54 => (simp only [Act.put, List.setIfInBounds_toArray, List.set_cons_zero, List.set_cons_succ]; try rfl)))
            first | (refine take_yes' (i := 9) (d := (some 192)) (v := ?tv55) (a' := ?ta55) rfl (by kernel_rfl) (by kernel_rfl) (by kernel_rfl) (by rfl) (fun _ _ _ h => h) ?thy55 (by assumption) rfl ?tha55 ?_; (case thy55 => (intro w hSw; (try dsimp only at hSw); simp only [List.getElem?_toArray, List.getElem?_cons_succ, List.getElem?_cons_zero, Option.map_some, Option.some.injEq]; go_simp; (try with_reducible rfl))); (case tha55 => (simp only [Act.put, List.setIfInBounds_toArray, List.set_cons_zero, List.set_cons_succ]; try rfl))) | (refine take_no' (i := 9) (d := (some 192)) (a' := ?ta55) rfl (by kernel_rfl) (by kernel_rfl) (by kernel_rfl) (by rfl) (fun _ _ _ h => h) (by assumption) rfl ?tha55 ?_; (case tha55 => (simp only [Act.put, List.setIfInBounds_toArray, List.set_cons_zero, List.set_cons_succ]; try rfl)))
            first | (refine take_yes' (i := 10) (d := (some 193)) (v := ?tv56) (a' := ?ta56) rfl (by kernel_rfl) (by kernel_rfl) (by kernel_rfl) (by rfl) (fun _ _ _ h => h) ?thy56 (by assumption) rfl ?tha56 ?_; (case thy56 => (intro w hSw; (try dsimp only at hSw); simp only [List.getElem?_toArray, List.getElem?_cons_succ, List.getElem?_cons_zero, Option.map_some, Option.some.injEq]; go_simp; (try with_reducible rfl))); (case tha56 => (simp only [Act.put, List.setIfInBounds_toArray, List.set_cons_zero, List.set_cons_succ]; try rfl))) | (refine take_no' (i := 10) (d := (some 193)) (a' := ?ta56) rfl (by kernel_rfl) (by kernel_rfl) (by kernel_rfl) (by rfl) (fun _ _ _ h => h) (by assumption) rfl ?tha56 ?_; (case tha56 => (simp only [Act.put, List.setIfInBounds_toArray, List.set_cons_zero, List.set_cons_succ]; try rfl)))
            first | (refine take_yes' (i := 11) (d := (some 194)) (v := ?tv57) (a' := ?ta57) rfl (by kernel_rfl) (by kernel_rfl) (by kernel_rfl) (by rfl) (fun _ _ _ h => h) ?thy57 (by assumption) rfl ?tha57 ?_; (case thy57 => (intro w hSw; (try dsimp only at hSw); simp only [List.getElem?_toArray, List.getElem?_cons_succ, List.getElem?_cons_zero, Option.map_some, Option.some.injEq]; go_simp; (try with_reducible rfl))); (case tha57 => (simp only [Act.put, List.setIfInBounds_toArray, List.set_cons_zero, List.set_cons_succ]; try rfl))) | (refine take_no' (i := 11) (d := (some 194)) (a' := ?ta57) rfl (by kernel_rfl) (by kernel_rfl) (by kernel_rfl) (by rfl) (fun _ _ _ h => h) (by assumption) rfl ?tha57 ?_; (case tha57 => (simp only [Act.put, List.setIfInBounds_toArray, List.set_cons_zero, List.set_cons_succ]; try rfl)))
            first | (refine take_yes' (i := 12) (d := (some 195)) (v := ?tv58) (a' := ?ta58) rfl (by kernel_rfl) (by kernel_rfl) (by kernel_rfl) (by rfl) (fun _ _ _ h => h) ?thy58 (by assumption) rfl ?tha58 ?_; (case thy58 => (intro w hSw; (try dsimp only at hSw); simp only [List.getElem?_toArray, List.getElem?_cons_succ, List.getElem?_cons_zero, Option.map_some, Option.some.injEq]; go_simp; (try with_reducible rfl))); (case tha58 => (simp only [Act.put, List.setIfInBounds_toArray, List.set_cons_zero, List.set_cons_succ]; try rfl))) | (refine take_no' (i := 12) (d := (some 195)) (a' := ?ta58) rfl (by kernel_rfl) (by kernel_rfl) (by kernel_rfl) (by rfl) (fun _ _ _ h => h) (by assumption) rfl ?tha58 ?_; (case tha58 => (simp only [Act.put, List.setIfInBounds_toArray, List.set_cons_zero, List.set_cons_succ]; try rfl)))
            first | (refine take_yes' (i := 13) (d := (some 196)) (v := ?tv59) (a' := ?ta59) rfl (by kernel_rfl) (by kernel_rfl) (by kernel_rfl) (by rfl) (fun _ _ _ h => h) ?thy59 (by assumption) rfl ?tha59 ?_; (case thy59 => (intro w hSw; (try dsimp only at hSw); simp only [List.getElem?_toArray, List.getElem?_cons_succ, List.getElem?_cons_zero, Option.map_some, Option.some.injEq]; go_simp; (try with_reducible rfl))); (case tha59 => (simp only [Act.put, List.setIfInBounds_toArray, List.set_cons_zero, List.set_cons_succ]; try rfl))) | (refine take_no' (i := 13) (d := (some 196)) (a' := ?ta59) rfl (by kernel_rfl) (by kernel_rfl) (by kernel_rfl) (by rfl) (fun _ _ _ h => h) (by assumption) rfl ?tha59 ?_; (case tha59 => (simp only [Act.put, List.setIfInBounds_toArray, List.set_cons_zero, List.set_cons_succ]; try rfl)))
            first | (refine take_yes' (i := 14) (d := (some 197)) (v := ?tv60) (a' := ?ta60) rfl (by kernel_rfl) (by kernel_rfl) (by kernel_rfl) (by rfl) (fun _ _ _ h => h) ?thy60 (by assumption) rfl ?tha60 ?_; (case thy60 => (intro w hSw; (try dsimp only at hSw); simp only [List.getElem?_toArray, List.getElem?_cons_succ, List.getElem?_cons_zero, Option.map_some, Option.some.injEq]; go_simp; (try with_reducible rfl))); (case tha60 => (simp only [Act.put, List.setIfInBounds_toArray, List.set_cons_zero, List.set_cons_succ]; try rfl))) | (refine take_no' (i := 14) (d := (some 197)) (a' := ?ta60) rfl (by kernel_rfl) (by kernel_rfl) (by kernel_rfl) (by rfl) (fun _ _ _ h => h) (by assumption) rfl ?tha60 ?_; (case tha60 => (simp only [Act.put, List.setIfInBounds_toArray, List.set_cons_zero, List.set_cons_succ]; try rfl)))
            first | (refine take_yes' (i := 16) (d := (some 199)) (v := ?tv61) (a' := ?ta61) rfl (by kernel_rfl) (by kernel_rfl) (by kernel_rfl) (by rfl) (fun _ _ _ h => h) ?thy61 (by assumption) rfl ?tha61 ?_; (case thy61 => (intro w hSw; (try dsimp only at hSw); simp only [List.getElem?_toArray, List.getElem?_cons_succ, List.getElem?_cons_zero, Option.map_some, Option.some.injEq]; go_simp; (try with_reducible rfl))); (case tha61 => (simp only [Act.put, List.setIfInBounds_toArray, List.set_cons_zero, List.set_cons_succ]; try rfl))) | (refine take_no' (i := 16) (d := (some 199)) (a' := ?ta61) rfl (by kernel_rfl) (by kernel_rfl) (by kernel_rfl) (by rfl) (fun _ _ _ h => h) (by assumption) rfl ?tha61 ?_; (case tha61 => (simp only [Act.put, List.setIfInBounds_toArray, List.set_cons_zero, List.set_cons_succ]; try rfl)))
            first | (refine take_yes' (i := 17) (d := (some 200)) (v := ?tv62) (a' := ?ta62) rfl (by kernel_rfl) (by kernel_rfl) (by kernel_rfl) (by rfl) (fun _ _ _ h => h) ?thy62 (by assumption) rfl ?tha62 ?_; (case thy62 => (intro w hSw; (try dsimp only at hSw); simp only [List.getElem?_toArray, List.getElem?_cons_succ, List.getElem?_cons_zero, Option.map_some, Option.some.injEq]; go_simp; (try with_reducible rfl))); (case tha62 => (simp only [Act.put, List.setIfInBounds_toArray, List.set_cons_zero, List.set_cons_succ]; try rfl))) | (refine take_no' (i := 17) (d := (some 200)) (a' := ?ta62) rfl (by kernel_rfl) (by kernel_rfl) (by kernel_rfl) (by rfl) (fun _ _ _ h => h) (by assumption) rfl ?tha62 ?_; (case tha62 => (simp only [Act.put, List.setIfInBounds_toArray, List.set_cons_zero, List.set_cons_succ]; try rfl)))
            first | (refine take_yes' (i := 18) (d := (some 201)) (v := ?tv63) (a' := ?ta63) rfl (by kernel_rfl) (by kernel_rfl) (by kernel_rfl) (by rfl) (fun _ _ _ h => h) ?thy63 (by assumption) rfl ?tha63 ?_; (case thy63 => (intro w hSw; (try dsimp only at hSw); simp only [List.getElem?_toArray, List.getElem?_cons_succ, List.getElem?_cons_zero, Option.map_some, Option.some.injEq]; go_simp; (try with_reducible rfl))); (case tha63 => (simp only [Act.put, List.setIfInBounds_toArray, List.set_cons_zero, List.set_cons_succ]; try rfl))) | (refine take_no' (i := 18) (d := (some 201)) (a' := ?ta63) rfl (by kernel_rfl) (by kernel_rfl) (by kernel_rfl) (by rfl) (fun _ _ _ h => h) (by assumption) rfl ?tha63 ?_; (case tha63 => (simp only [Act.put, List.setIfInBounds_toArray, List.set_cons_zero, List.set_cons_succ]; try rfl)))
            first | (refine take_yes' (i := 19) (d := (some 202)) (v := ?tv64) (a' := ?ta64) rfl (by kernel_rfl) (by kernel_rfl) (by kernel_rfl) (by rfl) (fun _ _ _ h => h) ?thy64 (by assumption) rfl ?tha64 ?_; (case thy64 => (intro w hSw; (try dsimp only at hSw); simp only [List.getElem?_toArray, List.getElem?_cons_succ, List.getElem?_cons_zero, Option.map_some, Option.some.injEq]; go_simp; (try with_reducible rfl))); (case tha64 => (simp only [Act.put, List.setIfInBounds_toArray, List.set_cons_zero, List.set_cons_succ]; try rfl))) | (refine take_no' (i := 19) (d := (some 202)) (a' := ?ta64) rfl (by kernel_rfl) (by kernel_rfl) (by kernel_rfl) (by rfl) (fun _ _ _ h => h) (by assumption) rfl ?tha64 ?_; (case tha64 => (simp only [Act.put, List.setIfInBounds_toArray, List.set_cons_zero, List.set_cons_succ]; try rfl)))
            first | (refine take_yes' (i := 20) (d := (some 203)) (v := ?tv65) (a' := ?ta65) rfl (by kernel_rfl) (by kernel_rfl) (by kernel_rfl) (by rfl) (fun _ _ _ h => h) ?thy65 (by assumption) rfl ?tha65 ?_; (case thy65 => (intro w hSw; (try dsimp only at hSw); simp only [List.getElem?_toArray, List.getElem?_cons_succ, List.getElem?_cons_zero, Option.map_some, Option.some.injEq]; go_simp; (try with_reducible rfl))); (case tha65 => (simp only [Act.put, List.setIfInBounds_toArray, List.set_cons_zero, List.set_cons_succ]; try rfl))) | (refine take_no' (i := 20) (d := (some 203)) (a' := ?ta65) rfl (by kernel_rfl) (by kernel_rfl) (by kernel_rfl) (by rfl) (fun _ _ _ h => h) (by assumption) rfl ?tha65 ?_; (case tha65 => (simp only [Act.put, List.setIfInBounds_toArray, List.set_cons_zero, List.set_cons_succ]; try rfl)))
            refine step_one (i := 15) (by kernel_rfl) (fun K o ho hK => ?_)
            simp only [List.getElem?_toArray, List.getElem?_cons_succ, List.getElem?_cons_zero, Option.some.injEq] at ho
            subst ho
            go_simp
            refine (HH1.out _).mono ?_
            rintro e w' ⟨rfl, rfl⟩
            refine hK.out _ _ ?_ (fun hHeld => ?_)
            focus exact (HRS.out _ HCB2.out.drew).2.1
            clear hK K
            try simp only [Act.put, List.setIfInBounds_toArray, List.set_cons_zero, List.set_cons_succ]
            refine step_one (i := 21) (by kernel_rfl) (fun K o ho hK => ?_)
            simp only [List.getElem?_toArray, List.getElem?_cons_succ, List.getElem?_cons_zero, Option.some.injEq] at ho
            subst ho
            go_simp
            refine (HH2.out _).mono ?_
            rintro e w' ⟨rfl, rfl⟩
            refine hK.out _ _ ?_ (fun hHeld => ?_)
            focus exact (HRS.out _ HCB2.out.drew).2.1
            clear hK K
            try simp only [Act.put, List.setIfInBounds_toArray, List.set_cons_zero, List.set_cons_succ]
            first | (refine take_yes' (i := 22) (d := (some 205)) (v := ?tv66) (a' := ?ta66) rfl (by kernel_rfl) (by kernel_rfl) (by kernel_rfl) (by rfl) (fun _ _ _ h => h) ?thy66 (by assumption) rfl ?tha66 ?_; (case thy66 => (intro w hSw; (try dsimp only at hSw); simp only [List.getElem?_toArray, List.getElem?_cons_succ, List.getElem?_cons_zero, Option.map_some, Option.some.injEq]; go_simp; (try with_reducible rfl))); (case tha66 => (simp only [Act.put, List.setIfInBounds_toArray, List.set_cons_zero, List.set_cons_succ]; try rfl))) | (refine take_no' (i := 22) (d := (some 205)) (a' := ?ta66) rfl (by kernel_rfl) (by kernel_rfl) (by kernel_rfl) (by rfl) (fun _ _ _ h => h) (by assumption) rfl ?tha66 ?_; (case tha66 => (simp only [Act.put, List.setIfInBounds_toArray, List.set_cons_zero, List.set_cons_succ]; try rfl)))
            first | (refine take_yes' (i := 23) (d := (some 206)) (v := ?tv67) (a' := ?ta67) rfl (by kernel_rfl) (by kernel_rfl) (by kernel_rfl) (by rfl) (fun _ _ _ h => h) ?thy67 (by assumption) rfl ?tha67 ?_; (case thy67 => (intro w hSw; (try dsimp only at hSw); simp only [List.getElem?_toArray, List.getElem?_cons_succ, List.getElem?_cons_zero, Option.map_some, Option.some.injEq]; go_simp; (try with_reducible rfl))); (case tha67 => (simp only [Act.put, List.setIfInBounds_toArray, List.set_cons_zero, List.set_cons_succ]; try rfl))) | (refine take_no' (i := 23) (d := (some 206)) (a' := ?ta67) rfl (by kernel_rfl) (by kernel_rfl) (by kernel_rfl) (by rfl) (fun _ _ _ h => h) (by assumption) rfl ?tha67 ?_; (case tha67 => (simp only [Act.put, List.setIfInBounds_toArray, List.set_cons_zero, List.set_cons_succ]; try rfl)))
            refine step_one (i := 24) (by kernel_rfl) (fun K o ho hK => ?_)
            simp only [List.getElem?_toArray, List.getElem?_cons_succ, List.getElem?_cons_zero, Option.some.injEq] at ho
            subst ho
            go_simp
            refine hK.out _ _ ?_ (fun hHeld => ?_)
            focus exact (HRS.out _ HCB2.out.drew).2.1
            clear hK K
            try simp only [Act.put, List.setIfInBounds_toArray, List.set_cons_zero, List.set_cons_succ]
            refine wpAnyH_done (by kernel_rfl) ?_ _
            obtain ⟨r0, r3, -, -, -⟩ := HS12.out _ HCB2.out.drew
            obtain ⟨hd1, hd2, hty⟩ := HRS.out _ HCB2.out.drew
            go_wp2_with fail
            go_ret
            exact ⟨rfl, rdrewN HFIN.out _⟩
          · obtain rfl : sty = 2 := by rw [HS3.out, if_neg hid, if_neg (fun h => hH h.2)]
            have hHI : ((n1 : Int) == (n2 : Int)) = false := beq_eq_false_iff_ne.2 (by omega)
            clear HS3 hid
            go_wp2_with fail
            refine wp_region_held_drew (S := fun X => X.cell? ⟨g1, y * 2 + 1, none⟩ = some (.string (str dt))) (by kernel_rfl) (HRS.out _ HCB2.out.drew).2.1 (fun hHeld => ?_)
            first | (refine take_yes' (i := 0) (d := (some 183)) (v := ?tv68) (a' := ?ta68) rfl (by kernel_rfl) (by kernel_rfl) (by kernel_rfl) (by rfl) (fun _ _ _ h => h) ?thy68 (by assumption) rfl ?tha68 ?_; (case thy68 => (intro w hSw; (try dsimp only at hSw); simp only [List.getElem?_toArray, List.getElem?_cons_succ, List.getElem?_cons_zero, Option.map_some, Option.some.injEq]; go_simp; (try with_reducible rfl))); (case tha68 => (simp only [Act.put, List.setIfInBounds_toArray, List.set_cons_zero, List.set_cons_succ]; try rfl))) | (refine take_no' (i := 0) (d := (some 183)) (a' := ?ta68) rfl (by kernel_rfl) (by kernel_rfl) (by kernel_rfl) (by rfl) (fun _ _ _ h => h) (by assumption) rfl ?tha68 ?_; (case tha68 => (simp only [Act.put, List.setIfInBounds_toArray, List.set_cons_zero, List.set_cons_succ]; try rfl)))
            first | (refine take_yes' (i := 1) (d := (some 184)) (v := ?tv69) (a' := ?ta69) rfl (by kernel_rfl) (by kernel_rfl) (by kernel_rfl) (by rfl) (fun _ _ _ h => h) ?thy69 (by assumption) rfl ?tha69 ?_; (case thy69 => (intro w hSw; (try dsimp only at hSw); simp only [List.getElem?_toArray, List.getElem?_cons_succ, List.getElem?_cons_zero, Option.map_some, Option.some.injEq]; go_simp; (try with_reducible rfl))); (case tha69 => (simp only [Act.put, List.setIfInBounds_toArray, List.set_cons_zero, List.set_cons_succ]; try rfl))) | (refine take_no' (i := 1) (d := (some 184)) (a' := ?ta69) rfl (by kernel_rfl) (by kernel_rfl) (by kernel_rfl) (by rfl) (fun _ _ _ h => h) (by assumption) rfl ?tha69 ?_; (case tha69 => (simp only [Act.put, List.setIfInBounds_toArray, List.set_cons_zero, List.set_cons_succ]; try rfl)))
            first | (refine take_yes' (i := 2) (d := (some 185)) (v := ?tv70) (a' := ?ta70) rfl (by kernel_rfl) (by kernel_rfl) (by kernel_rfl) (by rfl) (fun _ _ _ h => h) ?thy70 (by assumption) rfl ?tha70 ?_; (case thy70 => (intro w hSw; (try dsimp only at hSw); simp only [List.getElem?_toArray, List.getElem?_cons_succ, List.getElem?_cons_zero, Option.map_some, Option.some.injEq]; go_simp; (try with_reducible rfl))); (case tha70 => (simp only [Act.put, List.setIfInBounds_toArray, List.set_cons_zero, List.set_cons_succ]; try rfl))) | (refine take_no' (i := 2) (d := (some 185)) (a' := ?ta70) rfl (by kernel_rfl) (by kernel_rfl) (by kernel_rfl) (by rfl) (fun _ _ _ h => h) (by assumption) rfl ?tha70 ?_; (case tha70 => (simp only [Act.put, List.setIfInBounds_toArray, List.set_cons_zero, List.set_cons_succ]; try rfl)))
            first | (refine take_yes' (i := 3) (d := (some 186)) (v := ?tv71) (a' := ?ta71) rfl (by kernel_rfl) (by kernel_rfl) (by kernel_rfl) (by rfl) (fun _ _ _ h => h) ?thy71 (by assumption) rfl ?tha71 ?_; (case thy71 => (intro w hSw; (try dsimp only at hSw); simp only [List.getElem?_toArray, List.getElem?_cons_succ, List.getElem?_cons_zero, Option.map_some, Option.some.injEq]; go_simp; (try with_reducible rfl))); (case tha71 => (simp only [Act.put, List.setIfInBounds_toArray, List.set_cons_zero, List.set_cons_succ]; try rfl))) | (refine take_no' (i := 3) (d := (some 186)) (a' := ?ta71) rfl (by kernel_rfl) (by kernel_rfl) (by kernel_rfl) (by rfl) (fun _ _ _ h => h) (by assumption) rfl ?tha71 ?_; (case tha71 => (simp only [Act.put, List.setIfInBounds_toArray, List.set_cons_zero, List.set_cons_succ]; try rfl)))
            first | (refine take_yes' (i := 4) (d := (some 187)) (v := ?tv72) (a' := ?ta72) rfl (by kernel_rfl) (by kernel_rfl) (by kernel_rfl) (by rfl) (fun _ _ _ h => h) ?thy72 (by assumption) rfl ?tha72 ?_; (case thy72 => (intro w hSw; (try dsimp only at hSw); simp only [List.getElem?_toArray, List.getElem?_cons_succ, List.getElem?_cons_zero, Option.map_some, Option.some.injEq]; go_simp; (try with_reducible rfl))); (case tha72 => (simp only [Act.put, List.setIfInBounds_toArray, List.set_cons_zero, List.set_cons_succ]; try rfl))) | (refine take_no' (i := 4) (d := (some 187)) (a' := ?ta72) rfl (by kernel_rfl) (by kernel_rfl) (by kernel_rfl) (by rfl) (fun _ _ _ h => h) (by assumption) rfl ?tha72 ?_; (case tha72 => (simp only [Act.put, List.setIfInBounds_toArray, List.set_cons_zero, List.set_cons_succ]; try rfl)))
            first | (refine take_yes' (i := 5) (d := (some 188)) (v := ?tv73) (a' := ?ta73) rfl (by kernel_rfl) (by kernel_rfl) (by kernel_rfl) (by rfl) (fun _ _ _ h => h) ?thy73 (by assumption) rfl ?tha73 ?_; (case thy73 => (intro w hSw; (try dsimp only at hSw); simp only [List.getElem?_toArray, List.getElem?_cons_succ, List.getElem?_cons_zero, Option.map_some, Option.some.injEq]; go_simp; (try with_reducible rfl))); (case tha73 => (simp only [Act.put, List.setIfInBounds_toArray, List.set_cons_zero, List.set_cons_succ]; try rfl))) | (refine take_no' (i := 5) (d := (some 188)) (a' := ?ta73) rfl (by kernel_rfl) (by kernel_rfl) (by kernel_rfl) (by rfl) (fun _ _ _ h => h) (by assumption) rfl ?tha73 ?_; (case tha73 => (simp only [Act.put, List.setIfInBounds_toArray, List.set_cons_zero, List.set_cons_succ]; try rfl)))
            first | (refine take_yes' (i := 6) (d := (some 189)) (v := ?tv74) (a' := ?ta74) rfl (by kernel_rfl) (by kernel_rfl) (by kernel_rfl) (by rfl) (fun _ _ _ h => h) ?thy74 (by assumption) rfl ?tha74 ?_; (case thy74 => (intro w hSw; (try dsimp only at hSw); simp only [List.getElem?_toArray, List.getElem?_cons_succ, List.getElem?_cons_zero, Option.map_some, Option.some.injEq]; go_simp; (try with_reducible rfl))); (case tha74 => (simp only [Act.put, List.setIfInBounds_toArray, List.set_cons_zero, List.set_cons_succ]; try rfl))) | (refine take_no' (i := 6) (d := (some 189)) (a' := ?ta74) rfl (by kernel_rfl) (by kernel_rfl) (by kernel_rfl) (by rfl) (fun _ _ _ h => h) (by assumption) rfl ?tha74 ?_; (case tha74 => (simp only [Act.put, List.setIfInBounds_toArray, List.set_cons_zero, List.set_cons_succ]; try rfl)))
            first | (refine take_yes' (i := 7) (d := (some 190)) (v := ?tv75) (a' := ?ta75) rfl (by kernel_rfl) (by kernel_rfl) (by kernel_rfl) (by rfl) (fun _ _ _ h => h) ?thy75 (by assumption) rfl ?tha75 ?_; (case thy75 => (intro w hSw; (try dsimp only at hSw); simp only [List.getElem?_toArray, List.getElem?_cons_succ, List.getElem?_cons_zero, Option.map_some, Option.some.injEq]; go_simp; (try with_reducible rfl))); (case tha75 => (simp only [Act.put, List.setIfInBounds_toArray, List.set_cons_zero, List.set_cons_succ]; try rfl))) | (refine take_no' (i := 7) (d := (some 190)) (a' := ?ta75) rfl (by kernel_rfl) (by kernel_rfl) (by kernel_rfl) (by rfl) (fun _ _ _ h => h) (by assumption) rfl ?tha75 ?_; (case tha75 => (simp only [Act.put, List.setIfInBounds_toArray, List.set_cons_zero, List.set_cons_succ]; try rfl)))
            first | (refine take_yes' (i := 8) (d := (some 191)) (v := ?tv76) (a' := ?ta76) rfl (by kernel_rfl) (by kernel_rfl) (by kernel_rfl) (by rfl) (fun _ _ _ h => h) ?thy76 (by assumption) rfl ?tha76 ?_; (case thy76 => (intro w hSw; (try dsimp only at hSw); simp only [List.getElem?_toArray, List.getElem?_cons_succ, List.getElem?_cons_zero, Option.map_some, Option.some.injEq]; go_simp; (try with_reducible rfl))); (case tha76 => (simp only [Act.put, List.setIfInBounds_toArray, List.set_cons_zero, List.set_cons_succ]; try rfl))) | (refine take_no' (i := 8) (d := (some 191)) (a' := ?ta76) rfl (by kernel_rfl) (by kernel_rfl) (by kernel_rfl) (by rfl) (fun _ _ _ h => h) (by assumption) rfl ?tha76 ?_; (case tha76 => (simp only [Act.put, List.setIfInBounds_toArray, List.set_cons_zero, List.set_cons_succ]; try rfl)))
            first | (refine take_yes' (i := 9) (d := (some 192)) (v := ?tv77) (a' := ?ta77) rfl (by kernel_rfl) (by kernel_rfl) (by kernel_rfl) (by rfl) (fun _ _ _ h => h) ?thy77 (by assumption) rfl ?tha77 ?_; (case thy77 => (intro w hSw; (try dsimp only at hSw); simp only [List.getElem?_toArray, List.getElem?_cons_succ, List.getElem?_cons_zero, Option.map_some, Option.some.injEq]; go_simp; (try with_reducible rfl))); (case tha77 => (simp only [Act.put, List.setIfInBounds_toArray, List.set_cons_zero, List.set_cons_succ]; try rfl))) | (refine take_no' (i := 9) (d := (some 192)) (a' := ?ta77) rfl (by kernel_rfl) (by kernel_rfl) (by kernel_rfl) (by rfl) (fun _ _ _ h => h) (by assumption) rfl ?tha77 ?_; (case tha77 => (simp only [Act.put, List.setIfInBounds_toArray, List.set_cons_zero, List.set_cons_succ]; try rfl)))
            first | (refine take_yes' (i := 10) (d := (some 193)) (v := ?tv78) (a' := ?ta78) rfl (by kernel_rfl) (by kernel_rfl) (by kernel_rfl) (by rfl) (fun _ _ _ h => h) ?thy78 (by assumption) rfl ?tha78 ?_; (case thy78 => (intro w hSw; (try dsimp only at hSw); simp only [List.getElem?_toArray, List.getElem?_cons_succ, List.getElem?_cons_zero, Option.map_some, Option.some.injEq]; go_simp; (try with_reducible rfl))); (case tha78 => (simp only [Act.put, List.setIfInBounds_toArray, List.set_cons_zero, List.set_cons_succ]; try rfl))) | (refine take_no' (i := 10) (d := (some 193)) (a' := ?ta78) rfl (by kernel_rfl) (by kernel_rfl) (by kernel_rfl) (by rfl) (fun _ _ _ h => h) (by assumption) rfl ?tha78 ?_; (case tha78 => (simp only [Act.put, List.setIfInBounds_toArray, List.set_cons_zero, List.set_cons_succ]; try rfl)))
            first | (refine take_yes' (i := 11) (d := (some 194)) (v := ?tv79) (a' := ?ta79) rfl (by kernel_rfl) (by kernel_rfl) (by kernel_rfl) (by rfl) (fun _ _ _ h => h) ?thy79 (by assumption) rfl ?tha79 ?_; (case thy79 => (intro w hSw; (try dsimp only at hSw); simp only [List.getElem?_toArray, List.getElem?_cons_succ, List.getElem?_cons_zero, Option.map_some, Option.some.injEq]; go_simp; (try with_reducible rfl))); (case tha79 => (simp only [Act.put, List.setIfInBounds_toArray, List.set_cons_zero, List.set_cons_succ]; try rfl))) | (refine take_no' (i := 11) (d := (some 194)) (a' := ?ta79) rfl (by kernel_rfl) (by kernel_rfl) (by kernel_rfl) (by rfl) (fun _ _ _ h => h) (by assumption) rfl ?tha79 ?_; (case tha79 => (simp only [Act.put, List.setIfInBounds_toArray, List.set_cons_zero, List.set_cons_succ]; try rfl)))
            first | (refine take_yes' (i := 12) (d := (some 195)) (v := ?tv80) (a' := ?ta80) rfl (by kernel_rfl) (by kernel_rfl) (by kernel_rfl) (by rfl) (fun _ _ _ h => h) ?thy80 (by assumption) rfl ?tha80 ?_; (case thy80 => (intro w hSw; (try dsimp only at hSw); simp only [List.getElem?_toArray, List.getElem?_cons_succ, List.getElem?_cons_zero, Option.map_some, Option.some.injEq]; go_simp; (try with_reducible rfl))); (case tha80 => (simp only [Act.put, List.setIfInBounds_toArray, List.set_cons_zero, List.set_cons_succ]; try rfl))) | (refine take_no' (i := 12) (d := (some 195)) (a' := ?ta80) rfl (by kernel_rfl) (by kernel_rfl) (by kernel_rfl) (by rfl) (fun _ _ _ h => h) (by assumption) rfl ?tha80 ?_; (case tha80 => (simp only [Act.put, List.setIfInBounds_toArray, List.set_cons_zero, List.set_cons_succ]; try rfl)))
            first | (refine take_yes' (i := 13) (d := (some 196)) (v := ?tv81) (a' := ?ta81) rfl (by kernel_rfl) (by kernel_rfl) (by kernel_rfl) (by rfl) (fun _ _ _ h => h) ?thy81 (by assumption) rfl ?tha81 ?_; (case thy81 => (intro w hSw; (try dsimp only at hSw); simp only [List.getElem?_toArray, List.getElem?_cons_succ, List.getElem?_cons_zero, Option.map_some, Option.some.injEq]; go_simp; (try with_reducible rfl))); (case tha81 => (simp only [Act.put, List.setIfInBounds_toArray, List.set_cons_zero, List.set_cons_succ]; try rfl))) | (refine take_no' (i := 13) (d := (some 196)) (a' := ?ta81) rfl (by kernel_rfl) (by kernel_rfl) (by kernel_rfl) (by rfl) (fun _ _ _ h => h) (by assumption) rfl ?tha81 ?_; (case tha81 => (simp only [Act.put, List.setIfInBounds_toArray, List.set_cons_zero, List.set_cons_succ]; try rfl)))
            first | (refine take_yes' (i := 14) (d := (some 197)) (v := ?tv82) (a' := ?ta82) rfl (by kernel_rfl) (by kernel_rfl) (by kernel_rfl) (by rfl) (fun _ _ _ h => h) ?thy82 (by assumption) rfl ?tha82 ?_; (case thy82 => (intro w hSw; (try dsimp only at hSw); simp only [List.getElem?_toArray, List.getElem?_cons_succ, List.getElem?_cons_zero, Option.map_some, Option.some.injEq]; go_simp; (try with_reducible rfl))); (case tha82 => (simp only [Act.put, List.setIfInBounds_toArray, List.set_cons_zero, List.set_cons_succ]; try rfl))) | (refine take_no' (i := 14) (d := (some 197)) (a' := ?ta82) rfl (by kernel_rfl) (by kernel_rfl) (by kernel_rfl) (by rfl) (fun _ _ _ h => h) (by assumption) rfl ?tha82 ?_; (case tha82 => (simp only [Act.put, List.setIfInBounds_toArray, List.set_cons_zero, List.set_cons_succ]; try rfl)))
            first | (refine take_yes' (i := 16) (d := (some 199)) (v := ?tv83) (a' := ?ta83) rfl (by kernel_rfl) (by kernel_rfl) (by kernel_rfl) (by rfl) (fun _ _ _ h => h) ?thy83 (by assumption) rfl ?tha83 ?_; (case thy83 => (intro w hSw; (try dsimp only at hSw); simp only [List.getElem?_toArray, List.getElem?_cons_succ, List.getElem?_cons_zero, Option.map_some, Option.some.injEq]; go_simp; (try with_reducible rfl))); (case tha83 => (simp only [Act.put, List.setIfInBounds_toArray, List.set_cons_zero, List.set_cons_succ]; try rfl))) | (refine take_no' (i := 16) (d := (some 199)) (a' := ?ta83) rfl (by kernel_rfl) (by kernel_rfl) (by kernel_rfl) (by rfl) (fun _ _ _ h => h) (by assumption) rfl ?tha83 ?_; (case tha83 => (simp only [Act.put, List.setIfInBounds_toArray, List.set_cons_zero, List.set_cons_succ]; try rfl)))
            first | (refine take_yes' (i := 17) (d := (some 200)) (v := ?tv84) (a' := ?ta84) rfl (by kernel_rfl) (by kernel_rfl) (by kernel_rfl) (by rfl) (fun _ _ _ h => h) ?thy84 (by assumption) rfl ?tha84 ?_; (case thy84 => (intro w hSw; (try dsimp only at hSw); simp only [List.getElem?_toArray, List.getElem?_cons_succ, List.getElem?_cons_zero, Option.map_some, Option.some.injEq]; go_simp; (try with_reducible rfl))); (case tha84 => (simp only [Act.put, List.setIfInBounds_toArray, List.set_cons_zero, List.set_cons_succ]; try rfl))) | (refine take_no' (i := 17) (d := (some 200)) (a' := ?ta84) rfl (by kernel_rfl) (by kernel_rfl) (by kernel_rfl) (by rfl) (fun _ _ _ h => h) (by assumption) rfl ?tha84 ?_; (case tha84 => (simp only [Act.put, List.setIfInBounds_toArray, List.set_cons_zero, List.set_cons_succ]; try rfl)))
            first | (refine take_yes' (i := 18) (d := (some 201)) (v := ?tv85) (a' := ?ta85) rfl (by kernel_rfl) (by kernel_rfl) (by kernel_rfl) (by rfl) (fun _ _ _ h => h) ?thy85 (by assumption) rfl ?tha85 ?_; (case thy85 => (intro w hSw; (try dsimp only at hSw); simp only [List.getElem?_toArray, List.getElem?_cons_succ, List.getElem?_cons_zero, Option.map_some, Option.some.injEq]; go_simp; (try with_reducible rfl))); (case tha85 => (simp only [Act.put, List.setIfInBounds_toArray, List.set_cons_zero, List.set_cons_succ]; try rfl))) | (refine take_no' (i := 18) (d := (some 201)) (a' := ?ta85) rfl (by kernel_rfl) (by kernel_rfl) (by kernel_rfl) (by rfl) (fun _ _ _ h => h) (by assumption) rfl ?tha85 ?_; (case tha85 => (simp only [Act.put, List.setIfInBounds_toArray, List.set_cons_zero, List.set_cons_succ]; try rfl)))
            first | (refine take_yes' (i := 19) (d := (some 202)) (v := ?tv86) (a' := ?ta86) rfl (by kernel_rfl) (by kernel_rfl) (by kernel_rfl) (by rfl) (fun _ _ _ h => h) ?thy86 (by assumption) rfl ?tha86 ?_; (case thy86 => (intro w hSw; (try dsimp only at hSw); simp only [List.getElem?_toArray, List.getElem?_cons_succ, List.getElem?_cons_zero, Option.map_some, Option.some.injEq]; go_simp; (try with_reducible rfl))); (case tha86 => (simp only [Act.put, List.setIfInBounds_toArray, List.set_cons_zero, List.set_cons_succ]; try rfl))) | (refine take_no' (i := 19) (d := (some 202)) (a' := ?ta86) rfl (by kernel_rfl) (by kernel_rfl) (by kernel_rfl) (by rfl) (fun _ _ _ h => h) (by assumption) rfl ?tha86 ?_; (case tha86 => (simp only [Act.put, List.setIfInBounds_toArray, List.set_cons_zero, List.set_cons_succ]; try rfl)))
            first | (refine take_yes' (i := 20) (d := (some 203)) (v := ?tv87) (a' := ?ta87) rfl (by kernel_rfl) (by kernel_rfl) (by kernel_rfl) (by rfl) (fun _ _ _ h => h) ?thy87 (by assumption) rfl ?tha87 ?_; (case thy87 => (intro w hSw; (try dsimp only at hSw); simp only [List.getElem?_toArray, List.getElem?_cons_succ, List.getElem?_cons_zero, Option.map_some, Option.some.injEq]; go_simp; (try with_reducible rfl))); (case tha87 => (simp only [Act.put, List.setIfInBounds_toArray, List.set_cons_zero, List.set_cons_succ]; try rfl))) | (refine take_no' (i := 20) (d := (some 203)) (a' := ?ta87) rfl (by kernel_rfl) (by kernel_rfl) (by kernel_rfl) (by rfl) (fun _ _ _ h => h) (by assumption) rfl ?tha87 ?_; (case tha87 => (simp only [Act.put, List.setIfInBounds_toArray, List.set_cons_zero, List.set_cons_succ]; try rfl)))
            refine step_one (i := 15) (by kernel_rfl) (fun K o ho hK => ?_)
            simp only [List.getElem?_toArray, List.getElem?_cons_succ, List.getElem?_cons_zero, Option.some.injEq] at ho
            subst ho
            go_simp
            refine (HH1.out _).mono ?_
            rintro e w' ⟨rfl, rfl⟩
            refine hK.out _ _ ?_ (fun hHeld => ?_)
            focus exact (HRS.out _ HCB2.out.drew).2.1
            clear hK K
            try simp only [Act.put, List.setIfInBounds_toArray, List.set_cons_zero, List.set_cons_succ]
            refine step_one (i := 21) (by kernel_rfl) (fun K o ho hK => ?_)
            simp only [List.getElem?_toArray, List.getElem?_cons_succ, List.getElem?_cons_zero, Option.some.injEq] at ho
            subst ho
            go_simp
            refine (HH2.out _).mono ?_
            rintro e w' ⟨rfl, rfl⟩
            refine hK.out _ _ ?_ (fun hHeld => ?_)
            focus exact (HRS.out _ HCB2.out.drew).2.1
            clear hK K
            try simp only [Act.put, List.setIfInBounds_toArray, List.set_cons_zero, List.set_cons_succ]
            first | (refine take_yes' (i := 22) (d := (some 205)) (v := ?tv88) (a' := ?ta88) rfl (by kernel_rfl) (by kernel_rfl) (by kernel_rfl) (by rfl) (fun _ _ _ h => h) ?thy88 (by assumption) rfl ?tha88 ?_; (case thy88 => (intro w hSw; (try dsimp only at hSw); simp only [List.getElem?_toArray, List.getElem?_cons_succ, List.getElem?_cons_zero, Option.map_some, Option.some.injEq]; go_simp; (try with_reducible rfl))); (case tha88 => (simp only [Act.put, List.setIfInBounds_toArray, List.set_cons_zero, List.set_cons_succ]; try rfl))) | (refine take_no' (i := 22) (d := (some 205)) (a' := ?ta88) rfl (by kernel_rfl) (by kernel_rfl) (by kernel_rfl) (by rfl) (fun _ _ _ h => h) (by assumption) rfl ?tha88 ?_; (case tha88 => (simp only [Act.put, List.setIfInBounds_toArray, List.set_cons_zero, List.set_cons_succ]; try rfl)))
            first | (refine take_yes' (i := 23) (d := (some 206)) (v := ?tv89) (a' := ?ta89) rfl (by kernel_rfl) (by kernel_rfl) (by kernel_rfl) (by rfl) (fun _ _ _ h => h) ?thy89 (by assumption) rfl ?tha89 ?_; (case thy89 => (intro w hSw; (try dsimp only at hSw); simp only [List.getElem?_toArray, List.getElem?_cons_succ, List.getElem?_cons_zero, Option.map_some, Option.some.injEq]; go_simp; (try with_reducible rfl))); (case tha89 => (simp only [Act.put, List.setIfInBounds_toArray, List.set_cons_zero, List.set_cons_succ]; try rfl))) | (refine take_no' (i := 23) (d := (some 206)) (a' := ?ta89) rfl (by kernel_rfl) (by kernel_rfl) (by kernel_rfl) (by rfl) (fun _ _ _ h => h) (by assumption) rfl ?tha89 ?_; (case tha89 => (simp only [Act.put, List.setIfInBounds_toArray, List.set_cons_zero, List.set_cons_succ]; try rfl)))
            refine step_one (i := 24) (by kernel_rfl) (fun K o ho hK => ?_)
            simp only [List.getElem?_toArray, List.getElem?_cons_succ, List.getElem?_cons_zero, Option.some.injEq] at ho
            subst ho
            go_simp
            refine hK.out _ _ ?_ (fun hHeld => ?_)
            focus exact (HRS.out _ HCB2.out.drew).2.1
            clear hK K
            try simp only [Act.put, List.setIfInBounds_toArray, List.set_cons_zero, List.set_cons_succ]
            refine wpAnyH_done (by kernel_rfl) ?_ _
            obtain ⟨r0, r3, -, -, -⟩ := HS12.out _ HCB2.out.drew
            obtain ⟨hd1, hd2, hty⟩ := HRS.out _ HCB2.out.drew
            go_wp2_with fail
            go_ret
            exact ⟨rfl, rdrewN HFIN.out _⟩
        · obtain rfl : sty = 2 := by rw [HS3.out, if_neg hid, if_neg (fun h => hL h.1)]
          have hLI : ((ins'.length : Int) == (dt.length : Int)) = false := beq_eq_false_iff_ne.2 (by omega)
          have hLD : decide (ins'.length = dt.length) = false := decide_eq_false hL
          clear HS3 hid HH1 HH2
          go_wp2_with fail
          go_quiet (fail)
          go_wp2_with fail
          go_ret
          exact ⟨rfl, rdrewN HFIN.out _⟩
end Go.Proofs.YtonjphollmdicaaGreatDoor
