import Derived.Test.YtonjphollmdicaaGreatDoorB25
namespace Go.Proofs.YtonjphollmdicaaGreatDoor
open Go.ChangeShapes Go.WideShapes Go.ChangeAt Go.RowKit
open Go.Maps
def descF (f : FoundL) : DescL := ⟨fName f.body, fLong f.body, fHash f.body, fSlices f.body⟩
theorem Tryz.infoFile : (Tryz.prog.info? 62).map (fun i => (i.zero, i.size, i.bytes)) = some (some (.agg #[.string ByteArray.empty, .string ByteArray.empty]), 2, 32) := by kernel_rfl
def offS (L : List FoundL) (k : Nat) : Nat := ((L.take k).map fun f => (fSlices f.body).length).sum
theorem join_at : ∀ (L : List FoundL) (SS : List (List UInt8)) (k : Nat) (h : k < L.length), (joinL (L.map descF) SS)[k]? = some (fName L[k].body, ((SS.drop (offS L k)).take (fSlices L[k].body).length).flatten.take (fLong L[k].body))
  | [], _, k, h => by simp at h
  | f :: r, SS, 0, h => by
    have e : offS (f :: r) 0 = 0 := rfl
    rw [e, List.drop_zero]
    rfl
  | f :: r, SS, k + 1, h => by
    have ih := join_at r (SS.drop (fSlices f.body).length) k (by simpa using h)
    have e : offS (f :: r) (k + 1) = (fSlices f.body).length + offS r k := by simp [offS]
    rw [e, ← List.drop_drop]
    exact ih
theorem join_len : ∀ (ds : List DescL) (SS : List (List UInt8)), (joinL ds SS).length = ds.length
  | [], _ => rfl
  | d :: r, SS => by simp [joinL, join_len r]
theorem offS_next (L : List FoundL) (k : Nat) (h : k < L.length) : offS L (k + 1) = offS L k + (fSlices L[k].body).length := by
  unfold offS
  rw [take_snoc L k h, List.map_append, List.sum_append]
  simp
theorem offS_le (L : List FoundL) (k : Nat) : offS L k ≤ (L.map fun f => (fSlices f.body).length).sum := by
  unfold offS
  have := List.take_append_drop k L
  conv => rhs; rw [← this, List.map_append, List.sum_append]
  omega
theorem offS_full (L : List FoundL) : offS L L.length = (L.map fun f => (fSlices f.body).length).sum := by unfold offS; rw [List.take_length]
theorem made_two (z : Value) (m : Nat) : (madeCells #[z, z] m).toList = List.replicate m z := by
  apply List.ext_getElem?
  intro j
  by_cases hj : j < m
  · rcases Nat.mod_two_eq_zero_or_one j with h | h <;> simp [madeCells, hj, h]
  · simp [madeCells, hj]
theorem files_none (n : Nat) : filesV (List.replicate n ([], [])) = (madeCells #[.string ByteArray.empty, .string ByteArray.empty] (n * 2)).toList := by
  rw [made_two]
  induction n with
  | zero => rfl
  | succ n ih =>
    rw [show (n + 1) * 2 = n * 2 + 1 + 1 from by omega, List.replicate_succ, List.replicate_succ, List.replicate_succ, ← ih]
    rfl
theorem filesV_set (zs : List FileL) (k : Nat) (f : FileL) (h : k < zs.length) : filesV (zs.set k f) = ((filesV zs).set (k * 2) (.string (str f.1))).set (k * 2 + 1) (.string (str f.2)) := by
  induction zs generalizing k with
  | nil => simp at h
  | cons z r ih =>
    have ee : ∀ x : FileL, ∀ l, filesV (x :: l) = .string (str x.1) :: .string (str x.2) :: filesV l := fun _ _ => rfl
    cases k with
    | zero => rfl
    | succ k =>
      rw [List.set_cons_succ, ee, ee, ih k (by simpa using h), show (k + 1) * 2 = k * 2 + 1 + 1 from by omega]
      rfl
set_option linter.unusedSimpArgs false in
set_option maxRecDepth 100000 in
set_option maxHeartbeats 4000000 in
theorem joinFiles_walk (size : Nat) (fa : Option Addr) (fc : Nat) (L : List FoundL) (x2 x3 x4 : Value) (sa : Option Addr) (sc : Nat) (SS : List (List UInt8)) (base : Nat) (h32 : size ≤ 32) (hL6 : L.length ≤ 6) (hK1 : 1 ≤ SS.length) (hK : SS.length ≤ 60) (hsum : (L.map fun f => (fSlices f.body).length).sum = SS.length) (hsc : SS.length ≤ sc)
    (hSS : ∀ t ∈ SS, t.length = size) (hlong : ∀ f ∈ L, fLong f.body ≤ (fSlices f.body).length * size ∧ (fName f.body).length ≤ 100) (w : World) (hFR : FRow w base fa L) (hS : Rd w sa (strV SS)) :
    Calls Tryz.prog 90 #[.agg #[.int .i64 (size : Int), .slice fa L.length fc, x2, x3, x4], .slice sa SS.length sc] w fun e w' => ∃ v, e = .returned v ∧ w'.ownsRow w.heap.size 62 2 v L.length (filesV (joinL (L.map descF) SS)) ∧ Below w.heap.size w w' := by
  obtain ⟨i0, hi, hz0, hz1, hz2⟩ := info_parts Tryz.infoFile
  have hbk := Blk.new w #[.int .i64 (size : Int), .slice fa L.length fc, x2, x3, x4] 92
  have hb1 : Below w.heap.size w (w.alloc (.cells #[.int .i64 (size : Int), .slice fa L.length fc, x2, x3, x4] 92)) := (Below.refl _ _).alloc (Nat.le_refl _) _
  obtain ⟨W1, hW1⟩ : ∃ x, x = w.alloc (.cells #[.int .i64 (size : Int), .slice fa L.length fc, x2, x3, x4] 92) := ⟨_, rfl⟩
  rw [← hW1] at hbk hb1
  have hs1 : W1.heap.size = w.heap.size + 1 := by rw [hW1]; simp
  have q1 := (hbk 1 _ rfl).1
  obtain ⟨n, hn⟩ : ∃ x, x = L.length := ⟨_, rfl⟩
  rw [← hn] at q1 hW1 hL6 ⊢
  have HW1 := hid_of hW1
  have HB1 := hid_of hb1
  have HBK := hid_of hbk
  have HN := hid_of hn
  clear hbk hb1 hn
  obtain ⟨JJ, hJJ⟩ : ∃ x, x = joinL (L.map descF) SS := ⟨_, rfl⟩
  have hJl : JJ.length = n := by rw [hJJ, join_len, List.length_map, HN.out]
  have hJat : ∀ k (h : k < L.length), JJ[k]? = some (fName L[k].body, ((SS.drop (offS L k)).take (fSlices L[k].body).length).flatten.take (fLong L[k].body)) := fun k h => by rw [hJJ]; exact join_at L SS k h
  rw [← hJJ]
  obtain ⟨K, hKK⟩ : ∃ x, x = SS.length := ⟨_, rfl⟩
  have hoff := fun k => offS_le L k
  rw [hsum, ← hKK] at hoff
  have HJAT := hid_of hJat
  have HKK := hid_of hKK
  have HOFF := hid_of hoff
  have HSS := hid_of hSS
  have HLONG := hid_of hlong
  rw [← hKK] at hK1 hK hsc ⊢
  clear hJJ hJat hKK hoff hSS hlong hsum
  rw [hW1] at q1
  clear hW1
  go_enter Tryz.func90, Tryz.ntmps90
  go_wp2_with (at_make; refine wpList_make_full _ rfl _ _ 22 rfl (w.heap.size + 1) 62 i0 (.agg #[.string ByteArray.empty, .string ByteArray.empty]) 2 Tryz.underlying22 hi hz0 hz1 .i64 .i64 _ _ n rfl rfl rfl rfl ?c1 ?c2 ?c3 ?_)
  case c1 => omega
  case c2 => unfold maxLen; omega
  intro w2 hown2 hg2
  have hb2 : Below (w.heap.size + 1) W1 w2 := by
    rw [HW1.out]
    exact (Below.refl _ _).grown hg2 (by simp) (by intro k hk; cases hk)
  obtain ⟨g, hg⟩ : ∃ g, g = w.heap.size + 1 := ⟨_, rfl⟩
  rw [← hg] at hown2 hb2 hs1 ⊢
  have hq := (HBK.out.touch (Touch.of_below (by rw [hs1]; exact hb2 : Below W1.heap.size W1 w2) []) (by simp)) 1 _ rfl
  have q2 := hq.1
  rw [← HN.out] at q2
  have HO2 := hid_of hown2
  have HB2 := hid_of hb2
  have HG := hid_of hg
  clear hown2 hg2 hb2 hg hq q1
  have hstay : ∀ W, Below g W1 W → FRow W base fa L ∧ Rd W sa (strV SS) ∧ Below w.heap.size w W := fun W hW => by
    have hb := Below.next HB1.out (by rw [hs1]; exact hW : Below W1.heap.size W1 W)
    exact ⟨hFR.later hb, hS.later (Nat.le_refl _) hb, hb⟩
  have HSTAY := hid_of hstay
  obtain ⟨sb, so, hsa, _⟩ := hS 0 (.string (str (SS[0]'(by have := HKK.out; omega)))) (by have := HKK.out; simp [strV, show 0 < SS.length from by omega])
  subst hsa
  have hrest : ∀ W (o cnt : Nat), Below g W1 W → Rd W (some ⟨sb, so + o, none⟩) (strV ((SS.drop o).take cnt)) := fun W o cnt hW k u hk => by
    have hlt : k < cnt := by
      have := (List.getElem?_eq_some_iff.1 hk).1
      simp [strV] at this
      omega
    obtain ⟨b', o', e, hc⟩ := (HSTAY.out W hW).2.1 (o + k) u (by
      rw [← hk]
      unfold strV
      rw [List.getElem?_map, List.getElem?_map, List.getElem?_take, if_pos hlt, List.getElem?_drop])
    cases e
    exact ⟨sb, so + o, rfl, by rw [Nat.add_assoc]; exact hc⟩
  have HREST := hid_of hrest
  clear hstay hrest hFR hS
  go_wp2_with fail
  go_loopw [1, 16] (fun sv i wr => ∃ (k o q : Nat) (zs : List FileL), k ≤ n ∧ o ≤ K ∧ i = .int .i64 (k : Int) ∧ sv = .slice (some ⟨sb, q, none⟩) (K - o) (sc - o) ∧ Hid (q = so + o ∨ K - o = 0) ∧ Hid (o = offS L k) ∧ wr.ownsRow g 62 2 (.slice (some ⟨g, 0, none⟩) n n) n (filesV zs) ∧ Below g W1 wr ∧ Hid (zs.take k = JJ.take k))
    (fun _ i _ => n - (intOf i).toNat)
  case atStart => exact ⟨0, 0, so, List.replicate n ([], []), by omega, by omega, rfl, rfl, hid_of (.inl rfl), hid_of rfl, by rw [files_none]; exact HO2.out, HB2.out, hid_of (by simp)⟩
  case round =>
    clear HO2 HB2 q2
    obtain ⟨k, o, q, zs, hk, hoK, rfl, rfl, hq, ho, hown, hbl, hzs⟩ := hrel
    obtain ⟨hfr, _, hbw⟩ := HSTAY.out wr hbl
    have hszr := hbl.size
    have hszr' : g ≤ wr.heap.size := by omega
    have hzl : zs.length = n := by have := hown.1; rw [filesV_length] at this; omega
    by_cases hlt : k < n
    · have hltL : k < L.length := by rw [← HN.out]; exact hlt
      obtain ⟨bb, fo, fsa, fsc, rfl, e0, e1, e2, e3, e4, _⟩ := hfr k hltL
      have hlg := HLONG.out _ (List.getElem_mem hltL)
      have hjk := HJAT.out k hltL
      rw [← ho.out] at hjk
      have hon : o + (fSlices L[k].body).length ≤ K := by
        have := HOFF.out (k + 1)
        rw [offS_next L k hltL, ← ho.out] at this
        exact this
      have hon2 : o + (fSlices L[k].body).length = offS L (k + 1) := by rw [offS_next L k hltL, ← ho.out]
      obtain ⟨ct, hct⟩ : ∃ x, x = (fSlices L[k].body).length := ⟨_, rfl⟩
      obtain ⟨nm, hnm⟩ : ∃ x, x = fName L[k].body := ⟨_, rfl⟩
      obtain ⟨lg, hlgE⟩ : ∃ x, x = fLong L[k].body := ⟨fLong L[k].body, rfl⟩
      obtain ⟨nb, hnb⟩ : ∃ x, x = fNumber L[k].body := ⟨fNumber L[k].body, rfl⟩
      obtain ⟨hh, hhh⟩ : ∃ x, x = fHash L[k].body := ⟨fHash L[k].body, rfl⟩
      rw [← hct] at hon hon2 hjk e4 hlg
      rw [← hnm] at e1 hjk hlg
      rw [← hlgE] at e2 hjk hlg
      rw [← hnb] at e0
      rw [← hhh] at e3
      clear hct hnm hlgE hnb hhh
      have hfl : ((SS.drop o).take ct).flatten.length = ct * size := by
        rw [flat_len (size := size) _ (fun t ht => HSS.out t (List.mem_of_mem_drop (List.mem_of_mem_take ht))), List.length_take, List.length_drop, ← HKK.out]
        congr 1
        omega
      have htl : ((SS.drop o).take ct).length = ct := by rw [List.length_take, List.length_drop, ← HKK.out]; omega
      have hcs : ct * size ≤ 1920 := Nat.le_trans (Nat.mul_le_mul (show ct ≤ 60 by omega) h32) (by decide)
      have hgl : g < wr.heap.size := by
        have := hown.lt g rfl
        exact this.2
      have hbx := Blk.new wr #[.int .i64 (nb : Int), .string (str nm), .int .i64 (lg : Int), .int .u64 (hh : Int), .slice fsa ct fsc] 143
      have hba : Below wr.heap.size wr (wr.alloc (.cells #[.int .i64 (nb : Int), .string (str nm), .int .i64 (lg : Int), .int .u64 (hh : Int), .slice fsa ct fsc] 143)) := (Below.refl _ _).alloc (Nat.le_refl _) _
      obtain ⟨Wb, hWb⟩ : ∃ x, x = wr.alloc (.cells #[.int .i64 (nb : Int), .string (str nm), .int .i64 (lg : Int), .int .u64 (hh : Int), .slice fsa ct fsc] 143) := ⟨_, rfl⟩
      rw [← hWb] at hbx hba
      have hTS : ∀ W, Touch [g] Wb W → W.cell? ⟨wr.heap.size, 1, none⟩ = some (.string (str nm)) ∧ W.cell? ⟨wr.heap.size, 2, none⟩ = some (.int .i64 (lg : Int)) ∧ Touch [g] Wb W := fun W hW => by
        have h := hbx.touch hW (by simp; omega)
        exact ⟨(h 1 _ rfl).1, (h 2 _ rfl).1, hW⟩
      have hTB : ∀ W, Touch [g] Wb W → Below g W1 W := fun W hW => (hbl.trans (hba.mono hszr')).trans (hW.below (Nat.le_trans hszr' hba.size) (by simp))
      have hJo := fun W (hW : Touch [g] Wb W) => Join_walk ((SS.drop o).take ct) (some ⟨sb, q, none⟩) (sc - o) lg (by rw [htl]; omega) (by rw [htl]; omega) (by rw [hfl]; omega) (by rw [hfl]; exact hlg.1) W (by
        rcases hq.out with e | e
        · rw [e]; exact HREST.out W o ct (hTB W hW)
        · have h0 : (SS.drop o).take ct = [] := List.eq_nil_of_length_eq_zero (by rw [htl]; omega)
          rw [h0]
          exact fun k u hk => by simp [strV] at hk)
      rw [htl] at hJo
      have hCl := fun W => Clone_walk nm (by omega) W
      obtain ⟨dt, hdt⟩ : ∃ x, x = ((SS.drop o).take ct).flatten.take lg := ⟨_, rfl⟩
      rw [← hdt] at hJo hjk
      have hrow : ∀ W, Touch [] Wb W → W.ownsRow g 62 2 (.slice (some ⟨g, 0, none⟩) n n) n (filesV zs) := fun W hW => owns_touch (ownsRow_later hown (Nat.le_refl _) hba) hW (by simp)
      have hcl2 : ∀ W, Touch [] Wb W → W.cell? ⟨g, k * 2, none⟩ = some (.string (str (zs[k]'(by omega)).1)) ∧ W.cell? ⟨g, k * 2 + 1, none⟩ = some (.string (str (zs[k]'(by omega)).2)) ∧ W.frozen? ⟨g, k * 2, none⟩ = false ∧ W.frozen? ⟨g, k * 2 + 1, none⟩ = false := fun W hW => by
        have h := hrow W hW
        have hv := filesV_get zs k (by omega)
        rw [Nat.mul_comm] at hv
        exact ⟨by rw [h.cellAt (k * 2) (by omega)]; exact hv.1, by rw [h.cellAt (k * 2 + 1) (by omega)]; exact hv.2, h.frozenAt _, h.frozenAt _⟩
      have hnew : ∀ W, Touch [] Wb W → ((W.setCell ⟨g, k * 2, none⟩ (.string (str nm))).setCell ⟨g, k * 2 + 1, none⟩ (.string (str dt))).ownsRow g 62 2 (.slice (some ⟨g, 0, none⟩) n n) n (filesV (zs.set k (nm, dt))) := fun W hW => by
        have h := ((hrow W hW).stored (k * 2) (.string (str nm))).1
        have h2 := (h.stored (k * 2 + 1) (.string (str dt))).1
        rw [filesV_set zs k (nm, dt) (by omega)]
        exact h2
      have hnx := take_set_next zs JJ k (nm, dt) (by omega) hjk hzs.out
      have HTS := hid_of hTS
      have HTB := hid_of hTB
      have HJO := hid_of hJo
      have HCL := hid_of hCl
      have HC2 := hid_of hcl2
      have HNEW := hid_of hnew
      have HNX := hid_of hnx
      have HON2 := hid_of hon2
      have HWB := hid_of hWb
      clear hTS hTB hJo hCl hrow hcl2 hnew hnx hon2 hWb hbx hba hdt hjk hown hbl hzs hfr hbw hfl htl hcs
      go_wp2_with fail
      rw [← HWB.out]
      have hT0 : Touch [] Wb Wb := Touch.refl _ _
      go_region_held (fun W => W.cell? ⟨wr.heap.size, 1, none⟩ = some (.string (str nm)) ∧ W.cell? ⟨wr.heap.size, 2, none⟩ = some (.int .i64 (lg : Int)) ∧ Touch [g] Wb W)
        (first | assumption | exact HTS.out _ ((Touch.refl [g] Wb).drew) | exact HTS.out _ (hT6.mono (by simp)) | exact HTS.out _ (hT7.mono (by simp)) | exact HTS.out _ (((hT7.mono (by simp)).setCell (x := ⟨g, k * 2, none⟩) (.inl (by simp)) _).setCell (x := ⟨g, k * 2 + 1, none⟩) (.inl (by simp)) _))
        (first | (go_at_call 116; refine (HCL.out _).mono ?_; rintro e w6 ⟨rfl, hb6⟩; have hT6 : Touch [] Wb w6 := hT0.drew.andThen (Touch.of_below hb6 []) (by simp); clear hb6)
               | (go_at_call 117; refine (HJO.out _ (hT6.mono (by simp))).mono ?_; rintro e w7 ⟨rfl, hb7⟩; have hT7 : Touch [] Wb w7 := hT6.andThen (Touch.of_below hb7 []) (by simp); obtain ⟨y0, y1, y2, y3⟩ := HC2.out w7 hT7; clear hb7))
      all_goals
        have S1 := hid_of (HNEW.out w7 hT7)
        have S2 := hid_of (HTB.out _ (((hT7.mono (by simp) : Touch [g] Wb w7).setCell (x := ⟨g, k * 2, none⟩) (.inl (by simp)) (.string (str nm))).setCell (x := ⟨g, k * 2 + 1, none⟩) (.inl (by simp)) (.string (str dt))))
        clear y0 y1 y2 y3 hT6 hT7 hT0 HNEW HTB HC2 HCL HJO HTS
        go_wp2_with fail
        refine ⟨⟨k + 1, o + ct, if sc - o = ct then q else q + ct, zs.set k (nm, dt), by omega, by omega, by go_num, ?_, ?_, HON2, S1.out, S2.out, HNX⟩, by simp [intOf]; omega⟩
        · rw [Nat.sub_sub, Nat.sub_sub]
          split <;> rfl
        · refine hid_of ?_
          split
          · right; omega
          · rcases hq.out with e | e
            · left; omega
            · right; omega
    · obtain rfl : k = n := by omega
      have hze : zs = JJ := by
        have h := hzs.out
        rw [← hzl, List.take_length, hzl, List.take_of_length_le (by rw [hJl]; exact Nat.le_refl _)] at h
        exact h
      rw [hze] at hown
      have HO := hid_of hown
      have HBW := hid_of hbw
      have hgw : w.heap.size ≤ g := by have := HG.out; omega
      clear hown hbw hzs hze hfr hbl
      go_wp2_with fail
      go_ret
      exact ⟨_, rfl, ownsRow_base hgw HO.out, HBW.out⟩
end Go.Proofs.YtonjphollmdicaaGreatDoor
namespace Go.Proofs.YtonjphollmdicaaGreatDoor
open Go.ChangeShapes Go.WideShapes Go.ChangeAt Go.RowKit
open Go.Maps
theorem hashOk_iff : ∀ (ds : List DescL) (fl : List FileL), hashOk ds fl = true ↔ ∀ (k : Nat) (d : DescL) (f : FileL), ds[k]? = some d → fl[k]? = some f → hashL f.2 = d.hash
  | [], _ => by simp [hashOk]
  | d :: r, [] => by simp [hashOk]
  | d :: r, f :: l => by
    have ih := hashOk_iff r l
    simp only [hashOk, Bool.and_eq_true, beq_iff_eq]
    constructor
    · rintro ⟨h1, h2⟩ k d' f' hd hf
      cases k with
      | zero => simp at hd hf; subst hd hf; exact h1
      | succ k => exact ih.1 h2 k d' f' hd hf
    · intro h
      exact ⟨h 0 d f rfl rfl, ih.2 (fun k d' f' hd hf => h (k + 1) d' f' hd hf)⟩
theorem hashOk_no {ds : List DescL} {fl : List FileL} {k : Nat} {d : DescL} {f : FileL} (hd : ds[k]? = some d) (hf : fl[k]? = some f) (h : hashL f.2 ≠ d.hash) : hashOk ds fl = false := by
  cases hc : hashOk ds fl with
  | false => rfl
  | true => exact absurd ((hashOk_iff ds fl).1 hc k d f hd hf) h
def RepRes (r : List FileL ⊕ Nat) (w : World) (e : Ending) (w' : World) : Prop := Below w.heap.size w w' ∧ match r with
  | .inr n => e = .returned (.tuple #[.slice none 0 0, .int .i64 (n : Int)])
  | .inl fl => ∃ v, e = .returned (.tuple #[v, .int .i64 0]) ∧ w'.ownsRow w.heap.size 62 2 v fl.length (filesV fl)
def repairQ (size : Nat) (L : List FoundL) (hs : List Nat) (Q : List (List UInt8)) (es : List (Nat × List UInt8)) : List FileL ⊕ Nat :=
  if es.length < hs.length - presN Q hs then .inr 5 else if hashOk (L.map descF) (joinL (L.map descF) (allS size hs.length (pieceI Q hs) es)) then .inl (joinL (L.map descF) (allS size hs.length (pieceI Q hs) es)) else .inr 6
theorem row_full {w : World} {base : Nat} {e : TypeId} {sz : Nat} {v : Value} {n : Nat} {xs : List Value} (h : w.ownsRow base e sz v n xs) : ∃ a cap, v = .slice a n cap ∧ (0 < n → n ≤ cap) ∧ Rd w a xs := by
  obtain ⟨a, cap, e, hr⟩ := row_rd h
  refine ⟨a, cap, e, fun h0 => ?_, hr⟩
  rcases h.2 with ⟨rfl, h1⟩ | ⟨g, c, cur, rfl, _, _, hc, _⟩
  · omega
  · cases e
    exact hc
set_option linter.unusedSimpArgs false in
set_option maxRecDepth 100000 in
set_option maxHeartbeats 4000000 in
theorem repair_walk (size : Nat) (fa : Option Addr) (fc : Nat) (L : List FoundL) (hs : List Nat) (N c : Nat) (D : DataW Value) (Q : List (List UInt8)) (ea : Option Addr) (es : List (Nat × List UInt8)) (ec : Nat) (base : Nat) (hsz : 2 ≤ size) (hsz2 : size ≤ 32) (hev : size % 2 = 0) (hL6 : L.length ≤ 6) (hn1 : 1 ≤ hs.length) (hn : hs.length ≤ 60) (hec : es.length ≤ ec)
    (hhs : hs = sliceHs L) (he : ∀ e ∈ es, e.1 < 20 ∧ e.2.length = size) (hQ : ∀ i p, pieceI Q hs i = some p → p.length = size)
    (hlong : ∀ f ∈ L, fLong f.body ≤ (fSlices f.body).length * size ∧ (fName f.body).length ≤ 100 ∧ fLong f.body ≤ 400) (w : World) (hFR : FRow w base fa L) (hF : FoundM w N c D hs Q) (hE : Rd w ea (exV es)) :
    Calls Tryz.prog 47 #[.agg #[.int .i64 (size : Int), .slice fa L.length fc, .int .i64 (hs.length : Int), .map (some N), .slice ea es.length ec]] w fun e w' => RepRes (repairQ size L hs Q es) w e w' := by
  have hbk := Blk.new w #[.int .i64 (size : Int), .slice fa L.length fc, .int .i64 (hs.length : Int), .map (some N), .slice ea es.length ec] 92
  have hb1 : Below w.heap.size w (w.alloc (.cells #[.int .i64 (size : Int), .slice fa L.length fc, .int .i64 (hs.length : Int), .map (some N), .slice ea es.length ec] 92)) := (Below.refl _ _).alloc (Nat.le_refl _) _
  obtain ⟨W1, hW1⟩ : ∃ x, x = w.alloc (.cells #[.int .i64 (size : Int), .slice fa L.length fc, .int .i64 (hs.length : Int), .map (some N), .slice ea es.length ec] 92) := ⟨_, rfl⟩
  rw [← hW1] at hbk hb1
  have hs1 : W1.heap.size = w.heap.size + 1 := by rw [hW1]; simp
  have hall : ∀ W, Below W1.heap.size W1 W → Blk W w.heap.size [.int .i64 (size : Int), .slice fa L.length fc, .int .i64 (hs.length : Int), .map (some N), .slice ea es.length ec] ∧ FoundM W N c D hs Q ∧ Rd W ea (exV es) ∧ FRow W base fa L ∧ Below w.heap.size w W := by
    intro W hW
    have hb := Below.next hb1 hW
    exact ⟨hbk.touch (Touch.of_below hW []) (by simp), ⟨ownsMap_touch hF.own (Touch.of_below hb []) (by simp), hF.at', hF.keys⟩, hE.later (Nat.le_refl _) hb, hFR.later hb, hb⟩
  obtain ⟨K, hK⟩ : ∃ x, x = hs.length := ⟨_, rfl⟩
  obtain ⟨n, hnL⟩ : ∃ x, x = L.length := ⟨_, rfl⟩
  have hlo := fun W (hW : Below W1.heap.size W1 W) => lost_walk (size : Int) (.slice fa L.length fc) (.slice ea es.length ec) N c D hs Q (by omega) W (hall W hW).2.1
  have hal := fun (hlost : hs.length - presN Q hs ≤ es.length) W (hW : Below W1.heap.size W1 W) => allSlices_walk size (.slice fa L.length fc) hs N c D Q ea es ec hsz hsz2 hn1 hn hec he hQ hlost W (hall W hW).2.1 (hall W hW).2.2.1
  have hSl : (allS size hs.length (pieceI Q hs) es).length = hs.length := by simp [allS]
  have hsumL : (L.map fun f => (fSlices f.body).length).sum = hs.length := by
    rw [hhs]
    unfold sliceHs
    rw [List.length_flatMap]
  have hSs : ∀ t ∈ allS size hs.length (pieceI Q hs) es, t.length = size := by
    intro t ht
    unfold allS at ht
    obtain ⟨i, _, rfl⟩ := List.mem_map.1 ht
    exact madeS_len size hs.length (pieceI Q hs) es hev hQ i
  have hjf := fun W sa sc (hW : Below W1.heap.size W1 W) (hsc : hs.length ≤ sc) (hS : Rd W sa (strV (allS size hs.length (pieceI Q hs) es))) => joinFiles_walk size fa fc L (.int .i64 (hs.length : Int)) (.map (some N)) (.slice ea es.length ec) sa sc (allS size hs.length (pieceI Q hs) es) base hsz2 hL6 (by rw [hSl]; exact hn1) (by rw [hSl]; exact hn) (by rw [hSl]; exact hsumL) (by rw [hSl]; exact hsc) hSs (fun f hf => ⟨(hlong f hf).1, (hlong f hf).2.1⟩) W (hall W hW).2.2.2.1 hS
  rw [hSl] at hjf
  have hJl : (joinL (L.map descF) (allS size hs.length (pieceI Q hs) es)).length = L.length := by rw [join_len, List.length_map]
  obtain ⟨m, hm⟩ : ∃ x, x = hs.length - presN Q hs := ⟨_, rfl⟩
  obtain ⟨SS, hSS⟩ : ∃ x, x = allS size hs.length (pieceI Q hs) es := ⟨_, rfl⟩
  obtain ⟨JJ, hJJ⟩ : ∃ x, x = joinL (L.map descF) SS := ⟨_, rfl⟩
  have hrq : repairQ size L hs Q es = if es.length < m then .inr 5 else if hashOk (L.map descF) JJ then .inl JJ else .inr 6 := by unfold repairQ; rw [← hm, ← hSS, ← hJJ]
  rw [← hSS, ← hJJ] at hjf hJl
  rw [← hSS] at hal
  rw [← hm] at hlo hal
  rw [← hK] at hlo hal hjf hall hW1 hn hn1 ⊢
  rw [← hnL] at hlo hal hjf hall hW1 hJl hL6 ⊢
  have HA := hid_of hall
  have HW1 := hid_of hW1
  have HLO := hid_of hlo
  have HAL := hid_of hal
  have HJF := hid_of hjf
  have HRQ := hid_of hrq
  have HNL := hid_of hnL
  have HJJ := hid_of hJJ
  have HLG := hid_of hlong
  have hm60 : m ≤ 60 := by omega
  clear hall hW1 hlo hal hjf hrq hnL hJJ hbk hb1 hFR hF hE hSl hSs hsumL hSS hm hhs hQ he hlong hK
  go_enter Tryz.func47, Tryz.ntmps47
  go_wp2_with fail
  rw [← HW1.out]
  have HS : Hid (∀ W, Below W1.heap.size W1 W → W.cell? ⟨w.heap.size, 0, none⟩ = some (.int .i64 (size : Int)) ∧ W.cell? ⟨w.heap.size, 1, none⟩ = some (.slice fa n fc) ∧ W.cell? ⟨w.heap.size, 2, none⟩ = some (.int .i64 (K : Int)) ∧ W.cell? ⟨w.heap.size, 3, none⟩ = some (.map (some N)) ∧ W.cell? ⟨w.heap.size, 4, none⟩ = some (.slice ea es.length ec) ∧ Below W1.heap.size W1 W) := hid_of (fun W hW => by
    have h := (HA.out W hW).1
    exact ⟨(h 0 _ rfl).1, (h 1 _ rfl).1, (h 2 _ rfl).1, (h 3 _ rfl).1, (h 4 _ rfl).1, hW⟩)
  have hT0 : Below W1.heap.size W1 W1.drew := (Below.refl _ _).drew
  have HE5 : Hid (es.length < m → ∀ W, Below W1.heap.size W1 W → RepRes (repairQ size L hs Q es) w (.returned (.tuple #[.slice none 0 0, .int .i64 5])) W) := hid_of (fun h W hW => by
    rw [HRQ.out, if_pos h]
    exact ⟨(HA.out W hW).2.2.2.2, rfl⟩)
  by_cases hlost : es.length < m
  · have e1 : ¬ ((m : Int) ≤ (es.length : Int)) := by omega
    have HE6 := hid_of (HE5.out hlost)
    clear HE5 HRQ
    go_region_held (fun W => W.cell? ⟨w.heap.size, 0, none⟩ = some (.int .i64 (size : Int)) ∧ W.cell? ⟨w.heap.size, 1, none⟩ = some (.slice fa n fc) ∧ W.cell? ⟨w.heap.size, 2, none⟩ = some (.int .i64 (K : Int)) ∧ W.cell? ⟨w.heap.size, 3, none⟩ = some (.map (some N)) ∧ W.cell? ⟨w.heap.size, 4, none⟩ = some (.slice ea es.length ec) ∧ Below W1.heap.size W1 W)
      (first | assumption | exact HS.out _ hT0 | exact HS.out _ (Below.next hT0 hb6))
      (first | (go_at_call 84; refine (HLO.out _ hT0).mono ?_; rintro e w6 ⟨rfl, hb6⟩))
    have hb06 := Below.next hT0 hb6
    clear hb6 HS HLO HAL HJF
    go_wp2_with fail
    go_ret2
    exact HE6.out _ hb06
  · clear HE5
    rw [if_neg hlost] at HRQ
    have e1 : (m : Int) ≤ (es.length : Int) := by omega
    go_region_held (fun W => W.cell? ⟨w.heap.size, 0, none⟩ = some (.int .i64 (size : Int)) ∧ W.cell? ⟨w.heap.size, 1, none⟩ = some (.slice fa n fc) ∧ W.cell? ⟨w.heap.size, 2, none⟩ = some (.int .i64 (K : Int)) ∧ W.cell? ⟨w.heap.size, 3, none⟩ = some (.map (some N)) ∧ W.cell? ⟨w.heap.size, 4, none⟩ = some (.slice ea es.length ec) ∧ Below W1.heap.size W1 W)
      (first | assumption | exact HS.out _ hT0 | exact HS.out _ (Below.next hT0 hb6))
      (first | (go_at_call 84; refine (HLO.out _ hT0).mono ?_; rintro e w6 ⟨rfl, hb6⟩))
    have hb06 := Below.next hT0 hb6
    clear hb6 HLO
    go_wp2_with fail
    have hT6 : Below W1.heap.size W1 w6.drew := hb06.drew
    clear hT0
    go_region_held (fun W => W.cell? ⟨w.heap.size, 0, none⟩ = some (.int .i64 (size : Int)) ∧ W.cell? ⟨w.heap.size, 1, none⟩ = some (.slice fa n fc) ∧ W.cell? ⟨w.heap.size, 2, none⟩ = some (.int .i64 (K : Int)) ∧ W.cell? ⟨w.heap.size, 3, none⟩ = some (.map (some N)) ∧ W.cell? ⟨w.heap.size, 4, none⟩ = some (.slice ea es.length ec) ∧ Below W1.heap.size W1 W)
      (first | assumption | exact HS.out _ hT6 | exact HS.out _ hT7 | exact HS.out _ hT8)
      (first | (go_at_call 91; refine (HAL.out (by omega) _ hT6).mono ?_; rintro e w7 ⟨v7, rfl, ho7, hb7⟩; obtain ⟨a7, c7, rfl, hc7, hr7⟩ := row_full ho7; have hT7 : Below W1.heap.size W1 w7 := Below.next hT6 hb7; have hq7 : K ≤ c7 := hc7 (by omega); have HR7 := hid_of hr7; clear ho7 hb7 hr7 hc7)
             | (go_at_call 90; refine (HJF.out _ a7 c7 hT7 hq7 HR7.out).mono ?_; rintro e w8 ⟨v8, rfl, ho8, hb8⟩; obtain ⟨a8, c8, rfl, hr8⟩ := row_rd ho8; have hT8 : Below W1.heap.size W1 w8 := Below.next hT7 hb8; have HO8 := hid_of ho8; have HR8 := hid_of hr8; have hs78 := hT7.size; clear ho8 hb8 hr8))
    obtain ⟨_, z1, _⟩ := HS.out w8 hT8
    have hJs : ∀ f ∈ JJ, f.2.length ≤ 400 := by
      intro f hf
      obtain ⟨k, hk, rfl⟩ := List.mem_iff_getElem.1 hf
      have hk' : k < L.length := by rw [← HNL.out, ← hJl]; exact hk
      have h := join_at L SS k hk'
      rw [← HJJ.out, List.getElem?_eq_getElem hk] at h
      rw [Option.some.inj h]
      have := (HLG.out _ (List.getElem_mem hk')).2.2
      rw [List.length_take]
      omega
    have HJS := hid_of hJs
    have HT8 := hid_of hT8
    clear hT6 hT7 hT8 hq7 HR7 HAL HJF HS hb06 hJs
    go_wp2_with fail
    go_loopw [20] (fun i wr => ∃ k : Nat, k ≤ n ∧ i = .int .i64 (k : Int) ∧ Below w8.heap.size w8 wr ∧ Hid (∀ (j : Nat) (d : DescL) (f : FileL), j < k → (L.map descF)[j]? = some d → JJ[j]? = some f → hashL f.2 = d.hash))
      (fun i _ => n - (intOf i).toNat)
    case atStart => exact ⟨0, by omega, rfl, Below.refl _ _, hid_of (fun j d f h => by omega)⟩
    case round =>
      obtain ⟨k, hk, rfl, hbl, hok⟩ := hrel
      have hT := Below.next HT8.out hbl
      obtain ⟨_, _, _, hfr, hbw⟩ := HA.out wr hT
      by_cases hlt : k < n
      · have hltL : k < L.length := by rw [← HNL.out]; exact hlt
        have hltJ : k < JJ.length := by omega
        obtain ⟨bb, fo, fsa, fsc, rfl, e0, e1', e2, e3, e4, _⟩ := hfr k hltL
        obtain ⟨jb, jo, rfl, d1, d2⟩ := fileCells HR8.out (Nat.le_refl _) hbl k hltJ
        have hdl := HJS.out _ (List.getElem_mem hltJ)
        have hDk : (L.map descF)[k]? = some (descF L[k]) := by rw [List.getElem?_map, List.getElem?_eq_getElem hltL]; rfl
        have hJk : JJ[k]? = some JJ[k] := List.getElem?_eq_getElem hltJ
        have hdh : (descF L[k]).hash = fHash L[k].body := by unfold descF; with_reducible rfl
        obtain ⟨nm, hnm⟩ : ∃ x, x = fName L[k].body := ⟨_, rfl⟩
        obtain ⟨lg, hlgE⟩ : ∃ x, x = fLong L[k].body := ⟨fLong L[k].body, rfl⟩
        obtain ⟨nb, hnb⟩ : ∃ x, x = fNumber L[k].body := ⟨fNumber L[k].body, rfl⟩
        obtain ⟨hh, hhh⟩ : ∃ x, x = fHash L[k].body := ⟨fHash L[k].body, rfl⟩
        obtain ⟨ct, hct⟩ : ∃ x, x = (fSlices L[k].body).length := ⟨_, rfl⟩
        obtain ⟨dt, hdt⟩ : ∃ x, x = JJ[k].2 := ⟨_, rfl⟩
        rw [← hnb] at e0
        rw [← hnm] at e1'
        rw [← hlgE] at e2
        rw [← hhh] at e3 hdh
        rw [← hct] at e4
        rw [← hdt] at d2 hdl
        have l1 := World.block_lt_of_cell? wr _ d2
        have y2 : ∀ o, (wr.alloc o).cell? ⟨jb, jo + k * 2 + 1, none⟩ = some (.string (str dt)) := fun o => (((Below.refl wr.heap.size wr).alloc (Nat.le_refl _) o).cell l1).trans d2
        have HDT := hid_of hdt
        have HHS := hid_of (fun W => Hash_l dt (by omega) W)
        have hba := hbl.alloc hbl.size (.cells #[.int .i64 (nb : Int), .string (str nm), .int .i64 (lg : Int), .int .u64 (hh : Int), .slice fsa ct fsc] 143)
        have hTa := Below.next HT8.out hba
        have HBA := hid_of hba
        have HBW := hid_of (HA.out _ hTa).2.2.2.2
        obtain ⟨hv, hhv⟩ : ∃ x, x = hashL dt := ⟨hashL dt, rfl⟩
        rw [← hhv] at HHS
        have HHV := hid_of hhv
        have HDH := hid_of hdh
        have HDK := hid_of hDk
        have HJK := hid_of hJk
        clear hnm hlgE hnb hhh hct hdt hba hTa hbl hbw hT hfr hhv hdh hDk hJk d1 d2 l1
        by_cases heq : hv = hh
        · subst heq
          go_wp2_with fail
          go_quiet ((go_at_call 92; refine (HHS.out _).mono ?_; rintro e w' ⟨rfl, rfl⟩; exact ⟨rfl, _, rfl⟩))
          go_wp2_with fail
          refine ⟨⟨k + 1, by omega, by go_num, rdrewN HBA.out _, hid_of (fun j d f hj hd hf => ?_)⟩, by simp [intOf]; omega⟩
          by_cases hjk : j < k
          · exact hok.out j d f hjk hd hf
          · obtain rfl : j = k := by omega
            rw [HDK.out] at hd
            rw [HJK.out] at hf
            cases hd
            cases hf
            rw [HDH.out, ← HDT.out, HHV.out]
        · have hno : hashOk (L.map descF) JJ = false := hashOk_no HDK.out HJK.out (by rw [HDH.out, ← HDT.out, ← HHV.out]; exact heq)
          have HE6 : Hid (∀ W, Below w.heap.size w W → RepRes (repairQ size L hs Q es) w (.returned (.tuple #[.slice none 0 0, .int .i64 6])) W) := hid_of (fun W hW => by
            rw [HRQ.out, hno]
            exact ⟨hW, rfl⟩)
          have hne : ((hv : Int) = (hh : Int)) = False := eq_false (by omega)
          clear hno
          go_wp2_with fail
          go_quiet ((go_at_call 92; refine (HHS.out _).mono ?_; rintro e w' ⟨rfl, rfl⟩; exact ⟨rfl, _, rfl⟩))
          go_wp2_with fail
          go_ret2
          exact HE6.out _ (rdrewN HBW.out _)
      · obtain rfl : k = n := by omega
        have hyes : hashOk (L.map descF) JJ = true := (hashOk_iff _ _).2 (fun j d f hd hf => hok.out j d f (by
          have := (List.getElem?_eq_some_iff.1 hf).1
          omega) hd hf)
        have hfin : RepRes (repairQ size L hs Q es) w (.returned (.tuple #[.slice a8 k c8, .int .i64 0])) wr := by
          rw [HRQ.out, if_pos hyes]
          refine ⟨hbw, _, rfl, ?_⟩
          rw [hJl]
          have h := ownsRow_later HO8.out (Nat.le_refl _) hbl
          refine ownsRow_base ?_ h
          omega
        have HFIN := hid_of hfin
        clear hfin hyes hok hfr hbw hT hbl
        go_wp2_with fail
        go_ret2
        exact HFIN.out
end Go.Proofs.YtonjphollmdicaaGreatDoor
