import Derived.Test.YtonjphollmdicaaGreatDoorB02
import Derived.Test.YtonjphollmdicaaGreatDoorB03
import Derived.Test.YtonjphollmdicaaGreatDoorB28
set_option maxRecDepth 100000
set_option maxHeartbeats 4000000
set_option linter.unusedSimpArgs false
namespace Go.Proofs.YtonjphollmdicaaGreatDoor
open Go.ChangeShapes Go.WideShapes Go.ChangeAt Go.RowKit
open Go.Maps
theorem Tryz.zeroPiece (w : World) : (zeroValue 189).run Tryz.prog w = .ok (.agg #[.string ⟨#[]⟩]) w := by kernel_rfl
def Cq (b : Nat) (f : Ak) : List (List UInt8) := (List.range f.2.length).map (CP f.2 b)
def AG (b : Nat) (fs : List Ak) : List (List UInt8) := fs.flatMap (Cq b)
def BV (Q : List (List UInt8)) (h : Nat) : Option (List UInt8) := Q.find? fun p => AC p == h
structure FState (W : World) (M N base : Nat) (hs : List Nat) (Q : List (List UInt8)) : Prop where
 wanted : ∃ c D V, c ≤ 1000 ∧ Groups W M base c D V (fun h => if (BV Q h).isSome then [] else occ hs hs.length h) ∧ ∀ h j, (V h).ownBlock = some j → j < N
 found : ∃ c D, c ≤ 1000 * Q.length ∧ W.ownsMap Tryz.prog 3 CK N c D ∧ (∀ i, i < hs.length → atM D (Bo i) = (BV Q (hs.getD i 0)).map fun p => .agg #[.string (str p)]) ∧ (∀ kl, Maps.has D kl = true → ∃ i, i < hs.length ∧ kl = Bo i)
theorem FState.touch {W W' : World} {M N base : Nat} {hs : List Nat} {Q : List (List UInt8)} (h : FState W M N base hs Q) (ht : Touch [] W W') : FState W' M N base hs Q := by
 obtain ⟨⟨c, D, V, hc, hG, hV⟩, c2, D2, hc2, hm2, e1, e2⟩ := h
 exact ⟨⟨c, D, V, hc, ⟨hG.own.kept ht.grown_none (by simp), hG.at', fun h => Ac (hG.row h) ht (by simp), hG.apart⟩, hV⟩, c2, D2, hc2, hm2.kept ht.grown_none (by simp), e1, e2⟩
theorem FState.touch' {W W' : World} {M N base : Nat} {hs : List Nat} {Q : List (List UInt8)} (h : FState W M N base hs Q) {L : List Nat} (ht : Touch L W W') (hM : M ∉ L) (hN : N ∉ L) (hL : ∀ x ∈ L, x < base) : FState W' M N base hs Q := by
 obtain ⟨⟨c, D, V, hc, hG, hV⟩, c2, D2, hc2, hm2, e1, e2⟩ := h
 have hk : ∀ {k : TypeId} {b n : Nat} {D : DataW Value}, W.ownsMap Tryz.prog k CK b n D → b ∉ L → W'.ownsMap Tryz.prog k CK b n D := fun hm hb => by
  have hblk := ht.block _ hm.lt hb
  obtain ⟨es, clock, hb, r⟩ := hm
  exact ⟨es, clock, hblk.trans hb, r⟩
 exact ⟨⟨c, D, V, hc, ⟨hk hG.own hM, hG.at', fun h => Ac (hG.row h) ht hL, hG.apart⟩, hV⟩, c2, D2, hc2, hk hm2 hN, e1, e2⟩
theorem Fj (Q : List (List UInt8)) (p : List UInt8) (h : Nat) : BV (Q ++ [p]) h = (BV Q h).or (if AC p = h then some p else none) := by
 unfold BV
 rw [List.find?_append, List.find?_cons, List.find?_nil]
 by_cases c : AC p = h
 ·rw [if_pos c, beq_iff_eq.2 c]
 ·rw [if_neg c, beq_eq_false_iff_ne.2 c]
theorem PA (fs : List Ak) (b : Nat) (hs : List Nat) (a ah : Option Addr) (cap ch : Nat) (hb2 : 2 ≤ b) (hb1 : b ≤ 32) (hn : fs.length ≤ 12) (hf : ∀ f ∈ fs, f.2.length ≤ 400) (hhn : hs.length ≤ 1000) (hh : ∀ h ∈ hs, h < P64) (w : World) (hrd : Rd w a (As fs)) (hrh : Rd w ah (Cz hs)) :
  Calls Tryz.prog 81 #[.slice a fs.length cap, .int .i64 (b : Int), .slice ah hs.length ch] w fun e w' => ∃ N, e = .returned (.map (some N)) ∧ w.heap.size ≤ N ∧ FState w' w.heap.size N (w.heap.size + 1) hs (AG b fs) ∧ Below w.heap.size w w' := by
 have HRD := Aa hrd
 have HF := Aa hf
 have hmm := @run_makeMap Tryz.prog
 have hNum := Aa (Jj hs ah ch hhn hh w hrh)
 have hap : ∀ l : List Ak, (∀ f ∈ l, f.2.length ≤ 400) → (AG b l).length ≤ 400 * l.length := by
  intro l
  induction l with
  | nil => intro _; simp [AG]
  | cons x l ih =>
   intro h
   have h1 := ih (fun f hf => h f (List.mem_cons_of_mem _ hf))
   have h2 := h x (List.mem_cons_self ..)
   simp only [AG, List.flatMap_cons, List.length_append, List.length_cons] at h1 ⊢
   have : (Cq b x).length = x.2.length := by simp [Cq]
   omega
 have HAP0 : Hid (∀ k, (AG b (fs.take k)).length ≤ 4800) := Aa (fun k => by
  have := hap (fs.take k) (fun f h => hf f (List.mem_of_mem_take h))
  rw [List.length_take] at this
  omega)
 clear hrd hf hrh hap
 go_enter Tryz.func81, Tryz.ntmps81
 go_wp2_with fail
 refine hNum.out.mono ?_
 rintro e w1 ⟨n, D, V, rfl, hnl, hG, hb1'⟩
 have HG := Aa hG
 have HB1 := Aa hb1'
 clear hG hb1'
 go_wp2_with fail
 obtain ⟨N, hN⟩ : ∃ N, N = w1.heap.size := ⟨_, rfl⟩
 have hNw : w.heap.size + 1 ≤ N := by have := HG.out.own.lt; omega
 have hst0 : FState (w1.alloc (Obj.map #[] 0)) w.heap.size N (w.heap.size + 1) hs [] := by
  refine ⟨⟨n, D, V, by omega, ⟨HG.out.own.alloc _, HG.out.at', fun h => (HG.out.row h).alloc _, HG.out.apart⟩, fun h j hj => by rw [hN]; exact ((HG.out.row h).lt j hj).2⟩, ⟨0, .map [], by omega, ?_, fun i _ => by rw [EE]; rfl, fun kl hk => by simp [Maps.has] at hk⟩⟩
  rw [hN]
  exact World.ownsMap_made (H := Value) w1 Tryz.prog 3 CK
 have hb0 : Below w.heap.size w (w1.alloc (Obj.map #[] 0)) := HB1.out.alloc (by omega) _
 have hs0 : N + 1 ≤ (w1.alloc (Obj.map #[] 0)).heap.size := by simp [hN]
 rw [← hN]
 obtain ⟨W1, hW1⟩ : ∃ W, W = w1.alloc (Obj.map #[] 0) := ⟨_, rfl⟩
 rw [← hW1] at hst0 hb0 hs0 ⊢
 have HS0 := Aa hst0
 have HB0 := Aa hb0
 clear hst0 hb0 hW1 hN HG HB1 hmm hNum
 go_loopw [22] (fun i W => ∃ k : Nat, k ≤ fs.length ∧ i = .int .i64 (k : Int) ∧ FState W w.heap.size N (w.heap.size + 1) hs (AG b (fs.take k)) ∧ N + 1 ≤ W.heap.size ∧ Below w.heap.size w W)
  (fun i _ => fs.length - (intOf i).toNat)
 case atStart => exact ⟨0, by omega, rfl, HS0.out, hs0, HB0.out⟩
 case round =>
  clear HS0 HB0 hs0
  obtain ⟨k, hk, rfl, hst, hsN, hbl⟩ := hrel
  by_cases hlt : k < fs.length
  ·obtain ⟨bb, off, rfl, c0, c1⟩ := Bk HRD.out (Nat.le_refl _) hbl k hlt
   have hfl := HF.out fs[k] (List.getElem_mem hlt)
   have hsn : AG b (fs.take (k + 1)) = AG b (fs.take k) ++ Cq b fs[k] := by unfold AG; rw [Ap fs k hlt, List.flatMap_append]; simp
   obtain ⟨f, hf⟩ : ∃ f, f = fs[k] := ⟨_, rfl⟩
   rw [← hf] at c0 c1 hfl hsn
   have HSN := Aa hsn
   have HFL := Aa hfl
   have HB := Aa hbl
   have HST := Aa hst
   have kf := Blk.new wr #[Value.string (str f.1), Value.string (str f.2)] 62
   have KF := Aa kf
   clear hf hsn hbl hst kf
   have wb : IntKind.i64.wrap ((b : Int) - 1) = ((b - 1 : Nat) : Int) := by rw [IntKind.wrap_i64]; omega
   have hRep := Aa (fun W => Ig (b - 1) W (by omega))
   have e2 : str f.2 ++ str (List.replicate (b - 1) 0) = str (GR f.2 b) := by rw [KE, GR]
   have hds := Ae f.2
   have hno : (9223372036854775807 < f.2.length + (b - 1)) = False := by simp; omega
   have z2 : (str (List.replicate (b - 1) 0)).size = b - 1 := by rw [Ae, List.length_replicate]
   have hS : ∀ X : World, Touch [] (wr.alloc (Obj.cells #[Value.string (str f.1), Value.string (str f.2)] 62)) X → X.cell? ⟨wr.heap.size, 1, none⟩ = some (.string (str f.2)) := fun X hX => (KF.out.touch hX (by simp) 1 _ rfl).1
   have HS := Aa hS
   clear hS
   go_wp2_with fail
   refine wp_region_held_drew (S := fun X => X.cell? ⟨wr.heap.size, 1, none⟩ = some (.string (str f.2))) (by kernel_rfl) (HS.out _ (Touch.refl _ _).drew) (fun hHeld => ?_)
   refine tY 0 26 ?_
   refine tY 1 27 ?_
   refine tY 2 28 ?_
   refine tY 3 29 ?_
   refine Ah (i := 4) (by kernel_rfl) (fun K o ho hK => ?_)
   simp only [gA, gB, gC, gE] at ho
   subst ho
   go_simp
   refine (hRep.out _).mono ?_
   rintro e w2 ⟨rfl, hb2⟩
   have ht2 := ((Touch.refl [] (wr.alloc (Obj.cells #[Value.string (str f.1), Value.string (str f.2)] 62))).drew.trans (Touch.of_below hb2 []))
   refine hK.out _ _ ?_ (fun hHeld => ?_)
   focus exact HS.out _ ht2
   clear hK K
   try simp only [Act.put, sA, sB, sC]
   refine tY 5 31 ?_
   refine tY 6 11 ?_
   refine wpAnyH_done (by kernel_rfl) ?_ _
   have hst2 := (HST.out.touch ((Touch.refl [] wr).alloc (Obj.cells #[Value.string (str f.1), Value.string (str f.2)] 62))).touch ht2
   have hbl2 : Below w.heap.size w w2 := (HB.out.alloc (by omega) (Obj.cells #[Value.string (str f.1), Value.string (str f.2)] 62)).trans (ht2.below (by simp; omega) (by simp))
   have hs2 : wr.heap.size + 1 ≤ w2.heap.size := by have := ht2.size; simpa using this
   have hk2 := KF.out.touch ht2 (by simp)
   have hfill := Ae (GR f.2 b)
   have hfl2 : (GR f.2 b).length = f.2.length + (b - 1) := by simp [GR]
   have pcl : (Cq b f).length = f.2.length := by simp [Cq]
   obtain ⟨g, hg⟩ : ∃ g, g = wr.heap.size := ⟨_, rfl⟩
   rw [← hg] at hk2 hs2 hHeld ⊢
   have hgN : N + 1 ≤ g := by omega
   have HST2 := Aa hst2
   have HB2 := Aa hbl2
   have HK2 := Aa hk2
   clear hst2 hbl2 hk2 HS hb2 ht2 hRep e2 hno z2 wb KF HB HST hg c0 c1 hHeld
   have d1 := (HK2.out 1 _ rfl).1
   go_wp2_with fail
   clear d1
   go_loopw [35] (fun i W => ∃ j : Nat, j ≤ f.2.length ∧ i = .int .i64 (j : Int) ∧ FState W w.heap.size N (w.heap.size + 1) hs (AG b (fs.take k) ++ (Cq b f).take j) ∧ g + 1 ≤ W.heap.size ∧ Below w.heap.size w W)
    (fun i _ => f.2.length - (intOf i).toNat)
   case atStart => exact ⟨0, by omega, rfl, by simpa using HST2.out, hs2, HB2.out⟩
   case round =>
    clear HST2 HB2 HK2 hs2
    obtain ⟨j, hj, rfl, hst, hsg, hbl⟩ := hrel
    by_cases hlt2 : j < f.2.length
    ·have ex : (str (GR f.2 b)).extract j (j + b) = str (CP f.2 b j) := by rw [AB, Nat.add_sub_cancel_left]; rfl
     have hpl : (CP f.2 b j).length ≤ 32 := by unfold CP; rw [List.length_take]; omega
     have hpj : (Cq b f).take (j + 1) = (Cq b f).take j ++ [CP f.2 b j] := by
      rw [Ap _ j (by omega)]
      simp [Cq]
     have wj : IntKind.i64.wrap ((j : Int) + (b : Int)) = (j : Int) + (b : Int) := by rw [IntKind.wrap_i64]; omega
     have g1 : (0 : Int) ≤ (j : Int) := by omega
     have g2 : (j : Int) ≤ (j : Int) + (b : Int) := by omega
     have g3 : (j : Int) + (b : Int) ≤ ((f.2.length + (b - 1) : Nat) : Int) := by omega
     have g4 : ((j : Int) + (b : Int)).toNat = j + b := by omega
     obtain ⟨p, hp⟩ : ∃ p, p = CP f.2 b j := ⟨_, rfl⟩
     rw [← hp] at ex hpl hpj
     have hH := Aa (fun W => FR p (by omega) W)
     obtain ⟨q, hq⟩ : ∃ q, q = AC p := ⟨_, rfl⟩
     rw [← hq] at hH
     have HQ := Aa hq
     have HPJ := Aa hpj
     have HST := Aa hst
     have HB := Aa hbl
     clear hq hp hpj hst hbl
     go_wp2_with fail
     refine (hH.out _).mono ?_
     rintro e w' ⟨rfl, hw'⟩
     have hw' := hw'.symm
     subst hw'
     have hst1 := HST.out.touch ((Touch.refl [] wr).alloc (Obj.cells #[Value.string (str p)] 189))
     have hb1 := HB.out.alloc (by omega) (Obj.cells #[Value.string (str p)] 189)
     have hk1 := Blk.new wr #[Value.string (str p)] 189
     have hs1 : g + 1 ≤ (wr.alloc (Obj.cells #[Value.string (str p)] 189)).heap.size := by simp; omega
     obtain ⟨pb, hpb⟩ : ∃ pb, pb = wr.heap.size := ⟨_, rfl⟩
     have hpN : N + 1 ≤ pb := by omega
     rw [← hpb] at hk1 ⊢
     obtain ⟨W1, hW1⟩ : ∃ W, W = wr.alloc (Obj.cells #[Value.string (str p)] 189) := ⟨_, rfl⟩
     rw [← hW1] at hst1 hb1 hk1 hs1 ⊢
     obtain ⟨Q, hQ⟩ : ∃ Q, Q = AG b (fs.take k) ++ (Cq b f).take j := ⟨_, rfl⟩
     have hQ' : AG b (fs.take k) ++ (Cq b f).take (j + 1) = Q ++ [p] := by rw [HPJ.out, hQ, List.append_assoc]
     rw [← hQ] at hst1
     have HQ' := Aa hQ'
     have hQl : Q.length ≤ 6000 := by
      rw [hQ, List.length_append]
      have h1 := HAP0.out k
      have h0 := HFL.out
      have h2 : ((Cq b f).take j).length ≤ j := List.length_take_le ..
      omega
     have HQL := Aa hQl
     clear hQl
     obtain ⟨⟨c1, D1, V1, hc1, hG1, hV1⟩, c2, D2, hc2, hm2, q1, q2⟩ := hst1
     have hq64 : q < P64 := by rw [HQ.out]; exact Fy _
     have hkey := Lp q hq64
     have hlk := FJ hG1.own Tryz.lawU64 Tryz.underlying185 (Tryz.zeroInts W1) hkey
     rw [hG1.at' q hq64] at hlk
     have hVq := hV1 q
     obtain ⟨na, nc, hv, hrdn⟩ := AE (hG1.row q)
     rw [hv] at hlk hVq
     obtain ⟨nums, hnums⟩ : ∃ x, x = (if (BV Q q).isSome then [] else occ hs hs.length q) := ⟨_, rfl⟩
     have hnl : nums.length ≤ 1000 := by rw [hnums]; split; simp; exact Nat.le_trans (Qc _ _ _) hhn
     simp only [← hnums] at hlk hrdn hv hVq
     have hnm : ∀ i, i ∈ nums → i < hs.length := by
      intro i hi
      rw [hnums] at hi
      split at hi
      ·simp at hi
      ·simp [occ] at hi; exact hi.1
     have HNM := Aa hnums
     have HV := Aa hv
     have HG1 := Aa hG1
     have HM2 := Aa hm2
     have Q1 := Aa q1
     have Q2 := Aa q2
     have HB1 := Aa hb1
     have HK1 := Aa hk1
     have HV1 := Aa hV1
     have HVQ := Aa hVq
     have HRN := Aa hrdn
     have HNI := Aa hnm
     clear hpb hW1 hQ hQ' hG1 hm2 q1 q2 hb1 hk1 HST HB HPJ hnums hv hV1 hVq hrdn hnm ex g1 g2 g3 g4 wj
     go_wp2_with fail
     clear hlk
     go_loopw [52] (fun i W => ∃ (t c : Nat) (D : DataW Value), t ≤ nums.length ∧ i = .int .i64 (t : Int) ∧ c ≤ 1000 * Q.length + t ∧ Hid (W.ownsMap Tryz.prog 3 CK N c D) ∧
      Hid (∀ i, i < hs.length → atM D (Bo i) = if i ∈ nums.take t then some (.agg #[.string (str p)]) else atM D2 (Bo i)) ∧ Hid (∀ kl, Maps.has D kl = true → ∃ i, i < hs.length ∧ kl = Bo i) ∧ Touch [N] W1 W)
      (fun i _ => nums.length - (intOf i).toNat)
     case atStart => exact ⟨0, c2, D2, by omega, rfl, by omega, HM2, Aa (fun i _ => by simp), Q2, Touch.refl _ _⟩
     case round =>
      clear HM2 Q2
      obtain ⟨t, c, D, ht, rfl, hc, HM, QA, QB, hto⟩ := hrel
      by_cases hlt3 : t < nums.length
      ·obtain ⟨b2, o2, rfl, d0⟩ := HRN.out t (.int .i64 (nums[t] : Int)) (by simp [Dz, hlt3])
       have hb2l := World.block_lt_of_cell? W1 _ d0
       have hb2N : b2 ≠ N := by
        have := HVQ.out b2 (by simp [Value.ownBlock])
        omega
       have d1 : wr.cell? ⟨b2, o2 + t, none⟩ = some (.int .i64 (nums[t] : Int)) := by rw [hto.cell (x := ⟨b2, o2 + t, none⟩) hb2l (by simpa using hb2N)]; exact d0
       have hkp := HK1.out.touch hto (by simp; omega)
       have d2 := (hkp 0 _ rfl).1
       have hi1 := HNI.out nums[t] (List.getElem_mem hlt3)
       have hts := Ap nums t hlt3
       obtain ⟨i1, hi⟩ : ∃ x, x = nums[t] := ⟨_, rfl⟩
       rw [← hi] at d1 hi1 hts
       have HTS := Aa hts
       have HT := Aa hto
       have hkey2 := Di i1 (by omega)
       have HK2 := Aa hkey2
       have hQl : Q.length ≤ 6000 := HQL.out
       clear hi hts d0 hto hkp hkey2 hb2l hb2N
       go_wp2_with (at_mapUpdate; refine Dy _ rfl _ _ _ 89 rfl 3 189 Tryz.lawInt Tryz.underlying89 N c D rfl HM.out (by unfold maxLen; omega) _ _ _ rfl rfl HK2.out ?_)
       intro w7 hm7 ht7
       have M7 := Aa hm7
       have T7 := Aa (HT.out.trans ht7)
       have QA7 : Hid (∀ i, i < hs.length → atM (D.put (Bo i1) (.held (.agg #[.string (str p)]))) (Bo i) = if i ∈ nums.take (t + 1) then some (.agg #[.string (str p)]) else atM D2 (Bo i)) := Aa (fun i hi => by
        rw [HTS.out]
        by_cases e : i = i1
        ·subst e
         rw [Ej HM.out.isMap (JK _), if_pos (by simp)]
        ·rw [Dg _ (GD e), QA.out i hi]
         simp [e])
       have QB7 : Hid (∀ kl, Maps.has (D.put (Bo i1) (.held (.agg #[.string (str p)]))) kl = true → ∃ i, i < hs.length ∧ kl = Bo i) := Aa (fun kl hk => by
        by_cases e : kl = Bo i1
        ·exact ⟨i1, hi1, e⟩
        ·rw [Maps.has_put_other e] at hk
         exact QB.out kl hk)
       clear hm7 ht7 HT HM QA QB
       go_wp2_with fail
       exact ⟨⟨t + 1, c + 1, _, by omega, by go_num, by omega, M7, QA7, QB7, T7.out⟩, by simp [intOf]; omega⟩
      ·obtain rfl : t = nums.length := by omega
       rw [List.take_length] at QA
       have hG' : Groups wr w.heap.size (w.heap.size + 1) c1 D1 V1 (fun h => if (BV Q h).isSome then [] else occ hs hs.length h) := by
        refine ⟨HG1.out.own.kept hto.grown (by simp; omega), HG1.out.at', fun h => AQ (HG1.out.row h) hto (fun j hj hm => ?_), HG1.out.apart⟩
        have := HV1.out h j hj
        simp at hm
        omega
       have HG' := Aa hG'
       have HKEY := Aa hkey
       have BT := Aa (HB1.out.trans (hto.below (by omega) (by simp; omega)))
       have hsz : g + 1 ≤ wr.heap.size := by have := hto.size; omega
       clear hG' hkey hto HB1 HG1
       go_wp2_with (at_delete; refine wpList_delete_own _ rfl _ _ 185 63 rfl 31 Tryz.lawU64 Tryz.underlying185 CK w.heap.size c1 D1 rfl HG'.out.own _ _ rfl HKEY.out ?_)
       intro w8 hm8 hmt
       have ht8 := Touch.of_grown hmt.grown
       have hst8 : FState w8 w.heap.size N (w.heap.size + 1) hs (AG b (fs.take k) ++ (Cq b f).take (j + 1)) := by
        rw [HQ'.out]
        refine ⟨⟨c1, D1.del (KH q), fun h => if h = q then .slice none 0 0 else V1 h, hc1, ⟨hm8, fun h hh => ?_, fun h => ?_, fun h h' j hne hj hj' => ?_⟩, fun h j hj => ?_⟩, c, D, by rw [List.length_append, List.length_singleton]; omega, HM.out.kept hmt.grown (by simp; omega), fun i hi => ?_, QB.out⟩
        ·by_cases e : h = q
         ·subst e
          rw [K0, if_pos rfl]
          rfl
         ·rw [Ky _ (Nb e), if_neg e]
          exact HG'.out.at' h hh
        ·by_cases e : h = q
         ·subst e
          rw [if_pos rfl, Fj, if_pos HQ.out.symm, if_pos (by simp)]
          exact World.ownsRow_nil _ _ _ _
         ·rw [if_neg e, Fj, if_neg (show ¬ AC p = h from fun x => e (by rw [← x, ← HQ.out])), Option.or_none]
          exact Ac (HG'.out.row h) ht8 (by simp)
        ·by_cases e : h = q
         ·rw [if_pos e] at hj; simp [Value.ownBlock] at hj
         ·by_cases e' : h' = q
          ·rw [if_pos e'] at hj'; simp [Value.ownBlock] at hj'
          ·rw [if_neg e] at hj
           rw [if_neg e'] at hj'
           exact HG'.out.apart h h' j hne hj hj'
        ·dsimp only at hj
         by_cases e : h = q
         ·rw [if_pos e] at hj; simp [Value.ownBlock] at hj
         ·rw [if_neg e] at hj
          exact HV1.out h j hj
        ·rw [QA.out i hi, Q1.out i hi, Fj, HNM.out, ← HQ.out]
         by_cases e : hs.getD i 0 = q
         ·rw [e]
          cases hfq : BV Q q with
          | some r => simp
          | none =>
           have : i ∈ occ hs hs.length q := by simp only [occ, List.mem_filter, List.mem_range, beq_iff_eq]; exact ⟨hi, e⟩
           simp [this]
         ·have : i ∉ (if (BV Q q).isSome = true then [] else occ hs hs.length q) := by
           intro hm
           split at hm
           ·simp at hm
           ·simp only [occ, List.mem_filter, List.mem_range, beq_iff_eq] at hm; exact e hm.2
          rw [if_neg this, if_neg (Ne.symm e), Option.or_none]
       have HST8 := Aa hst8
       have HB8 := Aa (BT.out.trans (ht8.below (by omega) (by simp)))
       have hs8 : g + 1 ≤ w8.heap.size := by have := ht8.size; omega
       clear hst8 ht8 hmt hm8 BT HG' HM QA QB
       go_wp2_with fail
       exact ⟨⟨j + 1, by omega, by go_num, HST8.out, hs8, HB8.out⟩, by simp [intOf]; omega⟩
    ·obtain rfl : j = f.2.length := by omega
     have hst' : FState wr w.heap.size N (w.heap.size + 1) hs (AG b (fs.take (k + 1))) := by
      rw [HSN.out]
      rw [← pcl, List.take_length] at hst
      exact hst
     have HST := Aa hst'
     have HB := Aa hbl
     clear hst hst' hbl
     go_wp2_with fail
     exact ⟨⟨k + 1, by omega, by go_num, HST.out, by omega, HB.out⟩, by simp [intOf]; omega⟩
  ·obtain rfl : fs.length = k := by omega
   rw [List.take_length] at hst
   have HST := Aa hst
   have HB := Aa hbl
   clear hst hbl
   go_wp2_with fail
   go_ret
   exact ⟨N, rfl, by omega, HST.out, HB.out⟩
end Go.Proofs.YtonjphollmdicaaGreatDoor
