import Derived.Test.YtonjphollmdicaaGreatDoorB02
import Derived.Test.YtonjphollmdicaaGreatDoorB04
import Derived.Test.YtonjphollmdicaaGreatDoorB14
namespace Go.Proofs.YtonjphollmdicaaGreatDoor
open Go.ChangeShapes Go.WideShapes Go.ChangeAt Go.RowKit
open Go.Maps
theorem Tryz.lawU64 : Keyed Tryz.prog 63 := int_keyed Tryz.underlying63
theorem Tryz.zeroInts (w : World) : (zeroValue 31).run Tryz.prog w = .ok (.slice none 0 0) w := by kernel_rfl
theorem Tryz.infoI64' : (Tryz.prog.info? 3).map (fun i => (i.zero, i.size, i.bytes)) = some (some (.int .i64 0), 1, 8) := by kernel_rfl
def hashK (h : Nat) : Lit := .int .u64 (h : Int)
theorem hashK_key (h : Nat) (hh : h < P64) : keyOf Tryz.prog 63 (.int .u64 (h : Int)) = some (hashK h) := keyOf_int_mk Tryz.underlying63 (WalkArith.wf_u64 (by unfold P64 at hh; omega))
theorem hashK_ne {n m : Nat} (h : n ≠ m) : hashK n ≠ hashK m := fun e => by
 unfold hashK at e
 simp only [Lit.int.injEq, true_and] at e
 exact h (by exact_mod_cast e)
theorem hashK_isKey (n : Nat) : WideAt.IsKeyLit (hashK n) := by trivial
structure Groups (w : World) (M base n : Nat) (D : DataW Value) (V : Nat → Value) (L : Nat → List Nat) : Prop where
 own : w.ownsMap Tryz.prog 63 rawE M n D
 at' : ∀ h, h < P64 → (atM D (hashK h)).getD (.slice none 0 0) = V h
 row : ∀ h, w.ownsRow base 3 1 (V h) (L h).length (natsV (L h))
 apart : ∀ h h' j, h ≠ h' → (V h).ownBlock = some j → (V h').ownBlock ≠ some j
def occ (hs : List Nat) (k h : Nat) : List Nat := (List.range k).filter fun i => hs.getD i 0 == h
theorem occ_succ (hs : List Nat) (k : Nat) (h : Nat) : occ hs (k + 1) h = if hs.getD k 0 = h then occ hs k h ++ [k] else occ hs k h := by
 unfold occ
 rw [List.range_succ, List.filter_append, List.filter_cons]
 by_cases c : hs.getD k 0 = h
 ·rw [if_pos c, beq_iff_eq.2 c]; rfl
 ·rw [if_neg c, beq_eq_false_iff_ne.2 c]; simp
theorem occ_len (hs : List Nat) (k h : Nat) : (occ hs k h).length ≤ k := by
 unfold occ
 exact Nat.le_trans (List.length_filter_le _ _) (by simp)
set_option linter.unusedSimpArgs false in
set_option maxRecDepth 100000 in
set_option maxHeartbeats 2000000 in
theorem numbersOf_walk (hs : List Nat) (a : Option Addr) (cap : Nat) (hn : hs.length ≤ 1000) (hh : ∀ h ∈ hs, h < P64) (w : World) (hrd : Rd w a (u64V hs)) :
  Calls Tryz.prog 111 #[.slice a hs.length cap] w fun e w' => ∃ n D V, e = .returned (.map (some w.heap.size)) ∧ n ≤ hs.length ∧ Groups w' w.heap.size (w.heap.size + 1) n D V (occ hs hs.length) ∧ Below w.heap.size w w' := by
 obtain ⟨i0, hi, hz0, hz1, hz2⟩ := info_parts Tryz.infoI64'
 have HRD := hid_of hrd
 have HH := hid_of hh
 have hmm := @run_makeMap Tryz.prog
 clear hrd hh
 go_enter Tryz.func111, Tryz.ntmps111
 go_wp2_with fail
 have hm0 := World.ownsMap_made (H := Value) w Tryz.prog 63 rawE
 have HM0 := hid_of hm0
 clear hm0 hmm
 go_loopw [9] (fun i W => ∃ (k n : Nat) (D : DataW Value) (V : Nat → Value), k ≤ hs.length ∧ i = .int .i64 (k : Int) ∧ n ≤ k ∧ Groups W w.heap.size (w.heap.size + 1) n D V (occ hs k) ∧ w.heap.size + 1 ≤ W.heap.size ∧ Below w.heap.size w W)
  (fun i _ => hs.length - (intOf i).toNat)
 case atStart =>
  refine ⟨0, 0, _, fun _ => .slice none 0 0, by omega, rfl, Nat.le_refl _, ⟨HM0.out, fun h _ => by rw [atM_empty]; rfl, fun h => World.ownsRow_nil _ _ _ _, fun _ _ _ _ e => by simp [Value.ownBlock] at e⟩, by simp, (Below.refl _ _).alloc (Nat.le_refl _) _⟩
 case round =>
  clear HM0
  obtain ⟨k, n, D, V, hk, rfl, hnk, hG, hszw, hbl⟩ := hrel
  by_cases hlt : k < hs.length
  ·obtain ⟨bb, off, rfl, hc0⟩ := HRD.out k (.int .u64 (hs[k] : Int)) (by simp [u64V, hlt])
   have d1 : wr.cell? ⟨bb, off + k, none⟩ = some (.int .u64 (hs[k] : Int)) := by rw [hbl.cell (World.block_lt_of_cell? w _ hc0)]; exact hc0
   have hx64 := HH.out hs[k] (List.getElem_mem hlt)
   obtain ⟨x, hx⟩ : ∃ x, x = hs[k] := ⟨_, rfl⟩
   rw [← hx] at d1 hx64
   have HX := hid_of hx
   have HG := hid_of hG
   have HB := hid_of hbl
   have hkey := hashK_key x hx64
   have hlk := own_look hG.own Tryz.lawU64 Tryz.underlying185 (Tryz.zeroInts wr) hkey
   rw [hG.at' x hx64] at hlk
   have HKEY := hid_of hkey
   have hol := occ_len hs k x
   have hrow := hG.row x
   have HROW := hid_of hrow
   have hlM := hG.own.lt
   clear hc0 hx hG hbl hkey hrow
   go_wp2_with (at_builtin; refine wpList_append_own_at _ rfl (.tmp 18) (.tmp 20) 31 rfl (w.heap.size + 1) 3 i0 (.int .i64 0) 1 8 Tryz.underlying31 hi hz0 hz1 hz2 rfl (by decide) _ _ _ rfl (HROW.out.alloc _) ⟨wr.heap.size, 0, none⟩ 1 1 [.int .i64 (k : Int)] rfl rfl (cell_one_new _ _ _) ?c2 ?c3 ?c4 ?c5 ?_)
   case c2 =>
    intro u hu
    simp at hu
    subst hu
    rfl
   case c3 => unfold maxLen; omega
   case c4 => omega
   case c5 => simp; omega
   intro v6 w6 hown6 hg6 _ hloc
   have hvb : ∀ h j, (V h).ownBlock = some j → w.heap.size + 1 ≤ j ∧ j < wr.heap.size := fun h j hj => (HG.out.row h).lt j hj
   have hm6 : w6.ownsMap Tryz.prog 63 rawE w.heap.size n D := (HG.out.own.alloc (Obj.cells #[.int .i64 (k : Int)] 3)).kept hg6 (fun e => by have := (hvb x _ e.symm).1; omega)
   have hb6 : Below w.heap.size w w6 := (HB.out.alloc (by omega) (Obj.cells #[.int .i64 (k : Int)] 3)).trans ⟨hg6.os, hg6.tape, hg6.output, hg6.size, fun j hj => hg6.block j (by simp; omega) (fun e => by have := (hvb x _ e.symm).1; omega)⟩
   have ht6 : Touch (blkL (V x)) wr w6 := ((Touch.refl (blkL (V x)) wr).alloc (Obj.cells #[.int .i64 (k : Int)] 3)).trans (Touch.of_row hg6)
   have hs6 : wr.heap.size + 1 ≤ w6.heap.size := by have := hg6.size; simpa using this
   have M6 := hid_of hm6
   have B6 := hid_of hb6
   have T6 := hid_of ht6
   have O6 := hid_of hown6
   have HLOC := hid_of hloc
   have HVB := hid_of hvb
   clear hown6 hg6 hloc hm6 hb6 ht6 hvb HB HROW hlk
   go_wp2_with (at_mapUpdate; refine wpList_store _ rfl _ _ _ 185 rfl 63 31 Tryz.lawU64 Tryz.underlying185 w.heap.size n D rfl M6.out (by unfold maxLen; omega) _ _ _ rfl rfl HKEY.out ?_)
   intro w7 hm7 ht7
   have hfin : Groups w7 w.heap.size (w.heap.size + 1) (n + 1) (D.put (hashK x) (.held v6)) (fun h => if h = x then v6 else V h) (occ hs (k + 1)) := by
    have hgx : hs.getD k 0 = x := by rw [HX.out]; simp [hlt]
    refine ⟨hm7, fun h hh => ?_, fun h => ?_, fun h h' j hne hj hj' => ?_⟩
    ·by_cases c : h = x
     ·subst c
      rw [atM_put_same HG.out.own.isMap (hashK_isKey _), if_pos rfl]
      rfl
     ·rw [atM_put_other _ (hashK_ne c), if_neg c]
      exact HG.out.at' h hh
    ·rw [occ_succ, hgx]
     by_cases c : h = x
     ·subst c
      rw [if_pos rfl, if_pos rfl, List.length_append]
      have e : natsV (occ hs k h ++ [k]) = natsV (occ hs k h) ++ [.int .i64 (k : Int)] := by simp [natsV]
      rw [e]
      exact owns_touch O6.out ht7 (by simp)
     ·rw [if_neg c, if_neg (Ne.symm c)]
      refine owns_touch (owns_touch' (HG.out.row h) T6.out (fun j hj hm => ?_)) ht7 (by simp)
      exact HG.out.apart h x j c hj (blkL_mem.1 hm)
    ·by_cases c : h = x
     ·subst c
      rw [if_pos rfl] at hj
      rw [if_neg (Ne.symm hne)] at hj'
      rcases HLOC.out with e | e
      ·rw [hj] at e
       exact HG.out.apart h h' j hne e.symm hj'
      ·rw [hj] at e
       cases e
       have := (HVB.out h' _ hj').2
       omega
     ·rw [if_neg c] at hj
      by_cases c' : h' = x
      ·subst c'
       rw [if_pos rfl] at hj'
       rcases HLOC.out with e | e
       ·rw [hj'] at e
        exact HG.out.apart h h' j hne hj e.symm
       ·rw [hj'] at e
        cases e
        have := (HVB.out h _ hj).2
        omega
      ·rw [if_neg c'] at hj'
       exact HG.out.apart h h' j hne hj hj'
   have FIN := hid_of hfin
   have B7 := hid_of (B6.out.trans (ht7.below (by omega) (by simp)))
   have hs7 : w.heap.size + 1 ≤ w7.heap.size := by have := ht7.size; omega
   clear hfin hm7 ht7 M6 B6 T6 O6 HLOC HVB HG
   go_wp2_with fail
   exact ⟨⟨k + 1, n + 1, _, _, by omega, by go_num, by omega, FIN.out, hs7, B7.out⟩, by simp [intOf]; omega⟩
  ·obtain rfl : hs.length = k := by omega
   have HG := hid_of hG
   have HB := hid_of hbl
   clear hG hbl
   go_wp2_with fail
   go_ret
   exact ⟨n, D, V, rfl, hnk, HG.out, HB.out⟩
end Go.Proofs.YtonjphollmdicaaGreatDoor
namespace Go.Proofs.YtonjphollmdicaaGreatDoor
open Go.ChangeShapes Go.WideShapes Go.ChangeAt Go.RowKit
open Go.Maps
theorem Tryz.zeroPiece (w : World) : (zeroValue 189).run Tryz.prog w = .ok (.agg #[.string ⟨#[]⟩]) w := by kernel_rfl
def piecesL (b : Nat) (f : FileL) : List (List UInt8) := (List.range f.2.length).map (pieceAt f.2 b)
def allPieces (b : Nat) (fs : List FileL) : List (List UInt8) := fs.flatMap (piecesL b)
def foundIn (Q : List (List UInt8)) (h : Nat) : Option (List UInt8) := Q.find? fun p => hashL p == h
structure FState (W : World) (M N base : Nat) (hs : List Nat) (Q : List (List UInt8)) : Prop where
 wanted : ∃ c D V, c ≤ 1000 ∧ Groups W M base c D V (fun h => if (foundIn Q h).isSome then [] else occ hs hs.length h) ∧ ∀ h j, (V h).ownBlock = some j → j < N
 found : ∃ c D, c ≤ 1000 * Q.length ∧ W.ownsMap Tryz.prog 3 rawE N c D ∧ (∀ i, i < hs.length → atM D (numK i) = (foundIn Q (hs.getD i 0)).map fun p => .agg #[.string (str p)]) ∧ (∀ kl, Maps.has D kl = true → ∃ i, i < hs.length ∧ kl = numK i)
theorem FState.touch {W W' : World} {M N base : Nat} {hs : List Nat} {Q : List (List UInt8)} (h : FState W M N base hs Q) (ht : Touch [] W W') : FState W' M N base hs Q := by
 obtain ⟨⟨c, D, V, hc, hG, hV⟩, c2, D2, hc2, hm2, e1, e2⟩ := h
 exact ⟨⟨c, D, V, hc, ⟨hG.own.kept ht.grown_none (by simp), hG.at', fun h => owns_touch (hG.row h) ht (by simp), hG.apart⟩, hV⟩, c2, D2, hc2, hm2.kept ht.grown_none (by simp), e1, e2⟩
theorem FState.touch' {W W' : World} {M N base : Nat} {hs : List Nat} {Q : List (List UInt8)} (h : FState W M N base hs Q) {L : List Nat} (ht : Touch L W W') (hM : M ∉ L) (hN : N ∉ L) (hL : ∀ x ∈ L, x < base) : FState W' M N base hs Q := by
 obtain ⟨⟨c, D, V, hc, hG, hV⟩, c2, D2, hc2, hm2, e1, e2⟩ := h
 have hk : ∀ {k : TypeId} {b n : Nat} {D : DataW Value}, W.ownsMap Tryz.prog k rawE b n D → b ∉ L → W'.ownsMap Tryz.prog k rawE b n D := fun hm hb => by
  have hblk := ht.block _ hm.lt hb
  obtain ⟨es, clock, hb, r⟩ := hm
  exact ⟨es, clock, hblk.trans hb, r⟩
 exact ⟨⟨c, D, V, hc, ⟨hk hG.own hM, hG.at', fun h => owns_touch (hG.row h) ht hL, hG.apart⟩, hV⟩, c2, D2, hc2, hk hm2 hN, e1, e2⟩
theorem foundIn_snoc (Q : List (List UInt8)) (p : List UInt8) (h : Nat) : foundIn (Q ++ [p]) h = (foundIn Q h).or (if hashL p = h then some p else none) := by
 unfold foundIn
 rw [List.find?_append, List.find?_cons, List.find?_nil]
 by_cases c : hashL p = h
 ·rw [if_pos c, beq_iff_eq.2 c]
 ·rw [if_neg c, beq_eq_false_iff_ne.2 c]
set_option linter.unusedSimpArgs false in
set_option maxRecDepth 100000 in
set_option maxHeartbeats 4000000 in
theorem Find_walk (fs : List FileL) (b : Nat) (hs : List Nat) (a ah : Option Addr) (cap ch : Nat) (hb2 : 2 ≤ b) (hb1 : b ≤ 32) (hn : fs.length ≤ 12) (hf : ∀ f ∈ fs, f.2.length ≤ 400) (hhn : hs.length ≤ 1000) (hh : ∀ h ∈ hs, h < P64) (w : World) (hrd : Rd w a (filesV fs)) (hrh : Rd w ah (u64V hs)) :
  Calls Tryz.prog 81 #[.slice a fs.length cap, .int .i64 (b : Int), .slice ah hs.length ch] w fun e w' => ∃ N, e = .returned (.map (some N)) ∧ w.heap.size ≤ N ∧ FState w' w.heap.size N (w.heap.size + 1) hs (allPieces b fs) ∧ Below w.heap.size w w' := by
 have HRD := hid_of hrd
 have HF := hid_of hf
 have hmm := @run_makeMap Tryz.prog
 have hNum := hid_of (numbersOf_walk hs ah ch hhn hh w hrh)
 have hap : ∀ l : List FileL, (∀ f ∈ l, f.2.length ≤ 400) → (allPieces b l).length ≤ 400 * l.length := by
  intro l
  induction l with
  | nil => intro _; simp [allPieces]
  | cons x l ih =>
   intro h
   have h1 := ih (fun f hf => h f (List.mem_cons_of_mem _ hf))
   have h2 := h x (List.mem_cons_self ..)
   simp only [allPieces, List.flatMap_cons, List.length_append, List.length_cons] at h1 ⊢
   have : (piecesL b x).length = x.2.length := by simp [piecesL]
   omega
 have HAP0 : Hid (∀ k, (allPieces b (fs.take k)).length ≤ 4800) := hid_of (fun k => by
  have := hap (fs.take k) (fun f h => hf f (List.mem_of_mem_take h))
  rw [List.length_take] at this
  omega)
 clear hrd hf hrh hap
 go_enter Tryz.func81, Tryz.ntmps81
 go_wp2_with fail
 refine hNum.out.mono ?_
 rintro e w1 ⟨n, D, V, rfl, hnl, hG, hb1'⟩
 have HG := hid_of hG
 have HB1 := hid_of hb1'
 clear hG hb1'
 go_wp2_with fail
 obtain ⟨N, hN⟩ : ∃ N, N = w1.heap.size := ⟨_, rfl⟩
 have hNw : w.heap.size + 1 ≤ N := by have := HG.out.own.lt; omega
 have hst0 : FState (w1.alloc (Obj.map #[] 0)) w.heap.size N (w.heap.size + 1) hs [] := by
  refine ⟨⟨n, D, V, by omega, ⟨HG.out.own.alloc _, HG.out.at', fun h => (HG.out.row h).alloc _, HG.out.apart⟩, fun h j hj => by rw [hN]; exact ((HG.out.row h).lt j hj).2⟩, ⟨0, .map [], by omega, ?_, fun i _ => by rw [atM_empty]; rfl, fun kl hk => by simp [Maps.has] at hk⟩⟩
  rw [hN]
  exact World.ownsMap_made (H := Value) w1 Tryz.prog 3 rawE
 have hb0 : Below w.heap.size w (w1.alloc (Obj.map #[] 0)) := HB1.out.alloc (by omega) _
 have hs0 : N + 1 ≤ (w1.alloc (Obj.map #[] 0)).heap.size := by simp [hN]
 rw [← hN]
 obtain ⟨W1, hW1⟩ : ∃ W, W = w1.alloc (Obj.map #[] 0) := ⟨_, rfl⟩
 rw [← hW1] at hst0 hb0 hs0 ⊢
 have HS0 := hid_of hst0
 have HB0 := hid_of hb0
 clear hst0 hb0 hW1 hN HG HB1 hmm hNum
 go_loopw [22] (fun i W => ∃ k : Nat, k ≤ fs.length ∧ i = .int .i64 (k : Int) ∧ FState W w.heap.size N (w.heap.size + 1) hs (allPieces b (fs.take k)) ∧ N + 1 ≤ W.heap.size ∧ Below w.heap.size w W)
  (fun i _ => fs.length - (intOf i).toNat)
 case atStart => exact ⟨0, by omega, rfl, HS0.out, hs0, HB0.out⟩
 case round =>
  clear HS0 HB0 hs0
  obtain ⟨k, hk, rfl, hst, hsN, hbl⟩ := hrel
  by_cases hlt : k < fs.length
  ·obtain ⟨bb, off, rfl, c0, c1⟩ := fileCells HRD.out (Nat.le_refl _) hbl k hlt
   have hfl := HF.out fs[k] (List.getElem_mem hlt)
   have hsn : allPieces b (fs.take (k + 1)) = allPieces b (fs.take k) ++ piecesL b fs[k] := by unfold allPieces; rw [take_snoc fs k hlt, List.flatMap_append]; simp
   obtain ⟨f, hf⟩ : ∃ f, f = fs[k] := ⟨_, rfl⟩
   rw [← hf] at c0 c1 hfl hsn
   have HSN := hid_of hsn
   have HFL := hid_of hfl
   have HB := hid_of hbl
   have HST := hid_of hst
   have kf := Blk.new wr #[Value.string (str f.1), Value.string (str f.2)] 62
   have KF := hid_of kf
   clear hf hsn hbl hst kf
   have wb : IntKind.i64.wrap ((b : Int) - 1) = ((b - 1 : Nat) : Int) := by rw [IntKind.wrap_i64]; omega
   have hRep := hid_of (fun W => repeat_does (b - 1) W (by omega))
   have e2 : str f.2 ++ str (List.replicate (b - 1) 0) = str (fillL f.2 b) := by rw [strs, fillL]
   have hds := str_size f.2
   have hno : (9223372036854775807 < f.2.length + (b - 1)) = False := by simp; omega
   have z2 : (str (List.replicate (b - 1) 0)).size = b - 1 := by rw [str_size, List.length_replicate]
   have hS : ∀ X : World, Touch [] (wr.alloc (Obj.cells #[Value.string (str f.1), Value.string (str f.2)] 62)) X → X.cell? ⟨wr.heap.size, 1, none⟩ = some (.string (str f.2)) := fun X hX => (KF.out.touch hX (by simp) 1 _ rfl).1
   have HS := hid_of hS
   clear hS
   go_wp2_with fail
   refine wp_region_held_drew (S := fun X => X.cell? ⟨wr.heap.size, 1, none⟩ = some (.string (str f.2))) (by kernel_rfl) (HS.out _ (Touch.refl _ _).drew) (fun hHeld => ?_)
   (refine tY 0 26 ?v1 ?a1 rfl (by kernel_rfl) (by rfl) (fun _ _ _ h => h) ?y1 (by assumption) rfl ?p1 ?_; (case y1 => (intro w hSw; (try dsimp only at hSw); simp only [gA, gB, gC, gD, gE]; go_simp; (try with_reducible rfl))); (case p1 => (simp only [Act.put, sA, sB, sC]; try rfl)))
   (refine tY 1 27 ?v2 ?a2 rfl (by kernel_rfl) (by rfl) (fun _ _ _ h => h) ?y2 (by assumption) rfl ?p2 ?_; (case y2 => (intro w hSw; (try dsimp only at hSw); simp only [gA, gB, gC, gD, gE]; go_simp; (try with_reducible rfl))); (case p2 => (simp only [Act.put, sA, sB, sC]; try rfl)))
   (refine tY 2 28 ?v3 ?a3 rfl (by kernel_rfl) (by rfl) (fun _ _ _ h => h) ?y3 (by assumption) rfl ?p3 ?_; (case y3 => (intro w hSw; (try dsimp only at hSw); simp only [gA, gB, gC, gD, gE]; go_simp; (try with_reducible rfl))); (case p3 => (simp only [Act.put, sA, sB, sC]; try rfl)))
   (refine tY 3 29 ?v4 ?a4 rfl (by kernel_rfl) (by rfl) (fun _ _ _ h => h) ?y4 (by assumption) rfl ?p4 ?_; (case y4 => (intro w hSw; (try dsimp only at hSw); simp only [gA, gB, gC, gD, gE]; go_simp; (try with_reducible rfl))); (case p4 => (simp only [Act.put, sA, sB, sC]; try rfl)))
   refine step_one (i := 4) (by kernel_rfl) (fun K o ho hK => ?_)
   simp only [List.getElem?_toArray, List.getElem?_cons_succ, List.getElem?_cons_zero, Option.some.injEq] at ho
   subst ho
   go_simp
   refine (hRep.out _).mono ?_
   rintro e w2 ⟨rfl, hb2⟩
   have ht2 := ((Touch.refl [] (wr.alloc (Obj.cells #[Value.string (str f.1), Value.string (str f.2)] 62))).drew.trans (Touch.of_below hb2 []))
   refine hK.out _ _ ?_ (fun hHeld => ?_)
   focus exact HS.out _ ht2
   clear hK K
   try simp only [Act.put, List.setIfInBounds_toArray, List.set_cons_zero, List.set_cons_succ]
   (refine tY 5 31 ?v5 ?a5 rfl (by kernel_rfl) (by rfl) (fun _ _ _ h => h) ?y5 (by assumption) rfl ?p5 ?_; (case y5 => (intro w hSw; (try dsimp only at hSw); simp only [gA, gB, gC, gD, gE]; go_simp; (try with_reducible rfl))); (case p5 => (simp only [Act.put, sA, sB, sC]; try rfl)))
   (refine tY 6 11 ?v6 ?a6 rfl (by kernel_rfl) (by rfl) (fun _ _ _ h => h) ?y6 (by assumption) rfl ?p6 ?_; (case y6 => (intro w hSw; (try dsimp only at hSw); simp only [gA, gB, gC, gD, gE]; go_simp; (try with_reducible rfl))); (case p6 => (simp only [Act.put, sA, sB, sC]; try rfl)))
   refine wpAnyH_done (by kernel_rfl) ?_ _
   have hst2 := (HST.out.touch ((Touch.refl [] wr).alloc (Obj.cells #[Value.string (str f.1), Value.string (str f.2)] 62))).touch ht2
   have hbl2 : Below w.heap.size w w2 := (HB.out.alloc (by omega) (Obj.cells #[Value.string (str f.1), Value.string (str f.2)] 62)).trans (ht2.below (by simp; omega) (by simp))
   have hs2 : wr.heap.size + 1 ≤ w2.heap.size := by have := ht2.size; simpa using this
   have hk2 := KF.out.touch ht2 (by simp)
   have hfill := str_size (fillL f.2 b)
   have hfl2 : (fillL f.2 b).length = f.2.length + (b - 1) := by simp [fillL]
   have pcl : (piecesL b f).length = f.2.length := by simp [piecesL]
   obtain ⟨g, hg⟩ : ∃ g, g = wr.heap.size := ⟨_, rfl⟩
   rw [← hg] at hk2 hs2 hHeld ⊢
   have hgN : N + 1 ≤ g := by omega
   have HST2 := hid_of hst2
   have HB2 := hid_of hbl2
   have HK2 := hid_of hk2
   clear hst2 hbl2 hk2 HS hb2 ht2 hRep e2 hno z2 wb KF HB HST hg c0 c1 hHeld
   have d1 := (HK2.out 1 _ rfl).1
   go_wp2_with fail
   clear d1
   go_loopw [35] (fun i W => ∃ j : Nat, j ≤ f.2.length ∧ i = .int .i64 (j : Int) ∧ FState W w.heap.size N (w.heap.size + 1) hs (allPieces b (fs.take k) ++ (piecesL b f).take j) ∧ g + 1 ≤ W.heap.size ∧ Below w.heap.size w W)
    (fun i _ => f.2.length - (intOf i).toNat)
   case atStart => exact ⟨0, by omega, rfl, by simpa using HST2.out, hs2, HB2.out⟩
   case round =>
    clear HST2 HB2 HK2 hs2
    obtain ⟨j, hj, rfl, hst, hsg, hbl⟩ := hrel
    by_cases hlt2 : j < f.2.length
    ·have ex : (str (fillL f.2 b)).extract j (j + b) = str (pieceAt f.2 b j) := by rw [str_extract, Nat.add_sub_cancel_left]; rfl
     have hpl : (pieceAt f.2 b j).length ≤ 32 := by unfold pieceAt; rw [List.length_take]; omega
     have hpj : (piecesL b f).take (j + 1) = (piecesL b f).take j ++ [pieceAt f.2 b j] := by
      rw [take_snoc _ j (by omega)]
      simp [piecesL]
     have wj : IntKind.i64.wrap ((j : Int) + (b : Int)) = (j : Int) + (b : Int) := by rw [IntKind.wrap_i64]; omega
     have g1 : (0 : Int) ≤ (j : Int) := by omega
     have g2 : (j : Int) ≤ (j : Int) + (b : Int) := by omega
     have g3 : (j : Int) + (b : Int) ≤ ((f.2.length + (b - 1) : Nat) : Int) := by omega
     have g4 : ((j : Int) + (b : Int)).toNat = j + b := by omega
     obtain ⟨p, hp⟩ : ∃ p, p = pieceAt f.2 b j := ⟨_, rfl⟩
     rw [← hp] at ex hpl hpj
     have hH := hid_of (fun W => Hash_l p (by omega) W)
     obtain ⟨q, hq⟩ : ∃ q, q = hashL p := ⟨_, rfl⟩
     rw [← hq] at hH
     have HQ := hid_of hq
     have HPJ := hid_of hpj
     have HST := hid_of hst
     have HB := hid_of hbl
     clear hq hp hpj hst hbl
     go_wp2_with fail
     refine (hH.out _).mono ?_
     rintro e w' ⟨rfl, hw'⟩
     have hw' := hw'.symm
     subst hw'
     have hst1 := HST.out.touch ((Touch.refl [] wr).alloc (Obj.cells #[Value.string (str p)] 189))
     have hb1 := HB.out.alloc (by omega) (Obj.cells #[Value.string (str p)] 189)
     have hk1 := Blk.new wr #[Value.string (str p)] 189
     have hs1 : g + 1 ≤ (wr.alloc (Obj.cells #[Value.string (str p)] 189)).heap.size := by simp; omega
     obtain ⟨pb, hpb⟩ : ∃ pb, pb = wr.heap.size := ⟨_, rfl⟩
     have hpN : N + 1 ≤ pb := by omega
     rw [← hpb] at hk1 ⊢
     obtain ⟨W1, hW1⟩ : ∃ W, W = wr.alloc (Obj.cells #[Value.string (str p)] 189) := ⟨_, rfl⟩
     rw [← hW1] at hst1 hb1 hk1 hs1 ⊢
     obtain ⟨Q, hQ⟩ : ∃ Q, Q = allPieces b (fs.take k) ++ (piecesL b f).take j := ⟨_, rfl⟩
     have hQ' : allPieces b (fs.take k) ++ (piecesL b f).take (j + 1) = Q ++ [p] := by rw [HPJ.out, hQ, List.append_assoc]
     rw [← hQ] at hst1
     have HQ' := hid_of hQ'
     have hQl : Q.length ≤ 6000 := by
      rw [hQ, List.length_append]
      have h1 := HAP0.out k
      have h0 := HFL.out
      have h2 : ((piecesL b f).take j).length ≤ j := List.length_take_le ..
      omega
     have HQL := hid_of hQl
     clear hQl
     obtain ⟨⟨c1, D1, V1, hc1, hG1, hV1⟩, c2, D2, hc2, hm2, q1, q2⟩ := hst1
     have hq64 : q < P64 := by rw [HQ.out]; exact hashL_lt _
     have hkey := hashK_key q hq64
     have hlk := own_look hG1.own Tryz.lawU64 Tryz.underlying185 (Tryz.zeroInts W1) hkey
     rw [hG1.at' q hq64] at hlk
     have hVq := hV1 q
     obtain ⟨na, nc, hv, hrdn⟩ := row_rd (hG1.row q)
     rw [hv] at hlk hVq
     obtain ⟨nums, hnums⟩ : ∃ x, x = (if (foundIn Q q).isSome then [] else occ hs hs.length q) := ⟨_, rfl⟩
     have hnl : nums.length ≤ 1000 := by rw [hnums]; split; simp; exact Nat.le_trans (occ_len _ _ _) hhn
     simp only [← hnums] at hlk hrdn hv hVq
     have hnm : ∀ i, i ∈ nums → i < hs.length := by
      intro i hi
      rw [hnums] at hi
      split at hi
      ·simp at hi
      ·simp [occ] at hi; exact hi.1
     have HNM := hid_of hnums
     have HV := hid_of hv
     have HG1 := hid_of hG1
     have HM2 := hid_of hm2
     have Q1 := hid_of q1
     have Q2 := hid_of q2
     have HB1 := hid_of hb1
     have HK1 := hid_of hk1
     have HV1 := hid_of hV1
     have HVQ := hid_of hVq
     have HRN := hid_of hrdn
     have HNI := hid_of hnm
     clear hpb hW1 hQ hQ' hG1 hm2 q1 q2 hb1 hk1 HST HB HPJ hnums hv hV1 hVq hrdn hnm ex g1 g2 g3 g4 wj
     go_wp2_with fail
     clear hlk
     go_loopw [52] (fun i W => ∃ (t c : Nat) (D : DataW Value), t ≤ nums.length ∧ i = .int .i64 (t : Int) ∧ c ≤ 1000 * Q.length + t ∧ Hid (W.ownsMap Tryz.prog 3 rawE N c D) ∧
      Hid (∀ i, i < hs.length → atM D (numK i) = if i ∈ nums.take t then some (.agg #[.string (str p)]) else atM D2 (numK i)) ∧ Hid (∀ kl, Maps.has D kl = true → ∃ i, i < hs.length ∧ kl = numK i) ∧ Touch [N] W1 W)
      (fun i _ => nums.length - (intOf i).toNat)
     case atStart => exact ⟨0, c2, D2, by omega, rfl, by omega, HM2, hid_of (fun i _ => by simp), Q2, Touch.refl _ _⟩
     case round =>
      clear HM2 Q2
      obtain ⟨t, c, D, ht, rfl, hc, HM, QA, QB, hto⟩ := hrel
      by_cases hlt3 : t < nums.length
      ·obtain ⟨b2, o2, rfl, d0⟩ := HRN.out t (.int .i64 (nums[t] : Int)) (by simp [natsV, hlt3])
       have hb2l := World.block_lt_of_cell? W1 _ d0
       have hb2N : b2 ≠ N := by
        have := HVQ.out b2 (by simp [Value.ownBlock])
        omega
       have d1 : wr.cell? ⟨b2, o2 + t, none⟩ = some (.int .i64 (nums[t] : Int)) := by rw [hto.cell (x := ⟨b2, o2 + t, none⟩) hb2l (by simpa using hb2N)]; exact d0
       have hkp := HK1.out.touch hto (by simp; omega)
       have d2 := (hkp 0 _ rfl).1
       have hi1 := HNI.out nums[t] (List.getElem_mem hlt3)
       have hts := take_snoc nums t hlt3
       obtain ⟨i1, hi⟩ : ∃ x, x = nums[t] := ⟨_, rfl⟩
       rw [← hi] at d1 hi1 hts
       have HTS := hid_of hts
       have HT := hid_of hto
       have hkey2 := numK_key i1 (by omega)
       have HK2 := hid_of hkey2
       have hQl : Q.length ≤ 6000 := HQL.out
       clear hi hts d0 hto hkp hkey2 hb2l hb2N
       go_wp2_with (at_mapUpdate; refine wpList_store _ rfl _ _ _ 89 rfl 3 189 Tryz.lawInt Tryz.underlying89 N c D rfl HM.out (by unfold maxLen; omega) _ _ _ rfl rfl HK2.out ?_)
       intro w7 hm7 ht7
       have M7 := hid_of hm7
       have T7 := hid_of (HT.out.trans ht7)
       have QA7 : Hid (∀ i, i < hs.length → atM (D.put (numK i1) (.held (.agg #[.string (str p)]))) (numK i) = if i ∈ nums.take (t + 1) then some (.agg #[.string (str p)]) else atM D2 (numK i)) := hid_of (fun i hi => by
        rw [HTS.out]
        by_cases e : i = i1
        ·subst e
         rw [atM_put_same HM.out.isMap (numK_isKey _), if_pos (by simp)]
        ·rw [atM_put_other _ (numK_ne e), QA.out i hi]
         simp [e])
       have QB7 : Hid (∀ kl, Maps.has (D.put (numK i1) (.held (.agg #[.string (str p)]))) kl = true → ∃ i, i < hs.length ∧ kl = numK i) := hid_of (fun kl hk => by
        by_cases e : kl = numK i1
        ·exact ⟨i1, hi1, e⟩
        ·rw [Maps.has_put_other e] at hk
         exact QB.out kl hk)
       clear hm7 ht7 HT HM QA QB
       go_wp2_with fail
       exact ⟨⟨t + 1, c + 1, _, by omega, by go_num, by omega, M7, QA7, QB7, T7.out⟩, by simp [intOf]; omega⟩
      ·obtain rfl : t = nums.length := by omega
       rw [List.take_length] at QA
       have hG' : Groups wr w.heap.size (w.heap.size + 1) c1 D1 V1 (fun h => if (foundIn Q h).isSome then [] else occ hs hs.length h) := by
        refine ⟨HG1.out.own.kept hto.grown (by simp; omega), HG1.out.at', fun h => owns_touch' (HG1.out.row h) hto (fun j hj hm => ?_), HG1.out.apart⟩
        have := HV1.out h j hj
        simp at hm
        omega
       have HG' := hid_of hG'
       have HKEY := hid_of hkey
       have BT := hid_of (HB1.out.trans (hto.below (by omega) (by simp; omega)))
       have hsz : g + 1 ≤ wr.heap.size := by have := hto.size; omega
       clear hG' hkey hto HB1 HG1
       go_wp2_with (at_delete; refine wpList_delete_own _ rfl _ _ 185 63 rfl 31 Tryz.lawU64 Tryz.underlying185 rawE w.heap.size c1 D1 rfl HG'.out.own _ _ rfl HKEY.out ?_)
       intro w8 hm8 hmt
       have ht8 := Touch.of_grown hmt.grown
       have hst8 : FState w8 w.heap.size N (w.heap.size + 1) hs (allPieces b (fs.take k) ++ (piecesL b f).take (j + 1)) := by
        rw [HQ'.out]
        refine ⟨⟨c1, D1.del (hashK q), fun h => if h = q then .slice none 0 0 else V1 h, hc1, ⟨hm8, fun h hh => ?_, fun h => ?_, fun h h' j hne hj hj' => ?_⟩, fun h j hj => ?_⟩, c, D, by rw [List.length_append, List.length_singleton]; omega, HM.out.kept hmt.grown (by simp; omega), fun i hi => ?_, QB.out⟩
        ·by_cases e : h = q
         ·subst e
          rw [atM_del_same, if_pos rfl]
          rfl
         ·rw [atM_del_other _ (hashK_ne e), if_neg e]
          exact HG'.out.at' h hh
        ·by_cases e : h = q
         ·subst e
          rw [if_pos rfl, foundIn_snoc, if_pos HQ.out.symm, if_pos (by simp)]
          exact World.ownsRow_nil _ _ _ _
         ·rw [if_neg e, foundIn_snoc, if_neg (show ¬ hashL p = h from fun x => e (by rw [← x, ← HQ.out])), Option.or_none]
          exact owns_touch (HG'.out.row h) ht8 (by simp)
        ·by_cases e : h = q
         ·rw [if_pos e] at hj; simp [Value.ownBlock] at hj
         ·by_cases e' : h' = q
          ·rw [if_pos e'] at hj'; simp [Value.ownBlock] at hj'
          ·rw [if_neg e] at hj
           rw [if_neg e'] at hj'
           exact HG'.out.apart h h' j hne hj hj'
        ·dsimp only at hj
         by_cases e : h = q
         ·rw [if_pos e] at hj; simp [Value.ownBlock] at hj
         ·rw [if_neg e] at hj
          exact HV1.out h j hj
        ·rw [QA.out i hi, Q1.out i hi, foundIn_snoc, HNM.out, ← HQ.out]
         by_cases e : hs.getD i 0 = q
         ·rw [e]
          cases hfq : foundIn Q q with
          | some r => simp
          | none =>
           have : i ∈ occ hs hs.length q := by simp only [occ, List.mem_filter, List.mem_range, beq_iff_eq]; exact ⟨hi, e⟩
           simp [this]
         ·have : i ∉ (if (foundIn Q q).isSome = true then [] else occ hs hs.length q) := by
           intro hm
           split at hm
           ·simp at hm
           ·simp only [occ, List.mem_filter, List.mem_range, beq_iff_eq] at hm; exact e hm.2
          rw [if_neg this, if_neg (Ne.symm e), Option.or_none]
       have HST8 := hid_of hst8
       have HB8 := hid_of (BT.out.trans (ht8.below (by omega) (by simp)))
       have hs8 : g + 1 ≤ w8.heap.size := by have := ht8.size; omega
       clear hst8 ht8 hmt hm8 BT HG' HM QA QB
       go_wp2_with fail
       exact ⟨⟨j + 1, by omega, by go_num, HST8.out, hs8, HB8.out⟩, by simp [intOf]; omega⟩
    ·obtain rfl : j = f.2.length := by omega
     have hst' : FState wr w.heap.size N (w.heap.size + 1) hs (allPieces b (fs.take (k + 1))) := by
      rw [HSN.out]
      rw [← pcl, List.take_length] at hst
      exact hst
     have HST := hid_of hst'
     have HB := hid_of hbl
     clear hst hst' hbl
     go_wp2_with fail
     exact ⟨⟨k + 1, by omega, by go_num, HST.out, by omega, HB.out⟩, by simp [intOf]; omega⟩
  ·obtain rfl : fs.length = k := by omega
   rw [List.take_length] at hst
   have HST := hid_of hst
   have HB := hid_of hbl
   clear hst hbl
   go_wp2_with fail
   go_ret
   exact ⟨N, rfl, by omega, HST.out, HB.out⟩
end Go.Proofs.YtonjphollmdicaaGreatDoor
