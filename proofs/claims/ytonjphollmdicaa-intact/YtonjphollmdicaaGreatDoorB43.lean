import Derived.Test.YtonjphollmdicaaGreatDoorB04
import Derived.Test.YtonjphollmdicaaGreatDoorB33
import Derived.Test.YtonjphollmdicaaGreatDoorB34
import Derived.Test.YtonjphollmdicaaGreatDoorB37
import Derived.Test.YtonjphollmdicaaGreatDoorB39
import Derived.Test.YtonjphollmdicaaGreatDoorB42
namespace Go.Proofs.YtonjphollmdicaaGreatDoor
open Go.ChangeShapes Go.WideShapes Go.ChangeAt Go.RowKit
open Go.Maps

/-- the R packets that count, with their slices -/
def exOf (l : List FoundL) (m : MainL) : List (Nat × List UInt8) := (extraKeys l m).map fun j => (j, ((firstOf (takesE m) (l.filter (·.kind == 82)) j).map fun g => eSlice g.body m.size).getD [])
theorem exOf_len (l : List FoundL) (m : MainL) : (exOf l m).length = (extraKeys l m).length := by simp [exOf]
theorem takesE_some {m : MainL} {f : FoundL} {j : Nat} (h : takesE m f = some j) : eRight f.body m.size = true ∧ eNumber f.body = j := by
  unfold takesE at h
  split at h
  · rename_i hc
    cases h
    exact ⟨hc.2, rfl⟩
  · cases h
theorem exOf_ok (l : List FoundL) (m : MainL) : ∀ e ∈ exOf l m, e.1 < 20 ∧ e.2.length = m.size := by
  intro e he
  unfold exOf at he
  obtain ⟨j, hj, rfl⟩ := List.mem_map.1 he
  obtain ⟨h20, f, hf⟩ := keysOf_some hj
  refine ⟨h20, ?_⟩
  rw [hf]
  have hg : takesE m f = some j := by
    have := List.find?_some hf
    simpa using this
  obtain ⟨h1, _⟩ := takesE_some hg
  rw [eRight_eq] at h1
  simp only [Bool.and_eq_true, decide_eq_true_eq] at h1
  show (eSlice f.body m.size).length = m.size
  rw [(eInfo_eq h1.1).2, List.length_drop, h1.1]
  omega
theorem exOf_vals {l : List FoundL} {m : MainL} {D : DataW Value} (hK : KMap D (takesE m) (l.filter (·.kind == 82)) 20 (fun v g => v = extraV m.size g)) : valsAt D (extraKeys l m) = exV (exOf l m) := by
  unfold valsAt exV exOf
  rw [List.flatMap_map]
  have key : ∀ j ∈ extraKeys l m, cellsL ((atM D (numK j)).getD undef) = [.int .i64 (j : Int), .string (str (((firstOf (takesE m) (l.filter (·.kind == 82)) j).map fun g => eSlice g.body m.size).getD []))] := by
    intro j hj
    obtain ⟨_, f, hf⟩ := keysOf_some hj
    obtain ⟨v, h1, h2⟩ := hK.there j f hf
    have hg : takesE m f = some j := by
      have := List.find?_some hf
      simpa using this
    obtain ⟨_, hn⟩ := takesE_some hg
    rw [h1, h2, hf]
    unfold extraV
    rw [hn]
    rfl
  have cong : ∀ (ks : List Nat), (∀ j ∈ ks, j ∈ extraKeys l m) → (ks.flatMap fun k => cellsL ((atM D (numK k)).getD undef)) = ks.flatMap fun (j : Nat) => [Value.int .i64 (j : Int), .string (str (((firstOf (takesE m) (l.filter (·.kind == 82)) j).map fun g => eSlice g.body m.size).getD []))] := by
    intro ks
    induction ks with
    | nil => intro _; rfl
    | cons k r ih =>
      intro h
      rw [List.flatMap_cons, List.flatMap_cons, key k (h k (List.mem_cons_self ..)), ih (fun j hj => h j (List.mem_cons_of_mem _ hj))]
  exact cong _ (fun j hj => hj)
theorem piece_len {b : Nat} {fs : List FileL} {p : List UInt8} (hb : 0 < b) (h : p ∈ allPieces b fs) : p.length = b := by
  unfold allPieces at h
  obtain ⟨f, _, h⟩ := List.mem_flatMap.1 h
  unfold piecesL at h
  obtain ⟨j, hj, rfl⟩ := List.mem_map.1 h
  have := List.mem_range.1 hj
  unfold pieceAt fillL
  rw [List.length_take, List.length_drop, List.length_append, List.length_replicate]
  omega
theorem listed_long {l : List FoundL} {m : MainL} (h0 : 0 < m.size) : ∀ f ∈ listedL l m, fLong f.body ≤ (fSlices f.body).length * m.size ∧ (fName f.body).length ≤ 100 ∧ fLong f.body ≤ 400 := by
  intro f hf
  obtain ⟨_, i, _, hg⟩ := takenL_mem hf
  unfold takesF at hg
  split at hg
  · rename_i hc
    have := hc.2.1
    unfold fRight at this
    simp only [Bool.and_eq_true, decide_eq_true_eq] at this
    obtain ⟨⟨⟨⟨_, _⟩, h2⟩, h3⟩, h4⟩ := this
    refine ⟨?_, by omega, h3⟩
    rw [h4]
    exact slices_ge _ _ h0
  · cases hg

def repairP (fs : List FileL) (vs : List (List UInt8)) : List FileL ⊕ Nat :=
  if handable fs vs = false then .inr 1 else match chiefL (findL vs) with
    | none => .inr 3
    | some f => if isListed (findL vs) (mainOf f) = false then .inr 4 else repairQ (mainSize f.body) (listedL (findL vs) (mainOf f)) (sliceHs (listedL (findL vs) (mainOf f))) (allPieces (mainSize f.body) fs) (exOf (findL vs) (mainOf f))
theorem gather_rep {fs : List FileL} {vs : List (List UInt8)} {w w' : World} {e : Ending} (h : GatherRes fs vs w e w') : Below w.heap.size w w' ∧ ((∃ n : Nat, repairP fs vs = .inr n ∧ n ≠ 0 ∧ n < 10 ∧ e = .returned (.tuple #[noRemains, .int .i64 (n : Int)])) ∨
    (∃ f, handable fs vs = true ∧ chiefL (findL vs) = some f ∧ isListed (findL vs) (mainOf f) = true ∧ repairP fs vs = repairQ (mainSize f.body) (listedL (findL vs) (mainOf f)) (sliceHs (listedL (findL vs) (mainOf f))) (allPieces (mainSize f.body) fs) (exOf (findL vs) (mainOf f)) ∧
      ∃ (fa : Option Addr) (fc N base c ec : Nat) (ea : Option Addr) (D : DataW Value), e = .returned (.tuple #[.agg #[.int .i64 (mainSize f.body : Int), .slice fa (listedL (findL vs) (mainOf f)).length fc, .int .i64 ((sliceHs (listedL (findL vs) (mainOf f))).length : Int), .map (some N), .slice ea (exOf (findL vs) (mainOf f)).length ec], .int .i64 0]) ∧
        FRow w' base fa (listedL (findL vs) (mainOf f)) ∧ FoundM w' N c D (sliceHs (listedL (findL vs) (mainOf f))) (allPieces (mainSize f.body) fs) ∧ (exOf (findL vs) (mainOf f)).length ≤ ec ∧ Rd w' ea (exV (exOf (findL vs) (mainOf f))))) := by
  obtain ⟨hb, h⟩ := h
  refine ⟨hb, ?_⟩
  unfold repairP
  cases hh : handable fs vs with
  | false =>
    rw [if_pos hh] at h
    exact .inl ⟨1, by rw [if_pos rfl], by decide, by decide, h⟩
  | true =>
    rw [if_neg (by rw [hh]; simp)] at h
    rw [if_neg (by simp)]
    cases hc : chiefL (findL vs) with
    | none =>
      rw [hc] at h
      exact .inl ⟨3, rfl, by decide, by decide, h⟩
    | some f =>
      rw [hc] at h
      simp only at h ⊢
      cases hl : isListed (findL vs) (mainOf f) with
      | false =>
        rw [if_pos hl] at h
        exact .inl ⟨4, by rw [if_pos rfl], by decide, by decide, h⟩
      | true =>
        rw [if_neg (by rw [hl]; simp)] at h
        obtain ⟨fa, fc, N, base, ev, _, _, rfl, hFR, ⟨M, b9, hFS⟩, ⟨DE, b0, hev, hKE⟩⟩ := h
        obtain ⟨_, c, D, _, hfm, q1, q2⟩ := hFS
        rw [exOf_vals hKE, ← exOf_len] at hev
        obtain ⟨ea, ec, rfl, hec, hre⟩ := row_full hev
        exact .inr ⟨f, trivial, rfl, hl, by rw [if_neg (by simp)], fa, fc, N, base, c, ec, ea, D, rfl, hFR, ⟨hfm, q1, q2⟩, by omega, hre⟩

set_option linter.unusedSimpArgs false in
set_option maxRecDepth 100000 in
set_option maxHeartbeats 4000000 in
theorem Repair_walk (fs : List FileL) (vs : List (List UInt8)) (a b : Option Addr) (ca cb : Nat) (w : World) (hK : Kinds w) (hfa : Rd w a (filesV fs)) (hvb : Rd w b (strV vs)) :
    Calls Tryz.prog 20 #[.slice a fs.length ca, .slice b vs.length cb] w fun e w' => RepRes (repairP fs vs) w e w' := by
  have hG := hid_of (gather_walk fs vs a b ca cb w hK hfa hvb)
  clear hfa hvb hK
  go_enter Tryz.func20, Tryz.ntmps20
  go_wp2_with fail
  refine hG.out.mono ?_
  rintro e w1 hg
  obtain ⟨hb1, hor⟩ := gather_rep hg
  have HBW := hid_of hb1
  have hs1 := hb1.size
  clear hg hb1 hG
  rcases hor with ⟨n, hlp, hn0, hn10, rfl⟩ | ⟨f, hha, hch, hil, hlp, fa, fc, N, base, c, ec, ea, D, rfl, hFR, hFM, hec, hre⟩
  · have HE : Hid (∀ w', Below w.heap.size w w' → RepRes (repairP fs vs) w (.returned (.tuple #[.slice none 0 0, .int .i64 (n : Int)])) w') := hid_of (fun w' h => by rw [hlp]; exact ⟨h, rfl⟩)
    clear hlp
    have e1 : ((n : Int) != 0) = true := by simp; omega
    have e2 : ((n : Int) == 0) = false := by simp; omega
    unfold noRemains
    have hfin := HBW.out.alloc hs1 (.cells #[.int .i64 0, .slice none 0 0, .int .i64 0, .map none, .slice none 0 0] 92)
    have HF := hid_of hfin
    clear hfin
    go_wp2_with fail
    go_ret2
    exact HE.out _ HF.out
  · obtain ⟨_, _, hn1, hn6, hz2, hz32⟩ := chief_bounds hch
    have hev : mainSize f.body % 2 = 0 := by
      have h1 := (chief_bounds hch).2.1
      obtain ⟨_, _, _, _, _, h6⟩ := mainFiles_eq h1
      unfold sliceSize at h6
      simp only [decide_eq_true_eq] at h6
      omega
    have hLn : (listedL (findL vs) (mainOf f)).length ≤ 6 ∧ 1 ≤ (sliceHs (listedL (findL vs) (mainOf f))).length ∧ (sliceHs (listedL (findL vs) (mainOf f))).length ≤ 60 := by
      unfold isListed at hil
      simp only [Bool.and_eq_true, decide_eq_true_eq] at hil
      refine ⟨?_, hil.1.2, hil.2⟩
      rw [hil.1.1.1]
      exact hn6
    have hmo : (mainOf f).size = mainSize f.body := rfl
    have hex := exOf_ok (findL vs) (mainOf f)
    have hll := listed_long (l := findL vs) (m := mainOf f) (by rw [hmo]; omega)
    rw [hmo] at hex hll
    have hpc : ∀ i p, pieceI (allPieces (mainSize f.body) fs) (sliceHs (listedL (findL vs) (mainOf f))) i = some p → p.length = mainSize f.body := by
      intro i p hp
      unfold pieceI foundIn at hp
      exact piece_len (by omega) (List.mem_of_find?_eq_some hp)
    have hRep := fun W (hW : Below w1.heap.size w1 W) => repair_walk (mainSize f.body) fa fc (listedL (findL vs) (mainOf f)) (sliceHs (listedL (findL vs) (mainOf f))) N c D (allPieces (mainSize f.body) fs) ea (exOf (findL vs) (mainOf f)) ec base hz2 hz32 hev hLn.1 hLn.2.1 hLn.2.2 hec rfl hex hpc hll W (hFR.later hW) ⟨ownsMap_touch hFM.own (Touch.of_below hW []) (by simp), hFM.at', hFM.keys⟩ (hre.later (Nat.le_refl _) hW)
    rw [← hlp] at hRep
    obtain ⟨sz, hsz⟩ : ∃ x, x = mainSize f.body := ⟨mainSize f.body, rfl⟩
    obtain ⟨nl, hnl⟩ : ∃ x, x = (listedL (findL vs) (mainOf f)).length := ⟨_, rfl⟩
    obtain ⟨nh, hnh⟩ : ∃ x, x = (sliceHs (listedL (findL vs) (mainOf f))).length := ⟨_, rfl⟩
    obtain ⟨ne, hne⟩ : ∃ x, x = (exOf (findL vs) (mainOf f)).length := ⟨_, rfl⟩
    rw [← hsz, ← hnl, ← hnh, ← hne] at hRep ⊢
    have HR := hid_of hRep
    obtain ⟨R, hR⟩ : ∃ x, x = repairP fs vs := ⟨_, rfl⟩
    rw [← hR] at HR
    have HRE := hid_of hR
    clear hRep hsz hnl hnh hne hR hpc hex hll hmo hLn hev hlp hch hha hil hFR hFM hre hec hn1 hn6 hz2 hz32
    go_wp2_with fail
    refine (HR.out _ ((Below.refl _ _).alloc (Nat.le_refl _) _)).mono ?_
    rintro e w2 ⟨hb2, h2⟩
    have hbf : Below w.heap.size w w2 := (HBW.out.alloc hs1 _).trans (hb2.mono (by simp; omega))
    have HBF := hid_of hbf
    cases R with
    | inr n =>
      obtain rfl := h2
      clear hb2 hbf
      go_wp2_with fail
      go_ret2
      rw [← HRE.out]
      exact ⟨HBF.out, rfl⟩
    | inl fl =>
      obtain ⟨v, rfl, hov⟩ := h2
      obtain ⟨va, vc, rfl, _⟩ := row_rd hov
      have hbase := ownsRow_base (base' := w.heap.size) (by simp; omega) hov
      have HO := hid_of hbase
      clear hb2 hbf hov hbase
      go_wp2_with fail
      go_ret2
      rw [← HRE.out]
      exact ⟨HBF.out, _, rfl, HO.out⟩
end Go.Proofs.YtonjphollmdicaaGreatDoor
namespace Go.Proofs.YtonjphollmdicaaGreatDoor

/-! the program's Repair is the document's -/
theorem exOf_pairs {l : List FoundL} {f : FoundL} (hb : 0 < chiefSize f) (hsz : (mainOf f).size = chiefSize f) : exOf l (mainOf f) = exPairs (exsL l f) := by
  unfold exOf exPairs extraKeys keysOf
  have hg : ∀ j, j < 20 → (exsL l f).getD j [] = exAt l f j := fun j hj => by
    unfold exsL
    simp [hj]
  have he : ∀ j, j < 20 → (firstOf (takesE (mainOf f)) (l.filter (·.kind == 82)) j).map (fun g => eSlice g.body (mainOf f).size) = exL l f.set (chiefSize f) j := fun j hj => by
    have h := extra_of_pile (mainOf f) j hj l
    have hset : (mainOf f).set = f.set := rfl
    rw [hset] at h
    rw [hsz] at h ⊢
    exact h
  have e1 : (List.range 20).filter (fun i => (firstOf (takesE (mainOf f)) (l.filter (·.kind == 82)) i).isSome) = (List.range 20).filter fun j => decide ((exsL l f).getD j [] ≠ []) := by
    refine List.filter_congr (fun j hj => ?_)
    have hj := List.mem_range.1 hj
    have h := he j hj
    rw [hg j hj]
    unfold exAt
    rw [← h]
    cases hf : firstOf (takesE (mainOf f)) (l.filter (·.kind == 82)) j with
    | none => simp
    | some g =>
      rw [hf] at h
      have hl : (eSlice g.body (mainOf f).size).length = chiefSize f := exL_len h.symm
      simp only [Option.isSome_some, Option.map_some, Option.getD_some, ne_eq]
      symm
      rw [decide_eq_true_iff]
      intro e0
      rw [e0] at hl
      simp at hl
      omega
  rw [e1]
  refine List.map_congr_left (fun j hj => ?_)
  have hj := List.mem_range.1 (List.mem_filter.1 hj).1
  rw [hg j hj]
  unfold exAt
  rw [← he j hj]
theorem repairP_eq (fs : List FileL) (vs : List (List UInt8)) : repairP fs vs = repairL fs vs := by
  unfold repairP repairL lookedL
  have hh : handable fs vs = handedL fs vs := rfl
  rw [hh]
  cases handedL fs vs with
  | false => rfl
  | true =>
    simp only [Bool.true_eq_false, if_false, if_true]
    unfold readL
    cases hc : chiefL (findL vs) with
    | none => rfl
    | some f =>
      simp only
      obtain ⟨h1, h2, h3⟩ := listed_of hc
      have hpos : 2 ≤ chiefSize f := by rw [← h2]; exact (chief_bounds hc).2.2.2.2.1
      unfold isListed isList
      rw [h1]
      cases ha : allDesc (findL vs) f (chiefN f) with
      | false => simp
      | true =>
        have h3 := h3 ha
        have hnm : (namesL (descsN (findL vs) f (chiefN f))).map (·.1) = (listedL (findL vs) (mainOf f)).map fun g => fName g.body := by
          rw [h3]
          simp [namesL, Function.comp_def]
        have htw := diffs_twice _ _ hnm
        rw [List.length_map] at htw
        rw [htw]
        have hhs : dHashes (descsN (findL vs) f (chiefN f)) = sliceHs (listedL (findL vs) (mainOf f)) := by
          rw [h3]
          unfold dHashes sliceHs
          rw [List.flatMap_map]
        have hsum : hashSum (descsN (findL vs) f (chiefN f)) = (sliceHs (listedL (findL vs) (mainOf f))).length := by rw [← hhs]; rfl
        rw [hsum]
        cases hb : (true && !twiceL (namesL (descsN (findL vs) f (chiefN f))) && decide (1 ≤ (sliceHs (listedL (findL vs) (mainOf f))).length) && decide ((sliceHs (listedL (findL vs) (mainOf f))).length ≤ 60)) with
        | false => simp
        | true =>
          simp only [Bool.true_eq_false, if_false, if_true]
          have hms : mainSize f.body = chiefSize f := h2
          have hds : (listedL (findL vs) (mainOf f)).map descF = descsN (findL vs) f (chiefN f) := by
            rw [h3]
            exact List.map_congr_left (fun g _ => by unfold descF; with_reducible rfl)
          unfold repairQ leftOf madeL
          simp only
          rw [hds, hms, hhs, exOf_pairs (by omega) h2]
          have hpi : pieceI (allPieces (chiefSize f) fs) (sliceHs (listedL (findL vs) (mainOf f))) = pieceOf fs ⟨chiefSize f, descsN (findL vs) f (chiefN f), exsL (findL vs) f⟩ := by
            funext i
            unfold pieceI pieceOf
            simp only
            rw [hhs, firstPiece_eq]
          rw [hpi, presN_lost]
          have hxl : (exPairs (exsL (findL vs) f)).length = exN (exsL (findL vs) f) := by
            rw [← exOf_pairs (by omega) h2, exOf_len, extra_count (by omega) h2]
          rw [hxl]
end Go.Proofs.YtonjphollmdicaaGreatDoor
namespace Go.Proofs.YtonjphollmdicaaGreatDoor
open Go.ChangeShapes Go.WideShapes Go.ChangeAt Go.RowKit

set_option maxRecDepth 100000 in
set_option maxHeartbeats 2000000 in
theorem krepaired_walk (w : World) (hK : Kinds w) :
    Calls Tryz.prog 23 #[] w fun e w' => e = .returned (.bool true) ∧ Below w.heap.size w w' := by
  have h0 := hK.lt
  have HK := hid_of hK
  clear hK
  go_enter Tryz.func23, Tryz.ntmps23
  go_wp2_with fail
  refine (kcreated_full w).mono ?_
  rintro e w1 ⟨ad, c, rfl, hrd, hb1⟩
  have HL := hid_of (klooked_walk w1 (HK.out.later hb1 h0))
  have HB1 := hid_of hb1
  have HRD := hid_of hrd
  clear hb1 hrd
  go_wp2_with fail
  refine HL.out.mono ?_
  rintro e w2 ⟨rfl, hb2⟩
  have hb02 := Below.next HB1.out hb2
  have hrf : Rd (w2.alloc (.cells #[.string ⟨#[98]⟩, .string ⟨#[9, 0, 2, 9]⟩] 62)) (some ⟨w2.heap.size, 0, none⟩) (filesV exB) := by
    intro k u hk
    refine ⟨w2.heap.size, 0, rfl, ?_⟩
    rcases k with _ | _ | k
    · simp [filesV, exB] at hk; subst hk; simp [str]
    · simp [filesV, exB] at hk; subst hk; simp [str]
    · simp [filesV, exB] at hk
  have hba := hb02.alloc hb02.size (Obj.cells #[.string ⟨#[98]⟩, .string ⟨#[9, 0, 2, 9]⟩] 62)
  have hRp := Repair_walk exB (packetsL 2 exFs 1) (some ⟨w2.heap.size, 0, none⟩) (some ad) 1 c (w2.alloc (.cells #[.string ⟨#[98]⟩, .string ⟨#[9, 0, 2, 9]⟩] 62)) (HK.out.later hba h0) hrf ((HRD.out.later (Nat.le_refl _) hb2).later (Nat.le_refl _) ((Below.refl _ _).alloc (Nat.le_refl _) _))
  rw [repairP_eq, ex_repair, packets_length] at hRp
  have HR := hid_of hRp
  have HBA := hid_of hba
  clear hRp hba hrf hb2 hb02
  go_wp2_with fail
  refine HR.out.mono ?_
  rintro e w3 ⟨hb3, v, rfl, hov⟩
  have hbw : Below w.heap.size w w3 := HBA.out.trans (hb3.mono HBA.out.size)
  obtain ⟨sa, sc, rfl, hsr⟩ := row_rd hov
  obtain ⟨sb, so, rfl, s0⟩ := hsr 0 _ rfl
  obtain ⟨sb', so', e, s1⟩ := hsr 1 _ rfl
  cases e
  rw [Nat.add_zero] at s0
  have HBW := hid_of hbw
  clear hov hsr hbw hb3 HR HBA
  have e0 : str [97] = ByteArray.mk #[97] := rfl
  have e1 : str [0, 1, 0, 2] = ByteArray.mk #[0, 1, 0, 2] := rfl
  rw [e0] at s0
  rw [e1] at s1
  go_wp2_with fail
  go_ret
  exact ⟨rfl, HBW.out⟩
end Go.Proofs.YtonjphollmdicaaGreatDoor
namespace Go.Proofs.YtonjphollmdicaaGreatDoor
open Go.ChangeShapes Go.WideShapes Go.ChangeAt Go.RowKit

set_option maxRecDepth 100000 in
set_option maxHeartbeats 1000000 in
theorem ksame_walk (l m : List FileL) (a b : Option Addr) (c d : Nat) (hl : l.length ≤ 1000000) (hm : m.length ≤ 1000000) (w : World) (ha : Rd w a (filesV l)) (hb : Rd w b (filesV m)) :
    Calls Tryz.prog 28 #[.slice a l.length c, .slice b m.length d] w fun e w' => e = .returned (.bool (l == m)) ∧ Below w.heap.size w w' := by
  by_cases hne : l.length = m.length
  · have hne' : ((l.length : Int) != (m.length : Int)) = false := by simp [hne]
    have HA := hid_of ha
    have HB := hid_of hb
    clear ha hb
    go_enter Tryz.func28, Tryz.ntmps28
    go_wp2_with fail
    go_loopw [5] (fun i wr => ∃ k : Nat, k ≤ l.length ∧ i = .int .i64 (k : Int) ∧ Below w.heap.size w wr ∧ Hid (l.take k = m.take k))
      (fun i _ => l.length - (intOf i).toNat)
    case atStart => exact ⟨0, by omega, rfl, Below.refl _ _, hid_of (by simp)⟩
    case round =>
      obtain ⟨k, hk, rfl, hbl, hd⟩ := hrel
      by_cases hlt : k < l.length
      · have hlt2 : k < m.length := by omega
        obtain ⟨b1, o1, rfl, hc1, hc1'⟩ := fileCells HA.out (Nat.le_refl _) hbl k hlt
        obtain ⟨b2, o2, rfl, hc2, hc2'⟩ := fileCells HB.out (Nat.le_refl _) hbl k hlt2
        have hyes : l[k].1 = m[k].1 → l[k].2 = m[k].2 → l.take (k + 1) = m.take (k + 1) := by
          intro e e'
          rw [take_snoc l k hlt, take_snoc m k hlt2, hd.out, Prod.ext e e']
        have hno : l[k].1 ≠ m[k].1 ∨ l[k].2 ≠ m[k].2 → (l == m) = false := by
          intro e
          rw [beq_eq_false_iff_ne]
          intro e2
          subst e2
          rcases e with e | e <;> exact e rfl
        have HY := hid_of hyes
        have HN := hid_of hno
        have HBL := hid_of hbl
        have g1 : (k : Int) < (l.length : Int) := by omega
        have g2 : (k : Int) < (m.length : Int) := by omega
        obtain ⟨x, hx⟩ : ∃ x, x = l[k].1 := ⟨_, rfl⟩
        obtain ⟨y, hy⟩ : ∃ x, x = m[k].1 := ⟨_, rfl⟩
        obtain ⟨x', hx'⟩ : ∃ x, x = l[k].2 := ⟨_, rfl⟩
        obtain ⟨y', hy'⟩ : ∃ x, x = m[k].2 := ⟨_, rfl⟩
        rw [← hx] at hc1 HY HN
        rw [← hy] at hc2 HY HN
        rw [← hx'] at hc1' HY HN
        rw [← hy'] at hc2' HY HN
        clear hyes hno hbl hd hx hy hx' hy'
        by_cases e1 : x = y
        · by_cases e2 : x' = y'
          · have HYY := hid_of (HY.out e1 e2)
            subst e1 e2
            clear HY HN
            go_wp2_with fail
            go_quiet (fail)
            go_wp2_with fail
            exact ⟨⟨k + 1, by omega, by go_num, rdrewN HBL.out _, HYY⟩, by simp [intOf]; omega⟩
          · have HNN := hid_of (HN.out (.inr e2))
            have q1 : ((str x').toList == (str y').toList) = false := by rw [str_toList, str_toList]; exact beq_eq_false_iff_ne.2 e2
            subst e1
            clear HY HN e2
            go_wp2_with fail
            go_quiet (fail)
            go_wp2_with fail
            go_ret
            rw [HNN.out]
            exact ⟨rfl, rdrewN HBL.out _⟩
        · have HNN := hid_of (HN.out (.inl e1))
          have q1 : ((str x).toList == (str y).toList) = false := by rw [str_toList, str_toList]; exact beq_eq_false_iff_ne.2 e1
          clear HY HN e1
          go_wp2_with fail
          go_quiet (fail)
          go_wp2_with fail
          go_ret
          rw [HNN.out]
          exact ⟨rfl, rdrewN HBL.out _⟩
      · obtain rfl : k = l.length := by omega
        have e : (l == m) = true := by
          rw [beq_iff_eq]
          have := hd.out
          rw [List.take_length, hne, List.take_length] at this
          exact this
        have HBL := hid_of hbl
        have HE := hid_of e
        clear e hd hbl
        go_wp2_with fail
        go_ret
        rw [HE.out]
        exact ⟨rfl, HBL.out⟩
  · have hne' : ((l.length : Int) != (m.length : Int)) = true := by simp; omega
    have e : (l == m) = false := by
      rw [beq_eq_false_iff_ne]
      intro e
      exact hne (congrArg List.length e)
    rw [e]
    go_enter Tryz.func28, Tryz.ntmps28
    go_wp2_with fail
    go_ret
    exact ⟨rfl, Below.refl _ _⟩
end Go.Proofs.YtonjphollmdicaaGreatDoor
namespace Go.Proofs.YtonjphollmdicaaGreatDoor
open Go.ChangeShapes Go.WideShapes Go.ChangeAt Go.RowKit

theorem kExtra_le (s : KSet) : kExtra s ≤ 20 := by have := pickN_lt s.ex 21 (by omega); unfold kExtra; omega
theorem kSlices (s : KSet) : (slicesL (kSize s) (kFiles s)).length ≤ 60 ∧ ∀ t ∈ slicesL (kSize s) (kFiles s), t.length ≤ 8 := by
  obtain ⟨z0, z1, _, _⟩ := kSize_facts s
  refine ⟨?_, fun t ht => ?_⟩
  · have := (kCount_facts s).2
    rw [← rowsL_count (kSize s) (kFiles s) z0] at this
    unfold rowsL at this
    rw [List.length_map] at this
    exact this
  · unfold slicesL at ht
    obtain ⟨f, _, ht⟩ := List.mem_flatMap.1 ht
    rw [(cutL_len f.2 (kSize s) z0).2 t ht]
    exact z1

section
variable {P : Program} {w : World} {ops : Array Oper} {rest : List Oper} {o : Oper} {a : Act} {Q : Exit → Act → World → Prop}
/-- a list more behind a row of the call's own, nil or not -/
theorem wpList_append_rd (hgd : o.guard = none) (s x : Operand) (t : TypeId) (ho : o.op = .call { callee := .builtin .append, args := #[s, x], argTypes := #[t, t] })
    (base : Nat) (e : TypeId) (i : TypeInfo) (z : Value) (bytes : Nat) (ht : P.underlying t = some (.slice e)) (hi : P.info? e = some i) (hz : i.zero = some z)
    (hsize : i.size = 1) (hby : i.bytes = bytes) (hzs : z.cells.size = 1)
    (v : Value) (n : Nat) (xs : List Value) (hs : a.eval s = v) (hown : w.ownsRow base e 1 v n xs)
    (xa : Option Addr) (m c : Nat) (news : List Value) (hx : a.eval x = .slice xa m c) (hl : news.length = m) (hr : Rd w xa news) (hc : xa = none → c = 0) (h1 : ∀ u ∈ news, u.oneCell' = true)
    (h63 : n + m ≤ maxLen) (hbytes : (n + m) * bytes ≤ 140737488355328) (hbase : base ≤ w.heap.size)
    (h : ∀ v' w', w'.ownsRow base e 1 v' (n + m) (xs ++ news) → w.grownBy w' v.ownBlock → wpList P ops Q rest (a.put o.dst v') w') : wpList P ops Q (o :: rest) a w := by
  cases xa with
  | none =>
    have hn : news = [] := by
      cases news with
      | nil => rfl
      | cons u r =>
        obtain ⟨_, _, e, _⟩ := hr 0 u rfl
        cases e
    subst hn
    have hm : m = 0 := by simpa using hl.symm
    subst hm
    rw [hc rfl] at hx
    refine wpList_append_own_none hgd s x t ho base e i 1 ht hi v n xs hs hown hx (h v w ?_ ⟨rfl, rfl, rfl, Nat.le_refl _, fun _ _ _ => rfl⟩)
    simpa using hown
  | some ad =>
    refine wpList_append_own w hgd s x t ho base e i z 1 bytes ht hi hz hsize hby hzs (by decide) v n xs hs hown ad m c news hx (by omega) (fun j u hj => ?_) h1 h63 hbytes hbase (fun v' w' k1 k2 _ => h v' w' k1 k2)
    obtain ⟨b, off, e, hcell⟩ := hr j u hj
    cases e
    have hadd : (⟨b, off, none⟩ : Addr).add j = ⟨b, off + j, none⟩ := by unfold Addr.add; split <;> simp_all
    rw [hadd]
    exact hcell
end

theorem row_all {w : World} {base : Nat} {e : TypeId} {sz : Nat} {v : Value} {n : Nat} {xs : List Value} (h : w.ownsRow base e sz v n xs) : (v = .slice none 0 0 ∧ n = 0) ∨ ∃ g c, v = .slice (some ⟨g, 0, none⟩) n c ∧ n ≤ c ∧ Rd w (some ⟨g, 0, none⟩) xs := by
  obtain ⟨a, cap, e, hr⟩ := row_rd h
  rcases h.2 with ⟨h0, h1⟩ | ⟨g, c, cur, h0, _, _, hc, _⟩
  · exact .inl ⟨h0, h1⟩
  · rw [h0] at e
    cases e
    exact .inr ⟨g, cap, h0, hc, hr⟩
def insL (l : List (List UInt8)) (at' : Nat) (t : List UInt8) : List (List UInt8) := l.take at' ++ [t] ++ l.drop at'
theorem insL_mem (l : List (List UInt8)) (at' : Nat) (t x : List UInt8) : x ∈ insL l at' t ↔ x ∈ l ∨ x = t := by
  unfold insL
  rw [List.mem_append, List.mem_append, List.mem_singleton]
  constructor
  · rintro ((h | h) | h)
    · exact .inl (List.mem_of_mem_take h)
    · exact .inr h
    · exact .inl (List.mem_of_mem_drop h)
  · rintro (h | h)
    · rw [← List.take_append_drop at' l, List.mem_append] at h
      rcases h with h | h
      · exact .inl (.inl h)
      · exact .inr h
    · exact .inl (.inr h)
theorem strV_one (l : List (List UInt8)) : ∀ u ∈ strV l, u.oneCell' = true := by
  intro u hu
  unfold strV at hu
  obtain ⟨x, _, rfl⟩ := List.mem_map.1 hu
  rfl
theorem rd_tail {w : World} {g k vc A : Nat} {VL : List (List UInt8)} (hr : Rd w (some ⟨g, 0, none⟩) (strV VL)) (hl : VL.length = k) (hc : k ≤ vc) (xa : Option Addr) (h : xa = some ⟨g, A, none⟩ ∨ vc - A = 0) : Rd w xa (strV (VL.drop A)) := by
  intro j u hj
  have hlt : A + j < VL.length := by
    have := (List.getElem?_eq_some_iff.1 hj).1
    simp [strV] at this
    omega
  rcases h with rfl | h
  · unfold strV at hj
    rw [List.getElem?_map, List.getElem?_drop] at hj
    obtain ⟨b, o, e, hcell⟩ := hr (A + j) u (by unfold strV; rw [List.getElem?_map]; exact hj)
    cases e
    rw [Nat.zero_add] at hcell
    exact ⟨g, A, rfl, hcell⟩
  · omega
theorem ins_row {w : World} {base base' : Nat} {v : Value} {n m : Nat} {xs ys : List Value} (hb : base' ≤ base) (h : w.ownsRow base 9 1 v n xs) (hn : n = m) (hx : ys = xs) : w.ownsRow base' 9 1 v m ys := by
  subst hn hx
  exact ownsRow_base hb h
def outA (r : List FileL ⊕ Nat) : List FileL := match r with | .inl fl => fl | .inr _ => []
def outN' (r : List FileL ⊕ Nat) : Nat := match r with | .inl _ => 0 | .inr n => n
theorem rep_out {r : List FileL ⊕ Nat} {w w' : World} {e : Ending} (h : RepRes r w e w') : Below w.heap.size w w' ∧ ∃ (a : Option Addr) (c : Nat), e = .returned (.tuple #[.slice a (outA r).length c, .int .i64 ((outN' r : Nat) : Int)]) ∧ Rd w' a (filesV (outA r)) := by
  obtain ⟨hb, h⟩ := h
  refine ⟨hb, ?_⟩
  cases r with
  | inr n => exact ⟨none, 0, h, fun k u hk => by simp [outA, filesV] at hk⟩
  | inl fl =>
    obtain ⟨v, rfl, ho⟩ := h
    obtain ⟨a, c, rfl, hr⟩ := row_rd ho
    exact ⟨a, c, rfl, hr⟩
/-- of a Repair that refuses -/
theorem rep_no {n : Nat} {w w' : World} {e : Ending} (h : RepRes (.inr n) w e w') : Below w.heap.size w w' ∧ e = .returned (.tuple #[.slice none 0 0, .int .i64 (n : Int)]) := h
/-- of a Look that refuses -/
theorem look_no {n : Nat} {w w' : World} {e : Ending} (h : LookRes (.inr n) w e w') : Below w.heap.size w w' ∧ e = .returned (.tuple #[.agg #[.slice none 0 0, .slice none 0 0, .int .i64 0, .int .i64 0], .int .i64 (n : Int)]) := h

end Go.Proofs.YtonjphollmdicaaGreatDoor
