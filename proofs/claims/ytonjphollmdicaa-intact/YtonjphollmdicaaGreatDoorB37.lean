import Derived.Test.YtonjphollmdicaaGreatDoorB03
import Derived.Test.YtonjphollmdicaaGreatDoorB04
import Derived.Test.YtonjphollmdicaaGreatDoorB05
import Derived.Test.YtonjphollmdicaaGreatDoorB34
import Derived.Test.YtonjphollmdicaaGreatDoorB36
import Derived.Deep.RegionHeld
namespace Go.Proofs.YtonjphollmdicaaGreatDoor

/-! packets twice, in another order, in one volume; some that are gone -/
theorem find_all {size : Nat} {fs : List FileL} {extra : Nat} (h0 : 0 < size) (h32 : size ≤ 32) (hg : goodSet fs size = true) : ∀ gs : List FoundL, (∀ g ∈ gs, g ∈ madeFound size fs extra) → findV (gs.map sealF).flatten = gs
  | [], _ => findV_nil
  | g :: r, h => by
    rw [List.map_cons, List.flatten_cons, made_find h0 h32 hg (h g (List.mem_cons_self ..)), find_all h0 h32 hg r (fun x hx => h x (List.mem_cons_of_mem _ hx))]
theorem handed_ok {handed : List FileL} {vs : List (List UInt8)} (hh : HandF handed) (hn : vs.length ≤ 40) (hv : ∀ t ∈ vs, t.length ≤ 4000) : handedL handed vs = true := by
  unfold handedL
  simp only [Bool.and_eq_true, decide_eq_true_eq, List.all_eq_true]
  exact ⟨⟨⟨hh.1, hn⟩, fun f hf => (hh.2 f hf).2⟩, hv⟩
theorem find_mem {vs : List (List UInt8)} {g : FoundL} : g ∈ findL vs ↔ ∃ t ∈ vs, g ∈ findV t := by unfold findL; exact List.mem_flatMap
theorem packet_found {size : Nat} {fs : List FileL} {extra : Nat} (h0 : 0 < size) (h32 : size ≤ 32) (hg : goodSet fs size = true) {g : FoundL} (h : g ∈ madeFound size fs extra) : findV (sealF g) = [g] := by
  have := made_find h0 h32 hg h []
  rwa [List.append_nil, findV_nil] at this
/-- the same volumes but for their order, some twice, and one that holds all -/
theorem dbl_looked {size : Nat} {fs : List FileL} {extra : Nat} {handed : List FileL} (hs : sliceSize (size : Int) = true) (h2 : 2 ≤ size) (h32 : size ≤ 32) (hev : size % 2 = 0) (hex : extra ≤ 20) (hg : goodSet fs size = true) (hh : HandF handed) : ∀ v : List (List UInt8), v.length ≤ 40 → (∀ t ∈ v, t ∈ packetsL size fs extra ∨ (t = (packetsL size fs extra).flatten ∧ t.length ≤ 4000)) → (∀ t ∈ packetsL size fs extra, t ∈ v) → lookedL handed v = .inl (leftOf handed ⟨size, fs.map (descOf size), (List.range 20).map fun j => if j < extra ∧ (fun _ => true) j = true then textL (extraL (rowsL size fs) (size / 2) j) else []⟩) := by
  have h0 : 0 < size := by omega
  have hsh := packets_short (extra := extra) h0 h32 hg
  obtain ⟨_, _, h6, _⟩ := set_file hg
  intro v hn hin hall
  have hLf : LeftOf size fs extra (findL v) := by
    intro g hgm
    obtain ⟨t, ht, hgt⟩ := find_mem.1 hgm
    rcases hin t ht with h | ⟨rfl, _⟩
    · rw [packets_map] at h
      obtain ⟨x, hx, rfl⟩ := List.mem_map.1 h
      rw [packet_found h0 h32 hg hx, List.mem_singleton] at hgt
      rw [hgt]
      exact .inl hx
    · rw [packets_map, find_all h0 h32 hg _ (fun x hx => hx)] at hgt
      exact .inl hgt
  have hmm : ∀ g ∈ madeFound size fs extra, g ∈ findL v := by
    intro g hgm
    refine find_mem.2 ⟨sealF g, hall _ (by rw [packets_map]; exact List.mem_map.2 ⟨g, hgm, rfl⟩), ?_⟩
    rw [packet_found h0 h32 hg hgm]
    exact List.mem_singleton.2 rfl
  have hhd := handed_ok (vs := v) hh hn (fun t ht => by
    rcases hin t ht with h | ⟨_, h⟩
    · exact hsh t h
    · exact h)
  rw [looked_left hs h0 h32 hg hLf (hmm _ (m_made _ _ _)) (fun i hi => hmm _ (f_made _ _ _ hi)) hhd, left_exs h32 hev hex hg hLf (fun _ => true) (fun j hj => by simp only [iff_true]; exact hmm _ (r_made _ _ _ hj))]
theorem double_eq {size : Nat} {fs : List FileL} {extra : Nat} {handed : List FileL} {v : List (List UInt8)} (hs : sliceSize (size : Int) = true) (h2 : 2 ≤ size) (h32 : size ≤ 32) (hev : size % 2 = 0) (hex : extra ≤ 20) (hg : goodSet fs size = true) (hh : HandF handed) (hn : v.length ≤ 40)
    (hin : ∀ t ∈ v, t ∈ packetsL size fs extra ∨ (t = (packetsL size fs extra).flatten ∧ t.length ≤ 4000)) (hall : ∀ t ∈ packetsL size fs extra, t ∈ v) : repairL handed v = repairL handed (packetsL size fs extra) := by
  have h0 : 0 < size := by omega
  obtain ⟨_, _, h6, _⟩ := set_file hg
  have key := dbl_looked (handed := handed) hs h2 h32 hev hex hg hh
  unfold repairL
  rw [key v hn hin hall, key (packetsL size fs extra) (by rw [packets_length]; omega) (fun t ht => .inl ht) (fun t ht => ht)]
theorem joinD_len : ∀ (ds : List DescL) (s : List (List UInt8)), (joinL ds s).length = ds.length
  | [], _ => rfl
  | d :: r, s => by
    unfold joinL
    rw [List.length_cons, List.length_cons, joinD_len r]
theorem dbl_len {size : Nat} {fs : List FileL} {extra : Nat} {handed : List FileL} (hs : sliceSize (size : Int) = true) (h2 : 2 ≤ size) (h32 : size ≤ 32) (hev : size % 2 = 0) (hex : extra ≤ 20) (hg : goodSet fs size = true) (hh : HandF handed) (fl : List FileL) (h : repairL handed (packetsL size fs extra) = .inl fl) : fl.length = fs.length := by
  obtain ⟨_, _, h6, _⟩ := set_file hg
  have key := dbl_looked (handed := handed) (extra := extra) hs h2 h32 hev hex hg hh
  unfold repairL at h
  rw [key (packetsL size fs extra) (by rw [packets_length]; omega) (fun t ht => .inl ht) (fun t ht => ht)] at h
  dsimp only at h
  split at h
  · cases h
  · split at h
    · cases h
      unfold madeL leftOf
      rw [joinD_len, List.length_map]
    · cases h
theorem look_err {handed : List FileL} {vs : List (List UInt8)} {n : Nat} (hd : handedL handed vs = true) (h : readL (findL vs) = .inr n) : lookP handed vs = .inr n := by
  rw [lookP_eq]
  unfold lookedL
  rw [if_pos hd, h]
theorem repair_err {handed : List FileL} {vs : List (List UInt8)} {n : Nat} (hd : handedL handed vs = true) (h : readL (findL vs) = .inr n) : repairL handed vs = .inr n := by
  unfold repairL lookedL
  rw [if_pos hd, h]
theorem found_of {size : Nat} {fs : List FileL} {extra : Nat} (h0 : 0 < size) (h32 : size ≤ 32) (hg : goodSet fs size = true) : ∀ gs : List FoundL, (∀ g ∈ gs, g ∈ madeFound size fs extra) → findL (gs.map sealF) = gs
  | [], _ => rfl
  | g :: r, h => by
    have ih := found_of h0 h32 hg r (fun x hx => h x (List.mem_cons_of_mem _ hx))
    unfold findL at ih ⊢
    rw [List.map_cons, List.flatMap_cons, packet_found h0 h32 hg (h g (List.mem_cons_self ..)), ih]
    rfl
/-- without the first packet -/
theorem look_nom {size : Nat} {fs : List FileL} {extra : Nat} {handed : List FileL} (h0 : 0 < size) (h32 : size ≤ 32) (hex : extra ≤ 20) (hg : goodSet fs size = true) (hh : HandF handed) : lookP handed ((packetsL size fs extra).drop 1) = .inr 3 := by
  obtain ⟨_, _, h6, _⟩ := set_file hg
  have hsh := packets_short (extra := extra) h0 h32 hg
  have hin : ∀ g ∈ (madeFound size fs extra).drop 1, g ∈ madeFound size fs extra := fun g h => List.mem_of_mem_drop h
  refine look_err (handed_ok hh (by rw [List.length_drop, packets_length]; omega) (fun t ht => hsh t (List.mem_of_mem_drop ht))) ?_
  rw [packets_map, ← List.map_drop, found_of h0 h32 hg _ hin]
  refine read_noset (extra := extra) (fun g hgm => .inl (hin g hgm)) ?_
  intro hm
  unfold madeFound at hm
  rw [List.drop_one, List.tail_cons, List.mem_append, List.mem_map, List.mem_map] at hm
  rcases hm with ⟨i, _, e⟩ | ⟨j, _, e⟩
  · exact absurd (congrArg FoundL.kind e) (by simp [fFound, mFound])
  · exact absurd (congrArg FoundL.kind e) (by simp [rFound, mFound])
/-- without one that describes a file -/
theorem look_nof {size : Nat} {fs : List FileL} {extra i : Nat} {handed : List FileL} (hs : sliceSize (size : Int) = true) (h0 : 0 < size) (h32 : size ≤ 32) (hex : extra ≤ 20) (hg : goodSet fs size = true) (hh : HandF handed) (hi : i < fs.length) : lookP handed ((packetsL size fs extra).take (1 + i) ++ (packetsL size fs extra).drop (1 + i + 1)) = .inr 4 := by
  obtain ⟨hff, _, h6, _⟩ := set_file hg
  have hsh := packets_short (extra := extra) h0 h32 hg
  have hin : ∀ g ∈ (madeFound size fs extra).take (1 + i) ++ (madeFound size fs extra).drop (1 + i + 1), g ∈ madeFound size fs extra := fun g h => by
    rcases List.mem_append.1 h with h | h
    · exact List.mem_of_mem_take h
    · exact List.mem_of_mem_drop h
  have hpl := packets_length size fs extra
  refine look_err (handed_ok hh (by rw [List.length_append, List.length_take, List.length_drop]; omega) (fun t ht => by
    rcases List.mem_append.1 ht with h | h
    · exact hsh t (List.mem_of_mem_take h)
    · exact hsh t (List.mem_of_mem_drop h))) ?_
  rw [packets_map, ← List.map_take, ← List.map_drop, ← List.map_append, found_of h0 h32 hg _ hin]
  refine read_nolist (extra := extra) hs h0 h32 hg (fun g hgm => .inl (hin g hgm)) ?_ hi ?_
  · refine List.mem_append_left _ ?_
    unfold madeFound
    rw [Nat.add_comm, List.take_succ_cons]
    exact List.mem_cons_self ..
  · intro hm
    have hml := made_len size fs extra
    obtain ⟨q, hq, e⟩ : ∃ q, q ≠ 1 + i ∧ (madeFound size fs extra)[q]? = some (fFound size fs i) := by
      rcases List.mem_append.1 hm with h | h
      · obtain ⟨q, hq, e⟩ := List.mem_iff_getElem.1 h
        rw [List.length_take] at hq
        rw [List.getElem_take] at e
        exact ⟨q, by omega, List.getElem?_eq_some_iff.2 ⟨by omega, e⟩⟩
      · obtain ⟨q, hq, e⟩ := List.mem_iff_getElem.1 h
        rw [List.length_drop] at hq
        rw [List.getElem_drop] at e
        exact ⟨1 + i + 1 + q, by omega, List.getElem?_eq_some_iff.2 ⟨by omega, e⟩⟩
    have hql : q < 1 + fs.length + extra := by rw [← hml]; exact (List.getElem?_eq_some_iff.1 e).1
    by_cases c0 : q = 0
    · subst c0
      unfold madeFound at e
      rw [List.getElem?_cons_zero] at e
      exact absurd (congrArg FoundL.kind (Option.some.inj e)) (by simp [fFound, mFound])
    · obtain ⟨m, rfl⟩ : ∃ m, q = m + 1 := ⟨q - 1, by omega⟩
      by_cases c1 : m < fs.length
      · rw [made_fat size fs extra m c1] at e
        have e2 := congrArg FoundL.body (Option.some.inj e)
        rw [fF_body, fF_body, body_at m c1, body_at i hi] at e2
        have a1 := hff _ (List.getElem_mem c1)
        have a2 := hff _ (List.getElem_mem hi)
        have n1 := (form_made m size fs[m].1 fs[m].2 a1.1 a1.2.1 a1.2.2 h0).2.1
        have n2 := (form_made i size fs[i].1 fs[i].2 a2.1 a2.2.1 a2.2.2 h0).2.1
        rw [e2, n2] at n1
        have := congrArg UInt8.toNat n1
        rw [byte_small (by omega), byte_small (by omega)] at this
        omega
      · have e0 := made_rat size fs extra (m - fs.length) (by omega)
        rw [show 1 + fs.length + (m - fs.length) = m + 1 from by omega] at e0
        rw [e0] at e
        exact absurd (congrArg FoundL.kind (Option.some.inj e)) (by simp [fFound, rFound])
theorem repair_none {handed : List FileL} (hh : HandF handed) : repairL handed [] = .inr 3 := repair_err (handed_ok hh (by simp) (by simp)) rfl
end Go.Proofs.YtonjphollmdicaaGreatDoor
namespace Go.Proofs.YtonjphollmdicaaGreatDoor
open Go.ChangeShapes Go.WideShapes Go.ChangeAt Go.RowKit

/-- is a slice a piece of some file -/
def thereL (l : List FileL) (b : Nat) (s : List UInt8) : Bool := l.any fun f => (List.range f.2.length).any fun j => pieceAt f.2 b j == s

set_option maxRecDepth 100000 in
set_option maxHeartbeats 1000000 in
theorem kthere_walk (l : List FileL) (b : Nat) (s : List UInt8) (a : Option Addr) (c : Nat) (hb1 : 1 ≤ b) (hb2 : b ≤ 8) (hl : l.length ≤ 1000) (hf : ∀ f ∈ l, f.2.length ≤ 1000) (w : World) (ha : Rd w a (filesV l)) :
    Calls Tryz.prog 33 #[.slice a l.length c, .int .i64 (b : Int), .string (str s)] w fun e w' => e = .returned (.bool (thereL l b s)) ∧ Below w.heap.size w w' := by
  obtain ⟨i0, hi, hz0, hz1, hz2⟩ := info_parts Tryz.info8
  have hmk : ∀ W : World, (Instr.makeSlice 67 (.int .i64 ((b : Int) - 1)) (.int .i64 ((b : Int) - 1))).run Tryz.prog W = .ok (.slice (some ⟨W.heap.size, 0, none⟩) (b - 1) (b - 1)) (W.alloc (.cells (madeCells #[.int .u8 0] (b - 1)) 5)) := fun W => by
    rw [show (b : Int) - 1 = ((b - 1 : Nat) : Int) from by omega]
    exact run_make_row' 67 5 (.int .u8 0) 1 Tryz.underlying67 Tryz.info8 rfl .i64 .i64 (b - 1) (by omega) (by omega) W
  have hcg : ∀ (V : World) (B : Nat), Blk V B (madeCells #[.int .u8 0] (b - 1)).toList → (convert 67 9 (.slice (some ⟨B, 0, none⟩) (b - 1) (b - 1))).run Tryz.prog V = .ok (.string (str (List.replicate (b - 1) 0))) V := fun V B hV => by
    have := run_convert_bytes_back V 67 9 5 ⟨B, 0, none⟩ (b - 1) (List.replicate (b - 1) 0) Tryz.underlying67 Tryz.underlying5 Tryz.underlying9 (fun j hj => by
      have hj' : j < b - 1 := by simpa using hj
      have hadd : (⟨B, 0, none⟩ : Addr).add j = ⟨B, j, none⟩ := by unfold Addr.add; split <;> simp_all
      rw [hadd]
      refine (hV j (.int .u8 0) (by rw [toList_madeCells_one, List.getElem?_replicate, if_pos hj'])).1.trans ?_
      simp)
    rw [List.length_replicate] at this
    exact this
  have hcv0 := fun W : World => hcg _ _ (Blk.new W (madeCells #[.int .u8 0] (b - 1)) 5)
  have hcv1 := fun W : World => hcg _ _ (Blk.new W (madeCells #[.int .u8 0] (b - 1)) 5).drew
  have hcv2 := fun W : World => hcg _ _ (Blk.new W (madeCells #[.int .u8 0] (b - 1)) 5).drew.drew
  have hcv3 : ∀ W : World, (convert 67 9 (.slice (some ⟨W.heap.size, 0, none⟩) (b - 1) (b - 1))).run Tryz.prog (W.drew.alloc (.cells (madeCells #[.int .u8 0] (b - 1)) 5)) = _ := fun W => hcg _ _ (Blk.new W.drew (madeCells #[.int .u8 0] (b - 1)) 5)
  clear hcg
  have HA := hid_of ha
  have HF := hid_of hf
  have hss := str_size s
  clear ha hf
  go_enter Tryz.func33, Tryz.ntmps33
  go_wp2_with fail
  go_loopw [7] (fun i wr => ∃ k : Nat, k ≤ l.length ∧ i = .int .i64 (k : Int) ∧ Below w.heap.size w wr ∧ Hid (thereL (l.take k) b s = false))
    (fun i _ => l.length - (intOf i).toNat)
  case atStart => exact ⟨0, by omega, rfl, Below.refl _ _, hid_of (by simp [thereL])⟩
  case round =>
    obtain ⟨k, hk, rfl, hbl, hd⟩ := hrel
    by_cases hlt : k < l.length
    · obtain ⟨b1, o1, rfl, hc1, hc1'⟩ := fileCells HA.out (Nat.le_refl _) hbl k hlt
      have hfl := HF.out _ (List.getElem_mem hlt)
      have hstep : thereL (l.take (k + 1)) b s = (List.range l[k].2.length).any fun j => pieceAt l[k].2 b j == s := by
        have := hd.out
        unfold thereL at this ⊢
        rw [take_snoc l k hlt, List.any_append, this, Bool.false_or, List.any_cons, List.any_nil, Bool.or_false]
      have hyes : (List.range l[k].2.length).any (fun j => pieceAt l[k].2 b j == s) = true → thereL l b s = true := by
        intro h
        unfold thereL
        exact List.any_eq_true.2 ⟨l[k], List.getElem_mem hlt, h⟩
      have HST := hid_of hstep
      have HYE := hid_of hyes
      have HBL := hid_of hbl
      have hszr := hbl.size
      have g1 : (k : Int) < (l.length : Int) := by omega
      obtain ⟨x, hx⟩ : ∃ x, x = l[k].2 := ⟨_, rfl⟩
      rw [← hx] at hc1' HST HYE hfl
      have hxs := str_size x
      clear hstep hyes hbl hd hx
      have hcat : str x ++ str (List.replicate (b - 1) 0) = str (fillL x b) := by rw [str_add, str_data]; rfl
      have hrs : (str (List.replicate (b - 1) 0)).size = b - 1 := by rw [str_size, List.length_replicate]
      have hwr : IntKind.i64.wrap ((b : Int) - 1) = (b : Int) - 1 := by
        first | go_num | (apply wrap_i64 <;> omega) | (unfold IntKind.wrap; simp; omega) | (unfold IntKind.wrap; simp [IntKind.bits, IntKind.signed]; omega)
      have hS : ∀ W, Below wr.heap.size wr W → W.cell? ⟨b1, o1 + k * 2 + 1, none⟩ = some (.string (str x)) ∧ Below wr.heap.size wr W := fun W hW => ⟨(hW.cell (World.block_lt_of_cell? wr _ hc1')).trans hc1', hW⟩
      have HS := hid_of hS
      clear hS
      go_wp2_with fail
      go_region_held (fun W => W.cell? ⟨b1, o1 + k * 2 + 1, none⟩ = some (.string (str x)) ∧ Below wr.heap.size wr W)
        (first | assumption | exact HS.out _ (Below.refl _ _).drew | exact HS.out _ (((Below.refl _ wr).alloc (Nat.le_refl _) _).drew) | exact HS.out _ ((Below.refl _ wr).drew.alloc (Nat.le_refl _) _))
        (fail)
      have hB1 := HS.out _ (((Below.refl _ wr).alloc (Nat.le_refl _) (.cells (madeCells #[.int .u8 0] (b - 1)) 5)).drew)
      obtain ⟨W1, hW1⟩ : ∃ x, x = (wr.alloc (.cells (madeCells #[.int .u8 0] (b - 1)) 5)).drew := ⟨_, rfl⟩
      rw [← hW1] at hB1 ⊢
      have hfs : (str (fillL x b)).size = x.length + (b - 1) := by rw [str_size]; simp [fillL]
      have HB1 := hid_of hB1
      clear hW1 hB1 hmk hcv0 hcv1 hcv2 hcv3 hcat hrs
      go_wp2_with fail
      go_loopw [9] (fun i W2 => ∃ j : Nat, j ≤ x.length ∧ i = .int .i64 (j : Int) ∧ Below wr.heap.size wr W2 ∧ Hid ((List.range j).any (fun j => pieceAt x b j == s) = false))
        (fun i _ => x.length - (intOf i).toNat)
      case atStart => exact ⟨0, by omega, rfl, HB1.out.2, hid_of (by simp)⟩
      case round =>
        obtain ⟨j, hj, rfl, hbl2, hd2⟩ := hrel
        obtain ⟨hq, _⟩ := HS.out _ hbl2
        have HBL2 := hid_of hbl2
        clear hbl2
        by_cases hlt2 : j < x.length
        · have hex : (str (fillL x b)).extract j (j + b) = str (pieceAt x b j) := by
            rw [str_extract, Nat.add_sub_cancel_left]
            rfl
          have hnx : (List.range (j + 1)).any (fun j => pieceAt x b j == s) = (pieceAt x b j == s) := by
            rw [List.range_succ, List.any_append, hd2.out, Bool.false_or, List.any_cons, List.any_nil, Bool.or_false]
          have hin : pieceAt x b j = s → thereL l b s = true := fun h => HYE.out (List.any_eq_true.2 ⟨j, List.mem_range.2 hlt2, by rw [h]; exact beq_self_eq_true s⟩)
          have HNX := hid_of hnx
          have HIN := hid_of hin
          obtain ⟨p, hp⟩ : ∃ p, p = pieceAt x b j := ⟨_, rfl⟩
          rw [← hp] at hex HNX HIN
          clear hnx hin hp hd2
          by_cases e1 : p = s
          · have HI := hid_of (HIN.out e1)
            subst e1
            clear HIN HNX
            go_wp2_with fail
            try go_quiet (fail)
            go_wp2_with fail
            go_ret
            rw [HI.out]
            first | exact ⟨rfl, rdrewN (HBL.out.trans (HBL2.out.mono hszr)) _⟩ | exact ⟨rfl, HBL.out.trans (HBL2.out.mono hszr)⟩
          · have hne : (p == s) = false := beq_eq_false_iff_ne.2 e1
            have q1 : ((str p).toList == (str s).toList) = false := by rw [str_toList, str_toList]; exact hne
            have HN := hid_of (HNX.out.trans hne)
            clear HIN HNX hne e1
            go_wp2_with fail
            try go_quiet (fail)
            go_wp2_with fail
            first | exact ⟨⟨j + 1, by omega, by go_num, rdrewN HBL2.out _, HN⟩, by simp [intOf]; omega⟩ | exact ⟨⟨j + 1, by omega, by go_num, HBL2.out, HN⟩, by simp [intOf]; omega⟩
        · obtain rfl : j = x.length := by omega
          have HN := hid_of (HST.out.trans hd2.out)
          clear hd2
          go_wp2_with fail
          go_roundw
          case rel => exact ⟨k + 1, by omega, by go_num, HBL.out.trans (HBL2.out.mono hszr), HN⟩
          case measure => simp [intOf]; omega
    · obtain rfl : k = l.length := by omega
      have HN := hid_of hd.out
      have hd' := hd.out
      rw [List.take_length] at hd'
      have HD := hid_of hd'
      have HBL := hid_of hbl
      clear hd hd' hbl
      go_wp2_with fail
      go_ret
      rw [HD.out]
      exact ⟨rfl, HBL.out⟩
end Go.Proofs.YtonjphollmdicaaGreatDoor
namespace Go.Proofs.YtonjphollmdicaaGreatDoor
open Go.ChangeShapes Go.WideShapes Go.ChangeAt Go.RowKit

theorem khash_l (l : List UInt8) (hl : l.length ≤ 1000000) (w : World) :
    Calls Tryz.prog 31 #[.string (str l)] w fun e w' => e = .returned (.int .u64 ((hashL l : Nat) : Int)) ∧ w' = w := by
  have hs : (str l).size = l.length := str_size l
  go_enter Tryz.func31, Tryz.ntmps31
  go_wp2
  go_loop [3, 4] (fun x i => ∃ k h' : Nat, k ≤ l.length ∧ h' < P64 ∧ Hid ((l.drop k).foldl hashStep h' = hashL l) ∧ x = .int .u64 (h' : Int) ∧ i = .int .i64 (k : Int))
                    (fun _ i => l.length - (intOf i).toNat)
  case atStart => exact ⟨0, 14695981039346656037, by omega, by decide, hid_of rfl, rfl, rfl⟩
  case round =>
    obtain ⟨k, h', hk, hh', hm, rfl, rfl⟩ := hrel
    by_cases hlt : k < l.length
    · have hix := index_str l k (k : Int) rfl hlt
      go_wp2
      refine ⟨⟨k + 1, hashStep h' l[k], by omega, hashStep_lt _ _, hid_of ?_, by rw [hashStep_spelt h' hh'], by go_num⟩, ?_⟩
      · have := hm.out
        rw [List.drop_eq_getElem_cons hlt, List.foldl_cons] at this
        exact this
      · simp [intOf]; omega
    · have hk2 : k = l.length := by omega
      subst hk2
      go_wp2
      go_ret
      have := hm.out
      rw [List.drop_eq_nil_of_le (Nat.le_refl _)] at this
      simp only [List.foldl_nil] at this
      rw [← this]
      exact ⟨rfl, rfl⟩

end Go.Proofs.YtonjphollmdicaaGreatDoor
