import Derived.Test.YtonjphollmdicaaGreatDoorB01
import Derived.Test.YtonjphollmdicaaGreatDoorB02
import Derived.Lib.ConvBytes
import Derived.Deep.RegionHeld
import Derived.Deep.RegionHeld3
import Derived.RegionTactic
import Derived.ChangeAlike
import Derived.BigRegion
namespace Go.Proofs.YtonjphollmdicaaGreatDoor
open Go.ChangeShapes Go.WideShapes Go.ChangeAt Go.RowKit
structure RdAt (B : Nat) (s : List UInt8 × Bool) (w : World) : Prop where
  c0 : w.cell? ⟨B, 0, none⟩ = some (.string (str s.1))
  c1 : w.cell? ⟨B, 1, none⟩ = some (.bool s.2)
  f0 : w.frozen? ⟨B, 0, none⟩ = false
  f1 : w.frozen? ⟨B, 1, none⟩ = false
theorem RdAt.lt {B : Nat} {s : List UInt8 × Bool} {w : World} (h : RdAt B s w) : B < w.heap.size := World.block_lt_of_cell? w _ h.c0
theorem RdAt.touch {B : Nat} {s : List UInt8 × Bool} {w w' : World} (h : RdAt B s w) {L : List Nat} (ht : Touch L w w') (hL : B ∉ L) : RdAt B s w' :=
  ⟨by rw [ht.cell (x := ⟨B, 0, none⟩) h.lt hL]; exact h.c0, by rw [ht.cell (x := ⟨B, 1, none⟩) h.lt hL]; exact h.c1, by rw [ht.frozen (x := ⟨B, 0, none⟩) h.lt hL]; exact h.f0, by rw [ht.frozen (x := ⟨B, 1, none⟩) h.lt hL]; exact h.f1⟩
theorem RdAt.set0 {B : Nat} {r r' : List UInt8} {sh : Bool} {w : World} (h : RdAt B (r, sh) w) : RdAt B (r', sh) (w.setCell ⟨B, 0, none⟩ (.string (str r'))) := by
  obtain ⟨c0, c1, f0, f1⟩ := h
  exact ⟨World.cell?_setCell_same _ _ _ c0, by rw [World.cell?_setCell_other _ _ _ _ (by simp)]; exact c1, by rw [World.frozen?_setCell]; exact f0, by rw [World.frozen?_setCell]; exact f1⟩
theorem RdAt.set1 {B : Nat} {r : List UInt8} {sh sh' : Bool} {w : World} (h : RdAt B (r, sh) w) : RdAt B (r, sh') (w.setCell ⟨B, 1, none⟩ (.bool sh')) := by
  obtain ⟨c0, c1, f0, f1⟩ := h
  exact ⟨by rw [World.cell?_setCell_other _ _ _ _ (by simp)]; exact c0, World.cell?_setCell_same _ _ _ c1, by rw [World.frozen?_setCell]; exact f0, by rw [World.frozen?_setCell]; exact f1⟩
set_option maxRecDepth 100000 in
theorem text_walk (B : Nat) (s : List UInt8 × Bool) (n : Nat) (hs : s.1.length ≤ 1000000) (w : World) (h : RdAt B s w) :
    Calls Tryz.prog 139 #[.pointer (some ⟨B, 0, none⟩), .int .i64 (n : Int)] w fun e w' => e = .returned (.string (str (rdT s n))) ∧ RdAt B (rdS s n) w' ∧ Touch [B] w w' := by
  obtain ⟨r, sh⟩ := s
  have H := hid_of h
  obtain ⟨c0, c1, f0, f1⟩ := h
  simp only at c0 c1 hs
  have hss := str_size r
  by_cases hc : n ≤ r.length
  · have a1 : ¬ ((r.length : Int) < (n : Int)) := by omega
    have e1 : rdT (r, sh) n = r.take n := rdT_ok hc
    have e2 : rdS (r, sh) n = (r.drop n, sh) := rdS_ok hc
    have ex1 : (str r).extract 0 n = str (r.take n) := by rw [str_extract]; simp
    have ex2 : (str r).extract n r.length = str (r.drop n) := by rw [str_extract]; rw [List.take_of_length_le (by simp)]
    rw [e1, e2]
    clear e1 e2
    go_enter Tryz.func139, Tryz.ntmps139
    go_wp2_with fail
    go_ret
    exact ⟨rfl, H.out.set0, (Touch.refl _ _).setCell (.inl (by simp)) _⟩
  · have a1 : (r.length : Int) < (n : Int) := by omega
    have e1 : rdT (r, sh) n = [] := rdT_no (by simpa using hc)
    have e2 : rdS (r, sh) n = ([], true) := rdS_no (by simpa using hc)
    rw [e1, e2]
    clear e1 e2
    go_enter Tryz.func139, Tryz.ntmps139
    go_wp2_with fail
    go_ret
    exact ⟨rfl, H.out.set0.set1, ((Touch.refl _ _).setCell (.inl (by simp)) _).setCell (.inl (by simp)) _⟩
theorem shl_spelt (n : Nat) (b : UInt8) : bits BinOp.or IntKind.u64 (IntKind.u64.wrap ((n : Int) * 256)) (IntKind.u64.wrap (b.toNat : Int)) = ((numStep n b : Nat) : Int) := by
  have hb := b.toNat_lt
  have e1 : IntKind.u64.wrap ((n : Int) * 256) = ((2 ^ 8 * (n % 72057594037927936) : Nat) : Int) := by rw [IntKind.wrap_u64]; omega
  have e2 : IntKind.u64.wrap (b.toNat : Int) = (b.toNat : Int) := by rw [IntKind.wrap_u64]; omega
  rw [e1, e2, u64_or_nat _ b.toNat (by omega) (by omega), ← Nat.two_pow_add_eq_or_of_lt (i := 8) (b := b.toNat) (by omega)]
  unfold numStep P64
  omega
set_option maxRecDepth 100000 in
theorem number_walk (B : Nat) (s : List UInt8 × Bool) (n : Nat) (hs : s.1.length ≤ 1000000) (hn : n ≤ 1000000) (w : World) (h : RdAt B s w) :
    Calls Tryz.prog 140 #[.pointer (some ⟨B, 0, none⟩), .int .i64 (n : Int)] w fun e w' => e = .returned (.int .u64 ((numL (rdT s n) : Nat) : Int)) ∧ RdAt B (rdS s n) w' ∧ Touch [B] w w' := by
  have HT := hid_of (text_walk B s n hs w h)
  obtain ⟨l, hl⟩ : ∃ l, l = rdT s n := ⟨_, rfl⟩
  have hll : l.length ≤ 1000000 := by rw [hl]; exact Nat.le_trans (rdT_len s n) hn
  rw [← hl] at HT ⊢
  clear hl h
  have hcv := fun W => Lib.run_convert_string_bytes (P := Tryz.prog) W 9 67 5 (str l) Tryz.underlying9 Tryz.underlying67 Tryz.underlying5
  go_enter Tryz.func140, Tryz.ntmps140
  go_wp2_with fail
  refine HT.out.mono ?_
  rintro e w1 ⟨rfl, hr1, ht1⟩
  have hss := str_size l
  have hcell := fun j (hj : j < l.length) => Lib.bytesWorld_cell w1 5 (str l) j (by rw [hss]; exact hj)
  have hbw : Below w1.heap.size w1 (Lib.bytesWorld w1 5 (str l)) := ⟨rfl, rfl, rfl, by rw [Lib.bytesWorld_size]; omega, fun k hk => Lib.bytesWorld_at_old _ _ _ _ hk⟩
  have HR : Hid (RdAt B (rdS s n) (Lib.bytesWorld w1 5 (str l))) := hid_of (hr1.touch (Touch.of_below hbw []) (by simp))
  have HTT : Hid (Touch [B] w (Lib.bytesWorld w1 5 (str l))) := hid_of (ht1.andThen (Touch.of_below hbw []) (by simp))
  go_wp2_with fail
  obtain ⟨W, hW⟩ : ∃ W, W = Lib.bytesWorld w1 5 (str l) := ⟨_, rfl⟩
  rw [← hW] at hcell HR HTT ⊢
  have HCELL := hid_of hcell
  obtain ⟨g, hg⟩ : ∃ g, g = w1.heap.size := ⟨_, rfl⟩
  obtain ⟨cp, hcp⟩ : ∃ cp, cp = grownCap w1 l.length 0 5 := ⟨_, rfl⟩
  rw [← hg, ← hcp]
  rw [← hg] at HCELL
  clear hW hg hcp hcell hbw hr1 ht1 hcv HT
  go_loop [5, 13] (fun x i => ∃ k h' : Nat, k ≤ l.length ∧ h' < P64 ∧ Hid ((l.drop k).foldl numStep h' = numL l) ∧ x = .int .u64 (h' : Int) ∧ i = .int .i64 (k : Int))
                    (fun _ i => l.length - (intOf i).toNat)
  case atStart => exact ⟨0, 0, by omega, by decide, hid_of rfl, rfl, rfl⟩
  case round =>
    obtain ⟨k, h', hk, hh', hm, rfl, rfl⟩ := hrel
    by_cases hlt : k < l.length
    · have hc := HCELL.out k hlt
      have e1 : (str l).data.toList.getD k 0 = l[k] := by simp [str, hlt]
      rw [e1] at hc
      have hsp := shl_spelt h' l[k]
      obtain ⟨b, hb⟩ : ∃ b, b = l[k] := ⟨_, rfl⟩
      rw [← hb] at hc hsp
      have HB := hid_of hb
      clear hb e1
      go_wp2_with fail
      refine ⟨⟨k + 1, numStep h' b, by omega, numStep_lt _ _, hid_of ?_, rfl, by go_num⟩, ?_⟩
      · have := hm.out
        rw [List.drop_eq_getElem_cons hlt, List.foldl_cons, ← HB.out] at this
        exact this
      · simp [intOf]; omega
    · have hk2 : k = l.length := by omega
      subst hk2
      go_wp2_with fail
      go_ret
      have := hm.out
      rw [List.drop_eq_nil_of_le (Nat.le_refl _)] at this
      simp only [List.foldl_nil] at this
      rw [← this]
      exact ⟨rfl, HR.out, HTT.out⟩
def restLen (B : Nat) (W : World) : Nat := match W.cell? ⟨B, 0, none⟩ with | some (.string t) => t.size | _ => 0
theorem RdAt.rest {B : Nat} {s : List UInt8 × Bool} {w : World} (h : RdAt B s w) : restLen B w = s.1.length := by
  unfold restLen
  rw [h.c0]
  exact str_size _
theorem Tryz.infoU64 : (Tryz.prog.info? 63).map (fun i => (i.zero, i.size, i.bytes)) = some (some (.int .u64 0), 1, 8) := by kernel_rfl
set_option maxRecDepth 100000 in
set_option maxHeartbeats 1000000 in
theorem hashes_walk (B : Nat) (s : List UInt8 × Bool) (hs : s.1.length ≤ 1000000) (w : World) (h : RdAt B s w) :
    Calls Tryz.prog 194 #[.pointer (some ⟨B, 0, none⟩)] w fun e w' => ∃ v, e = .returned v ∧ w'.ownsRow w.heap.size 63 1 v (hshL s.1).length (u64V (hshL s.1)) ∧ RdAt B (hshS s) w' ∧ Touch [B] w w' := by
  obtain ⟨i0, hi, hz0, hz1, hz2⟩ := info_parts Tryz.infoU64
  have HR := hid_of h
  clear h
  go_enter Tryz.func194, Tryz.ntmps194
  go_wp2_with fail
  have hlt := HR.out.lt
  go_loopw [3] (fun v W => ∃ (D : List Nat) (s' : List UInt8 × Bool), W.ownsRow w.heap.size 63 1 v D.length (u64V D) ∧ RdAt B s' W ∧ Touch [B] w W ∧ Hid (D ++ hshL s'.1 = hshL s.1) ∧ Hid (hshS s' = hshS s) ∧ s'.1.length ≤ s.1.length)
    (fun _ W => restLen B W)
  case atStart =>
    refine ⟨[], s, World.ownsRow_made (base := w.heap.size) (e := 63) (size := 1) w #[] 0 (Nat.le_refl _) (by unfold maxLen; omega) rfl, ?_, (Touch.refl _ _).alloc _, hid_of (by simp), hid_of rfl, Nat.le_refl _⟩
    exact HR.out.touch ((Touch.refl [] _).alloc _) (by simp)
  case round =>
    obtain ⟨D, s', hown, hra, htc, HD, HS, hle⟩ := hrel
    have hrest := hra.rest
    have hbsz : B < wr.heap.size := hra.lt
    have hDl : D.length + (s'.1.length + 7) / 8 ≤ 1000000 := by
      have := congrArg List.length HD.out
      rw [List.length_append, hshL_length, hshL_length] at this
      omega
    have hss := str_size s'.1
    have HO := hid_of hown
    have HRA := hid_of hra
    have HT := hid_of htc
    obtain ⟨c0, c1, f0, f1⟩ := hra
    by_cases hz : s'.1.length = 0
    · have hnil : s'.1 = [] := List.length_eq_zero_iff.1 hz
      have a1 : ¬ ((0 : Int) < (s'.1.length : Int)) := by omega
      clear hown htc
      go_wp2_with fail
      go_ret
      refine ⟨_, rfl, ?_, ?_, HT.out⟩
      · have := HD.out
        rw [hnil, hshL_nil, List.append_nil] at this
        rw [← this]
        exact HO.out
      · rw [← HS.out]
        have e : hshS s' = s' := by
          unfold hshS
          rw [hz, ← hnil]
          simp
        rw [e]
        exact HRA.out
    · have hne : s'.1 ≠ [] := fun e => hz (by rw [e]; rfl)
      have a1 : (0 : Int) < (s'.1.length : Int) := by omega
      have hN := hid_of (number_walk B s' 8 (by omega) (by omega) wr HRA.out)
      have h1 := hshL_step s' hne
      have h2 := hshS_step s' hne
      have H1 : Hid ((D ++ [numL (rdT s' 8)]) ++ hshL (rdS s' 8).1 = hshL s.1) := hid_of (by rw [← HD.out, h1]; simp)
      have H2 : Hid (hshS (rdS s' 8) = hshS s) := hid_of (by rw [h2, HS.out])
      have hlen8 : (rdS s' 8).1.length < s'.1.length := by
        unfold rdS
        split
        · simp; omega
        · simp; omega
      have hle2 : (rdS s' 8).1.length ≤ s.1.length := by omega
      obtain ⟨x, hx⟩ : ∃ x, x = numL (rdT s' 8) := ⟨_, rfl⟩
      rw [← hx] at hN H1
      obtain ⟨s2, hs2⟩ : ∃ x, x = rdS s' 8 := ⟨_, rfl⟩
      rw [← hs2] at hN H1 H2 hlen8 hle2
      clear hown htc hx hs2 h1 h2 HD HS
      go_wp2_with fail
      refine hN.out.mono ?_
      rintro e w2 ⟨rfl, hr2, ht2⟩
      have L1 := hid_of (owns_touch HO.out ht2 (by simpa using hlt))
      have L2 := hid_of (HT.out.trans ht2)
      have HR2 := hid_of hr2
      have hsz2 : w.heap.size ≤ w2.heap.size := L2.out.size
      clear hr2 ht2 HO HT HRA
      go_wp2_with (at_builtin; refine wpList_append_own _ rfl (.tmp 11) (.tmp 14) 99 rfl w.heap.size 63 i0 (.int .u64 0) 1 8 Tryz.underlying99 hi hz0 hz1 hz2 rfl (by decide) _ _ _ rfl (L1.out.alloc _) ⟨w2.heap.size, 0, none⟩ 1 1 [.int .u64 (x : Int)] rfl rfl (cell_one_new _ _ _) ?c2 ?c3 ?c4 ?c5 ?_)
      case c2 =>
        intro u hu
        simp at hu
        subst hu
        rfl
      case c3 => unfold maxLen; omega
      case c4 => omega
      case c5 => simp; omega
      intro v6 w6 hown6 hg6 _
      have ht6 := (L2.out.alloc (.cells #[.int .u64 (x : Int)] 63)).row (L1.out.alloc _) (Nat.le_refl _) hg6
      have hr6 : RdAt B s2 w6 := by
        have h9 : RdAt B s2 (w2.alloc (.cells #[.int .u64 (x : Int)] 63)) := HR2.out.touch ((Touch.refl [] _).alloc _) (by simp)
        have hblk : w6.heap[B]? = (w2.alloc (.cells #[.int .u64 (x : Int)] 63)).heap[B]? := hg6.block B h9.lt (fun e => by
          have := (L1.out.lt B e.symm).1
          omega)
        exact ⟨by rw [World.cell?_of_block (a := ⟨B, 0, none⟩) hblk]; exact h9.c0, by rw [World.cell?_of_block (a := ⟨B, 1, none⟩) hblk]; exact h9.c1, by rw [World.frozen?_of_block (a := ⟨B, 0, none⟩) hblk]; exact h9.f0, by rw [World.frozen?_of_block (a := ⟨B, 1, none⟩) hblk]; exact h9.f1⟩
      have hrest6 := hr6.rest
      have K1 := hid_of hown6
      have K2 := hid_of ht6
      have K3 := hid_of hr6
      clear hown6 hg6 ht6 hr6 L1 L2 HR2
      go_wp2_with fail
      refine ⟨⟨D ++ [x], s2, ?_, K3.out, K2.out, H1, H2, hle2⟩, by rw [hrest6, hrest]; exact hlen8⟩
      have e : u64V (D ++ [x]) = u64V D ++ [.int .u64 (x : Int)] := by simp [u64V]
      rw [List.length_append, e]
      exact K1.out
end Go.Proofs.YtonjphollmdicaaGreatDoor
namespace Go.Proofs.YtonjphollmdicaaGreatDoor
open Go.ChangeShapes Go.WideShapes Go.ChangeAt Go.RowKit
section
variable {P : Program} {md : Region.Mode} {ops : Array Oper} {Q : Exit → Act → World → Prop} {S : World → Prop}
theorem take_yes {i : Nat} {d : Option Tmp} {v : Value} {fuel : Nat} {listed : Array Bool} {a : Act} {w : World} (hd : (ops[i]?).map (fun o => o.dst) = some d)
  (hs : Region.noSelect ops = true) (hf : Region.free md ops listed i = true) (hr : (Region.ready md ops listed).contains i = true)
  (hw : ((ops[i]?).map (fun o => Region.wanted o (yielded ops a.tmps))) = some true)
  (hQ : ∀ c a w, Q (.panic c) (a.put d v) w → Q (.panic c) a w) (hy : ∀ w, S w → ((ops[i]?).map fun o => (execOp a.eval o).run P w) = some (.ok (.value v) w)) (hS : S w)
  (h : wpAnyH P md ops Q S fuel (listed.setIfInBounds i true) (a.put d v) w) : wpAnyH P md ops Q S (fuel + 1) listed a w := by
 cases ho : ops[i]? with
 | none => rw [ho] at hd; cases hd
 | some o =>
  rw [ho] at hd hw hy
  simp only [Option.map_some, Option.some.injEq] at hd hw hy
  subst hd
  exact wpAnyH_take ho hs hf hr hQ (Or.inl ⟨hw, hy⟩) hS h
theorem take_yes' {i : Nat} {d : Option Tmp} {v : Value} {fuel : Nat} {listed listed' : Array Bool} {a a' : Act} {w : World} (hd : (ops[i]?).map (fun o => o.dst) = some d)
  (hs : Region.noSelect ops = true) (hf : Region.free md ops listed i = true) (hr : (Region.ready md ops listed).contains i = true)
  (hw : ((ops[i]?).map (fun o => Region.wanted o (yielded ops a.tmps))) = some true)
  (hQ : ∀ c a w, Q (.panic c) (a.put d v) w → Q (.panic c) a w) (hy : ∀ w, S w → ((ops[i]?).map fun o => (execOp a.eval o).run P w) = some (.ok (.value v) w)) (hS : S w)
  (hl : listed.setIfInBounds i true = listed') (ha : a.put d v = a') (h : wpAnyH P md ops Q S fuel listed' a' w) : wpAnyH P md ops Q S (fuel + 1) listed a w := by
 subst hl ha
 exact take_yes hd hs hf hr hw hQ hy hS h
theorem take_no {i : Nat} {d : Option Tmp} {fuel : Nat} {listed : Array Bool} {a : Act} {w : World} (hd : (ops[i]?).map (fun o => o.dst) = some d)
  (hs : Region.noSelect ops = true) (hf : Region.free md ops listed i = true) (hr : (Region.ready md ops listed).contains i = true)
  (hw : ((ops[i]?).map (fun o => Region.wanted o (yielded ops a.tmps))) = some false)
  (hQ : ∀ c a w, Q (.panic c) (a.put d undef) w → Q (.panic c) a w) (hS : S w)
  (h : wpAnyH P md ops Q S fuel (listed.setIfInBounds i true) (a.put d undef) w) : wpAnyH P md ops Q S (fuel + 1) listed a w := by
 cases ho : ops[i]? with
 | none => rw [ho] at hd; cases hd
 | some o =>
  rw [ho] at hd hw
  simp only [Option.map_some, Option.some.injEq] at hd hw
  subst hd
  exact wpAnyH_take ho hs hf hr hQ (Or.inr ⟨hw, rfl⟩) hS h
theorem take_no' {i : Nat} {d : Option Tmp} {fuel : Nat} {listed listed' : Array Bool} {a a' : Act} {w : World} (hd : (ops[i]?).map (fun o => o.dst) = some d)
  (hs : Region.noSelect ops = true) (hf : Region.free md ops listed i = true) (hr : (Region.ready md ops listed).contains i = true)
  (hw : ((ops[i]?).map (fun o => Region.wanted o (yielded ops a.tmps))) = some false)
  (hQ : ∀ c a w, Q (.panic c) (a.put d undef) w → Q (.panic c) a w) (hS : S w)
  (hl : listed.setIfInBounds i true = listed') (ha : a.put d undef = a') (h : wpAnyH P md ops Q S fuel listed' a' w) : wpAnyH P md ops Q S (fuel + 1) listed a w := by
 subst hl ha
 exact take_no hd hs hf hr hw hQ hS h
theorem tY (i d : Nat) {fuel : Nat} {listed listed' : Array Bool} {a : Act} {w : World} (v : Value) (a' : Act) (hd : (ops[i]?).map (fun o => o.dst) = some (some d))
  (hk : (Region.noSelect ops && Region.free md ops listed i && (Region.ready md ops listed).contains i) = true)
  (hw : ((ops[i]?).map (fun o => Region.wanted o (yielded ops a.tmps))) = some true)
  (hQ : ∀ c a w, Q (.panic c) (a.put (some d) v) w → Q (.panic c) a w) (hy : ∀ w, S w → ((ops[i]?).map fun o => (execOp a.eval o).run P w) = some (.ok (.value v) w)) (hS : S w)
  (hl : listed.setIfInBounds i true = listed') (ha : a.put (some d) v = a') (h : wpAnyH P md ops Q S fuel listed' a' w) : wpAnyH P md ops Q S (fuel + 1) listed a w := by
 simp only [Bool.and_eq_true] at hk
 exact take_yes' hd hk.1.1 hk.1.2 hk.2 hw hQ hy hS hl ha h
theorem tN (i d : Nat) {fuel : Nat} {listed listed' : Array Bool} {a : Act} {w : World} (a' : Act) (hd : (ops[i]?).map (fun o => o.dst) = some (some d))
  (hk : (Region.noSelect ops && Region.free md ops listed i && (Region.ready md ops listed).contains i) = true)
  (hw : ((ops[i]?).map (fun o => Region.wanted o (yielded ops a.tmps))) = some false)
  (hQ : ∀ c a w, Q (.panic c) (a.put (some d) undef) w → Q (.panic c) a w) (hS : S w)
  (hl : listed.setIfInBounds i true = listed') (ha : a.put (some d) undef = a') (h : wpAnyH P md ops Q S fuel listed' a' w) : wpAnyH P md ops Q S (fuel + 1) listed a w := by
 simp only [Bool.and_eq_true] at hk
 exact take_no' hd hk.1.1 hk.1.2 hk.2 hw hQ hS hl ha h
theorem gA {α : Type} {xs : List α} {i : Nat} : xs.toArray[i]? = xs[i]? := List.getElem?_toArray
theorem gB {α : Type} {x : α} {xs : List α} {i : Nat} : (x :: xs)[i + 1]? = xs[i]? := List.getElem?_cons_succ
theorem gC {α : Type} {x : α} {xs : List α} : (x :: xs)[0]? = some x := List.getElem?_cons_zero
theorem gD {α β : Type} {f : α → β} {x : α} : Option.map f (some x) = some (f x) := Option.map_some ..
theorem gE {α : Type} {x y : α} : (some x = some y) = (x = y) := Option.some.injEq ..
theorem sA {α : Type} {xs : List α} {i : Nat} {x : α} : xs.toArray.setIfInBounds i x = (xs.set i x).toArray := List.setIfInBounds_toArray ..
theorem sB {α : Type} {x y : α} {xs : List α} : (x :: xs).set 0 y = y :: xs := List.set_cons_zero ..
theorem sC {α : Type} {x y : α} {xs : List α} {n : Nat} : (x :: xs).set (n + 1) y = x :: xs.set n y := List.set_cons_succ ..
theorem step_one {i : Nat} {fuel : Nat} {listed : Array Bool} {a : Act} {w : World} (hr : Region.ready md ops listed = [i])
  (h : ∀ (K' : Act → World → Prop) (o : Oper), ops[i]? = some o → Shut (∀ a w, S w → (S w → wpAnyH P md ops Q S fuel (listed.setIfInBounds i true) a w) → K' a w) → if Region.wanted o (yielded ops a.tmps) = true then Oper.wp P o a w K' Q else K' (a.put o.dst undef) w) : wpAnyH P md ops Q S (fuel + 1) listed a w := by
 refine wpAnyH_ready hr (by simp) ?_
 cases ho : ops[i]? with
 | none =>
  have : i ∈ Region.ready md ops listed := by rw [hr]; simp
  obtain ⟨_, o, h2, _⟩ := mem_ready.1 this
  rw [ho] at h2
  cases h2
 | some o => exact AllReadyH.cons ho (fun K hK => h K o ho hK) AllReadyH.nil
theorem step_two {i j : Nat} {fuel : Nat} {listed : Array Bool} {a : Act} {w : World} (hr : Region.ready md ops listed = [i, j])
  (h : ∀ (K' : Act → World → Prop) (o : Oper), ops[i]? = some o → Shut (∀ a w, S w → (S w → wpAnyH P md ops Q S fuel (listed.setIfInBounds i true) a w) → K' a w) → if Region.wanted o (yielded ops a.tmps) = true then Oper.wp P o a w K' Q else K' (a.put o.dst undef) w)
  (h2 : ∀ (K' : Act → World → Prop) (o : Oper), ops[j]? = some o → Shut (∀ a w, S w → (S w → wpAnyH P md ops Q S fuel (listed.setIfInBounds j true) a w) → K' a w) → if Region.wanted o (yielded ops a.tmps) = true then Oper.wp P o a w K' Q else K' (a.put o.dst undef) w) : wpAnyH P md ops Q S (fuel + 1) listed a w := by
 refine wpAnyH_ready hr (by simp) ?_
 have key : ∀ i, i ∈ Region.ready md ops listed → ∃ o, ops[i]? = some o := fun i hi => by
  obtain ⟨_, o, h2, _⟩ := mem_ready.1 hi
  exact ⟨o, h2⟩
 obtain ⟨oi, hoi⟩ := key i (by rw [hr]; simp)
 obtain ⟨oj, hoj⟩ := key j (by rw [hr]; simp)
 exact AllReadyH.cons hoi (fun K hK => h K oi hoi hK) (AllReadyH.cons hoj (fun K hK => h2 K oj hoj hK) AllReadyH.nil)
end
end Go.Proofs.YtonjphollmdicaaGreatDoor
namespace Go.Proofs.YtonjphollmdicaaGreatDoor
open Go.ChangeShapes Go.WideShapes Go.ChangeAt Go.RowKit
def u16V (l : List Nat) : List Value := l.map fun (n : Nat) => Value.int .u16 (n : Int)
def numAt (l : List UInt8) (i : Nat) : Nat := (l[2 * i]?.getD 0).toNat * 256 + (l[2 * i + 1]?.getD 0).toNat
def rowL (l : List UInt8) : List Nat := (List.range (l.length / 2)).map (numAt l)
def textL (r : List Nat) : List UInt8 := r.flatMap fun n => numBytes n 2
theorem Tryz.info16 : (Tryz.prog.info? 80).map (fun i => (i.zero, i.size, i.bytes)) = some (some (.int .u16 0), 1, 2) := by kernel_rfl
theorem numAt_lt (l : List UInt8) (i : Nat) : numAt l i < 65536 := by
 unfold numAt
 have h1 := (l[2 * i]?.getD 0).toNat_lt
 have h2 := (l[2 * i + 1]?.getD 0).toNat_lt
 omega
theorem rowL_length (l : List UInt8) : (rowL l).length = l.length / 2 := by simp [rowL]
theorem numAt_spelt (l : List UInt8) (k : Nat) :
  bits BinOp.or IntKind.u16 (IntKind.u16.wrap (IntKind.u16.wrap ((l[2 * k]?.getD 0).toNat : Int) * 256)) (IntKind.u16.wrap ((l[2 * k + 1]?.getD 0).toNat : Int)) = ((numAt l k : Nat) : Int) := by
 have h1 := (l[2 * k]?.getD 0).toNat_lt
 have h2 := (l[2 * k + 1]?.getD 0).toNat_lt
 unfold numAt
 generalize (l[2 * k]?.getD 0).toNat = a at *
 generalize (l[2 * k + 1]?.getD 0).toNat = b at *
 have e1 : IntKind.u16.wrap (IntKind.u16.wrap (a : Int) * 256) = ((a * 256 : Nat) : Int) := by rw [IntKind.wrap_u16, IntKind.wrap_u16]; omega
 have e2 : IntKind.u16.wrap (b : Int) = (b : Int) := by rw [IntKind.wrap_u16]; omega
 rw [e1, e2, u16_or_nat (a * 256) b (by omega) (by omega)]
 have h3 := Nat.two_pow_add_eq_or_of_lt (i := 8) (b := b) (by omega) a
 rw [show a * 256 = 2 ^ 8 * a from by omega, ← h3]
theorem index_str (l : List UInt8) (j : Nat) (i : Int) (hi : i = (j : Int)) (hj : j < l.length) (W : World) :
  (Instr.index 9 (.string (str l)) (.int .i64 i)).run Tryz.prog W = .ok (.int .u8 ((l[j]?.getD 0).toNat : Int)) W := by
 subst hi
 have hs : j < (str l).size := by rw [str_size]; exact hj
 rw [run_index_string W 9 (str l) .i64 (j : Int) Tryz.underlying9, dif_pos ⟨by omega, by omega⟩]
 have e : ((str l)[((j : Int)).toNat]'(by omega)) = l[j]?.getD 0 := by
  have h2 : ((j : Int)).toNat = j := by omega
  simp only [h2]
  rw [List.getElem?_eq_getElem hj]
  rfl
 rw [e]
set_option maxRecDepth 100000 in
set_option maxHeartbeats 1000000 in
theorem ReadRow_walk (l : List UInt8) (hl : l.length ≤ 1000) (w : World) :
  Calls Tryz.prog 124 #[.string (str l)] w fun e w' => ∃ v', e = .returned v' ∧ w'.ownsRow w.heap.size 80 1 v' (l.length / 2) (u16V (rowL l)) ∧ Below w.heap.size w w' := by
 obtain ⟨i0, hi, hz0, hz1, hz2⟩ := info_parts Tryz.info16
 have hss : (str l).size = l.length := str_size l
 obtain ⟨n, hn⟩ : ∃ n, n = l.length / 2 := ⟨_, rfl⟩
 have hn2 : 2 * n ≤ l.length := by omega
 have e2 : ((l.length : Int) / 2) = (n : Int) := by omega
 rw [← hn]
 have HN := hid_of hn
 clear hn
 go_enter Tryz.func124, Tryz.ntmps124
 go_wp2_with (at_make; refine wpList_make_full _ rfl _ _ 167 rfl w.heap.size 80 i0 (.int .u16 0) 1 Tryz.underlying167 hi hz0 hz1 .i64 .i64 _ _ n rfl rfl ?c0 ?c0b ?c1 ?c2 (Nat.le_refl _) ?_)
 case c0 => first | rfl | omega
 case c0b => first | rfl | omega
 case c1 => rw [hz2]; omega
 case c2 => unfold maxLen; omega
 intro w1 hown1 hg1
 have hb1 : Below w.heap.size w w1 := (Below.refl _ w).grown hg1 (Nat.le_refl _) (by simp)
 clear hg1
 have HE := hid_of e2
 clear e2
 go_wp2_with fail
 go_loopw [4, 11] (fun _ i wr => ∃ (k : Nat) (zs : List Nat), k ≤ n ∧ i = .int .i64 (k : Int) ∧ wr.ownsRow w.heap.size 80 1 (.slice (some ⟨w.heap.size, 0, none⟩) n n) n (u16V zs) ∧ Below w.heap.size w wr ∧ Hid (zs.take k = (rowL l).take k))
  (fun _ i _ => n - (intOf i).toNat)
 case atStart => exact ⟨0, List.replicate n 0, by omega, rfl, by simpa [u16V, toList_madeCells_one] using hown1, hb1, hid_of (by simp)⟩
 case round =>
  clear hown1 hb1
  obtain ⟨k, zs, hk, rfl, hownr, hbl, hzs⟩ := hrel
  have hzl : zs.length = n := by have := hownr.1; simpa [u16V] using this
  by_cases hlt : k < n
  ·have hcell : wr.cell? ⟨w.heap.size, k, none⟩ = some (.int .u16 (zs[k] : Int)) := by
    rw [hownr.cellAt k (by omega)]; simp [u16V, hzl, hlt]
   have hfz := hownr.frozenAt k
   have i1 := index_str l (2 * k) (2 * (k : Int)) (by omega) (by omega)
   have i2 := index_str l (2 * k + 1) (2 * (k : Int) + 1) (by omega) (by omega)
   have hst := (hownr.stored k (.int .u16 ((numAt l k : Nat) : Int))).1
   have hown' : (wr.setCell ⟨w.heap.size, k, none⟩ (.int .u16 ((numAt l k : Nat) : Int))).ownsRow w.heap.size 80 1 (.slice (some ⟨w.heap.size, 0, none⟩) n n) n (u16V (zs.set k (numAt l k))) := by
    have e : u16V (zs.set k (numAt l k)) = (u16V zs).set k (.int .u16 ((numAt l k : Nat) : Int)) := by simp [u16V, List.map_set]
    rw [e]; exact hst
   have hB := hbl.setCell (p := ⟨w.heap.size, k, none⟩) (Nat.le_refl _) (.int .u16 ((numAt l k : Nat) : Int))
   have hset : (zs.set k (numAt l k)).take (k + 1) = (rowL l).take (k + 1) := by
    rw [take_snoc _ k (by simpa using (by omega : k < zs.length)), take_snoc _ k (by rw [rowL_length, ← HN.out]; exact hlt)]
    rw [List.take_set_of_le (Nat.le_refl _), hzs.out]
    congr 2
    rw [List.getElem_set_self]
    simp [rowL]
   have HS := hid_of hset
   have HO := hid_of hown'
   have HB := hid_of hB
   clear hset hown' hB hst hownr hzs
   go_wp2_with fail
   go_region
   rw [numAt_spelt]
   clear i1 i2
   go_wp2_with fail
   go_roundw
   case rel => exact ⟨k + 1, zs.set k (numAt l k), by omega, by go_num, HO.out.drew, HB.out.drew, HS⟩
   case measure => simp [intOf]; omega
  ·obtain rfl : k = n := by omega
   have := hzs.out
   rw [← hzl, List.take_length, hzl, List.take_of_length_le (by rw [rowL_length, ← HN.out]; exact Nat.le_refl _)] at this
   subst this
   go_wp2_with fail
   go_ret
   exact ⟨_, rfl, hownr, hbl⟩
theorem textL_snoc (l : List Nat) (h : Nat) : textL (l ++ [h]) = textL l ++ numBytes h 2 := by simp [textL]
theorem two_new (w : World) (x y : Value) (t : TypeId) : ∀ j u, [x, y][j]? = some u → (w.alloc (.cells #[x, y] t)).cell? ((⟨w.heap.size, 0, none⟩ : Addr).add j) = some u := by
 intro j u hj
 rcases j with _ | _ | j
 ·simp at hj; subst hj; simp [Addr.add]
 ·simp at hj; subst hj; simp [Addr.add]
 ·simp at hj
theorem bytes2 (n : Nat) (h : n < 65536) : bytesV (numBytes n 2) = [.int .u8 ((n : Int) / 256), .int .u8 ((n : Int) % 256)] := by
 have e1 : ((byteAt n 1).toNat : Int) = (n : Int) / 256 := by rw [← byteAt_spelt]; simp; omega
 have e2 : ((byteAt n 0).toNat : Int) = (n : Int) % 256 := by rw [← byteAt_spelt]; simp
 simp only [numBytes, bytesV, List.map_cons, List.map_nil]
 rw [e1, e2]
set_option maxRecDepth 100000 in
theorem Text_walk (r : List Nat) (a : Option Addr) (cap : Nat) (hn : r.length ≤ 1000) (hr : ∀ x ∈ r, x < 65536) (w : World) (hrd : Rd w a (u16V r)) :
  Calls Tryz.prog 103 #[.slice a r.length cap] w fun e w' => e = .returned (.string (str (textL r))) ∧ Below w.heap.size w w' := by
 obtain ⟨i0, hi, hz0, hz1, hz2⟩ := info_parts Tryz.info8
 go_enter Tryz.func103, Tryz.ntmps103
 go_wp2_with (at_make; refine wpList_make_own _ rfl _ _ 67 rfl w.heap.size 5 i0 (.int .u8 0) 1 Tryz.underlying67 hi hz0 hz1 .i64 .i64 _ (2 * r.length) rfl rfl ?c0 ?c1 ?c2 (Nat.le_refl _) ?_)
 case c0 => omega
 case c1 => rw [hz2]; omega
 case c2 => unfold maxLen; omega
 intro w1 hown1 hg1
 have hb1 : Below w.heap.size w w1 := (Below.refl _ w).grown hg1 (Nat.le_refl _) (by simp)
 clear hg1
 go_wp2_with fail
 go_loopw [3, 5, 12] (fun t _ i wr => ∃ k : Nat, k ≤ r.length ∧ i = .int .i64 (k : Int) ∧ wr.ownsRow w.heap.size 5 1 t (2 * k) (bytesV (textL (r.take k))) ∧ Below w.heap.size w wr)
  (fun _ _ i _ => r.length - (intOf i).toNat)
 case atStart => exact ⟨0, by omega, rfl, by simpa [textL, bytesV] using hown1, hb1⟩
 case round =>
  clear hown1 hb1
  obtain ⟨k, hk, rfl, hownr, hbl⟩ := hrel
  have hsz := hbl.size
  by_cases hlt : k < r.length
  ·obtain ⟨b, off, rfl, hc0⟩ := hrd k (.int .u16 (r[k] : Int)) (by simp [u16V, hlt])
   have hc : wr.cell? ⟨b, off + k, none⟩ = some (.int .u16 (r[k] : Int)) := by
    rw [hbl.cell (World.block_lt_of_cell? w _ hc0)]; exact hc0
   have hrk := hr r[k] (List.getElem_mem hlt)
   clear hc0
   go_wp2_with (at_builtin; refine wpList_append_own _ rfl _ _ 67 rfl w.heap.size 5 i0 (.int .u8 0) 1 1 Tryz.underlying67 hi hz0 hz1 hz2 rfl (by decide) _ _ _ rfl (hownr.alloc _) ⟨wr.heap.size, 0, none⟩ 2 2 [.int .u8 ((r[k] : Int) / 256), .int .u8 ((r[k] : Int) % 256)] rfl rfl (two_new _ _ _ _) ?c3 ?c4 ?c5 ?c6 ?_)
   case c3 => intro u hu; simp at hu; rcases hu with rfl | rfl <;> rfl
   case c4 => unfold maxLen; omega
   case c5 => omega
   case c6 => simp; omega
   ·intro v' w2 hown' hgrow _
    have hB := below_step hbl (by omega) hownr hgrow
    have hown2 : w2.ownsRow w.heap.size 5 1 v' (2 * (k + 1)) (bytesV (textL (r.take (k + 1)))) := by
     rw [take_snoc r k hlt, textL_snoc, bytesV_append, bytes2 _ hrk]
     exact hown'
    clear hown' hgrow hownr
    go_wp2_with fail
    go_roundw
    case rel => exact ⟨k + 1, by omega, by go_num, hown2, hB⟩
    case measure => simp [intOf]; omega
  ·obtain rfl : k = r.length := by omega
   have hc := owned_string hownr
   rw [List.take_length] at hc
   clear hownr
   go_wp2_with fail
   go_ret
   exact ⟨rfl, hbl⟩
end Go.Proofs.YtonjphollmdicaaGreatDoor
