import Derived.Test.YtonjphollmdicaaDoorB05
import Derived.Test.YtonjphollmdicaaDoorB08
import Derived.Test.YtonjphollmdicaaDoorB09
import Derived.Lib.ConvBytes
namespace Go.Proofs.YtonjphollmdicaaDoor
open Go.ChangeShapes Go.WideShapes Go.ChangeAt Go.RowKit

/-- the cells of a reader -/
structure RdAt (B : Nat) (s : List UInt8 × Bool) (w : World) : Prop where
  c0 : w.cell? ⟨B, 0, none⟩ = some (.string (str s.1))
  c1 : w.cell? ⟨B, 1, none⟩ = some (.bool s.2)
  f0 : w.frozen? ⟨B, 0, none⟩ = false
  f1 : w.frozen? ⟨B, 1, none⟩ = false
theorem RdAt.lt {B : Nat} {s : List UInt8 × Bool} {w : World} (h : RdAt B s w) : B < w.heap.size := World.block_lt_of_cell? w _ h.c0
theorem RdAt.touch {B : Nat} {s : List UInt8 × Bool} {w w' : World} (h : RdAt B s w) {L : List Nat} (ht : Touch L w w') (hL : B ∉ L) : RdAt B s w' :=
  ⟨by rw [ht.cell (x := ⟨B, 0, none⟩) h.lt hL]; exact h.c0, by rw [ht.cell (x := ⟨B, 1, none⟩) h.lt hL]; exact h.c1, by rw [ht.frozen (x := ⟨B, 0, none⟩) h.lt hL]; exact h.f0, by rw [ht.frozen (x := ⟨B, 1, none⟩) h.lt hL]; exact h.f1⟩

theorem RdAt.set0 {B : Nat} {r r' : List UInt8} {sh : Bool} {w : World} (h : RdAt B (r, sh) w) : RdAt B (r', sh) (w.setCell ⟨B, 0, none⟩ (.string (str r'))) := by
  obtain ⟨c0, c1, f0, f1⟩ := h
  exact ⟨World.cell?_setCell_same _ _ _ c0, by rw [World.cell?_setCell_other _ _ _ _ (by simp)]; exact c1, by rw [World.frozen?_setCell]; exact f0, by rw [World.frozen?_setCell]; exact f1⟩
theorem RdAt.set1 {B : Nat} {r : List UInt8} {sh sh' : Bool} {w : World} (h : RdAt B (r, sh) w) : RdAt B (r, sh') (w.setCell ⟨B, 1, none⟩ (.bool sh')) := by
  obtain ⟨c0, c1, f0, f1⟩ := h
  exact ⟨by rw [World.cell?_setCell_other _ _ _ _ (by simp)]; exact c0, World.cell?_setCell_same _ _ _ c1, by rw [World.frozen?_setCell]; exact f0, by rw [World.frozen?_setCell]; exact f1⟩

set_option maxRecDepth 100000 in
theorem text_walk (B : Nat) (s : List UInt8 × Bool) (n : Nat) (hs : s.1.length ≤ 1000000) (w : World) (h : RdAt B s w) :
    Calls Tryd.prog 66 #[.pointer (some ⟨B, 0, none⟩), .int .i64 (n : Int)] w fun e w' => e = .returned (.string (str (rdT s n))) ∧ RdAt B (rdS s n) w' ∧ Touch [B] w w' := by
  obtain ⟨r, sh⟩ := s
  have H := hid_of h
  obtain ⟨c0, c1, f0, f1⟩ := h
  simp only at c0 c1 hs
  have hss := str_size r
  by_cases hc : n ≤ r.length
  · have a1 : ¬ ((r.length : Int) < (n : Int)) := by omega
    have e1 : rdT (r, sh) n = r.take n := rdT_ok hc
    have e2 : rdS (r, sh) n = (r.drop n, sh) := rdS_ok hc
    have ex1 : (str r).extract 0 n = str (r.take n) := by rw [str_extract]; simp
    have ex2 : (str r).extract n r.length = str (r.drop n) := by rw [str_extract]; rw [List.take_of_length_le (by simp)]
    rw [e1, e2]
    clear e1 e2
    go_enter Tryd.func66, Tryd.ntmps66
    go_wp2_with fail
    go_ret
    exact ⟨rfl, H.out.set0, (Touch.refl _ _).setCell (.inl (by simp)) _⟩
  · have a1 : (r.length : Int) < (n : Int) := by omega
    have e1 : rdT (r, sh) n = [] := rdT_no (by simpa using hc)
    have e2 : rdS (r, sh) n = ([], true) := rdS_no (by simpa using hc)
    rw [e1, e2]
    clear e1 e2
    go_enter Tryd.func66, Tryd.ntmps66
    go_wp2_with fail
    go_ret
    exact ⟨rfl, H.out.set0.set1, ((Touch.refl _ _).setCell (.inl (by simp)) _).setCell (.inl (by simp)) _⟩

theorem shl_spelt (n : Nat) (b : UInt8) : bits BinOp.or IntKind.u64 (IntKind.u64.wrap ((n : Int) * 256)) (IntKind.u64.wrap (b.toNat : Int)) = ((numStep n b : Nat) : Int) := by
  have hb := b.toNat_lt
  have e1 : IntKind.u64.wrap ((n : Int) * 256) = ((2 ^ 8 * (n % 72057594037927936) : Nat) : Int) := by rw [IntKind.wrap_u64]; omega
  have e2 : IntKind.u64.wrap (b.toNat : Int) = (b.toNat : Int) := by rw [IntKind.wrap_u64]; omega
  rw [e1, e2, u64_or_nat _ b.toNat (by omega) (by omega), ← Nat.two_pow_add_eq_or_of_lt (i := 8) (b := b.toNat) (by omega)]
  unfold numStep P64
  omega

set_option maxRecDepth 100000 in
theorem number_walk (B : Nat) (s : List UInt8 × Bool) (n : Nat) (hs : s.1.length ≤ 1000000) (hn : n ≤ 1000000) (w : World) (h : RdAt B s w) :
    Calls Tryd.prog 67 #[.pointer (some ⟨B, 0, none⟩), .int .i64 (n : Int)] w fun e w' => e = .returned (.int .u64 ((numL (rdT s n) : Nat) : Int)) ∧ RdAt B (rdS s n) w' ∧ Touch [B] w w' := by
  have HT := hid_of (text_walk B s n hs w h)
  obtain ⟨l, hl⟩ : ∃ l, l = rdT s n := ⟨_, rfl⟩
  have hll : l.length ≤ 1000000 := by rw [hl]; exact Nat.le_trans (rdT_len s n) hn
  rw [← hl] at HT ⊢
  clear hl h
  have hcv := fun W => Lib.run_convert_string_bytes (P := Tryd.prog) W 9 39 5 (str l) Tryd.underlying9 Tryd.underlying39 Tryd.underlying5
  go_enter Tryd.func67, Tryd.ntmps67
  go_wp2_with fail
  refine HT.out.mono ?_
  rintro e w1 ⟨rfl, hr1, ht1⟩
  have hss := str_size l
  have hcell := fun j (hj : j < l.length) => Lib.bytesWorld_cell w1 5 (str l) j (by rw [hss]; exact hj)
  have hbw : Below w1.heap.size w1 (Lib.bytesWorld w1 5 (str l)) := ⟨rfl, rfl, rfl, by rw [Lib.bytesWorld_size]; omega, fun k hk => Lib.bytesWorld_at_old _ _ _ _ hk⟩
  have HR : Hid (RdAt B (rdS s n) (Lib.bytesWorld w1 5 (str l))) := hid_of (hr1.touch (Touch.of_below hbw []) (by simp))
  have HTT : Hid (Touch [B] w (Lib.bytesWorld w1 5 (str l))) := hid_of (ht1.andThen (Touch.of_below hbw []) (by simp))
  go_wp2_with fail
  obtain ⟨W, hW⟩ : ∃ W, W = Lib.bytesWorld w1 5 (str l) := ⟨_, rfl⟩
  rw [← hW] at hcell HR HTT ⊢
  have HCELL := hid_of hcell
  obtain ⟨g, hg⟩ : ∃ g, g = w1.heap.size := ⟨_, rfl⟩
  obtain ⟨cp, hcp⟩ : ∃ cp, cp = grownCap w1 l.length 0 5 := ⟨_, rfl⟩
  rw [← hg, ← hcp]
  rw [← hg] at HCELL
  clear hW hg hcp hcell hbw hr1 ht1 hcv HT
  go_loop [5, 13] (fun x i => ∃ k h' : Nat, k ≤ l.length ∧ h' < P64 ∧ Hid ((l.drop k).foldl numStep h' = numL l) ∧ x = .int .u64 (h' : Int) ∧ i = .int .i64 (k : Int))
                    (fun _ i => l.length - (intOf i).toNat)
  case atStart => exact ⟨0, 0, by omega, by decide, hid_of rfl, rfl, rfl⟩
  case round =>
    obtain ⟨k, h', hk, hh', hm, rfl, rfl⟩ := hrel
    by_cases hlt : k < l.length
    · have hc := HCELL.out k hlt
      have e1 : (str l).data.toList.getD k 0 = l[k] := by simp [str, hlt]
      rw [e1] at hc
      have hsp := shl_spelt h' l[k]
      obtain ⟨b, hb⟩ : ∃ b, b = l[k] := ⟨_, rfl⟩
      rw [← hb] at hc hsp
      have HB := hid_of hb
      clear hb e1
      go_wp2_with fail
      refine ⟨⟨k + 1, numStep h' b, by omega, numStep_lt _ _, hid_of ?_, rfl, by go_num⟩, ?_⟩
      · have := hm.out
        rw [List.drop_eq_getElem_cons hlt, List.foldl_cons, ← HB.out] at this
        exact this
      · simp [intOf]; omega
    · have hk2 : k = l.length := by omega
      subst hk2
      go_wp2_with fail
      go_ret
      have := hm.out
      rw [List.drop_eq_nil_of_le (Nat.le_refl _)] at this
      simp only [List.foldl_nil] at this
      rw [← this]
      exact ⟨rfl, HR.out, HTT.out⟩

/-- how much is left to a reader -/
def restLen (B : Nat) (W : World) : Nat := match W.cell? ⟨B, 0, none⟩ with | some (.string t) => t.size | _ => 0
theorem RdAt.rest {B : Nat} {s : List UInt8 × Bool} {w : World} (h : RdAt B s w) : restLen B w = s.1.length := by
  unfold restLen
  rw [h.c0]
  exact str_size _
theorem Tryd.infoU64 : (Tryd.prog.info? 60).map (fun i => (i.zero, i.size, i.bytes)) = some (some (.int .u64 0), 1, 8) := by kernel_rfl

set_option maxRecDepth 100000 in
set_option maxHeartbeats 1000000 in
theorem hashes_walk (B : Nat) (s : List UInt8 × Bool) (hs : s.1.length ≤ 1000000) (w : World) (h : RdAt B s w) :
    Calls Tryd.prog 122 #[.pointer (some ⟨B, 0, none⟩)] w fun e w' => ∃ v, e = .returned v ∧ w'.ownsRow w.heap.size 60 1 v (hshL s.1).length (u64V (hshL s.1)) ∧ RdAt B (hshS s) w' ∧ Touch [B] w w' := by
  obtain ⟨i0, hi, hz0, hz1, hz2⟩ := info_parts Tryd.infoU64
  have HR := hid_of h
  clear h
  go_enter Tryd.func122, Tryd.ntmps122
  go_wp2_with fail
  have hlt := HR.out.lt
  go_loopw [3] (fun v W => ∃ (D : List Nat) (s' : List UInt8 × Bool), W.ownsRow w.heap.size 60 1 v D.length (u64V D) ∧ RdAt B s' W ∧ Touch [B] w W ∧ Hid (D ++ hshL s'.1 = hshL s.1) ∧ Hid (hshS s' = hshS s) ∧ s'.1.length ≤ s.1.length)
    (fun _ W => restLen B W)
  case atStart =>
    refine ⟨[], s, World.ownsRow_made (base := w.heap.size) (e := 60) (size := 1) w #[] 0 (Nat.le_refl _) (by unfold maxLen; omega) rfl, ?_, (Touch.refl _ _).alloc _, hid_of (by simp), hid_of rfl, Nat.le_refl _⟩
    exact HR.out.touch ((Touch.refl [] _).alloc _) (by simp)
  case round =>
    obtain ⟨D, s', hown, hra, htc, HD, HS, hle⟩ := hrel
    have hrest := hra.rest
    have hbsz : B < wr.heap.size := hra.lt
    have hDl : D.length + (s'.1.length + 7) / 8 ≤ 1000000 := by
      have := congrArg List.length HD.out
      rw [List.length_append, hshL_length, hshL_length] at this
      omega
    have hss := str_size s'.1
    have HO := hid_of hown
    have HRA := hid_of hra
    have HT := hid_of htc
    obtain ⟨c0, c1, f0, f1⟩ := hra
    by_cases hz : s'.1.length = 0
    · have hnil : s'.1 = [] := List.length_eq_zero_iff.1 hz
      have a1 : ¬ ((0 : Int) < (s'.1.length : Int)) := by omega
      clear hown htc
      go_wp2_with fail
      go_ret
      refine ⟨_, rfl, ?_, ?_, HT.out⟩
      · have := HD.out
        rw [hnil, hshL_nil, List.append_nil] at this
        rw [← this]
        exact HO.out
      · rw [← HS.out]
        have e : hshS s' = s' := by
          unfold hshS
          rw [hz, ← hnil]
          simp
        rw [e]
        exact HRA.out
    · have hne : s'.1 ≠ [] := fun e => hz (by rw [e]; rfl)
      have a1 : (0 : Int) < (s'.1.length : Int) := by omega
      have hN := hid_of (number_walk B s' 8 (by omega) (by omega) wr HRA.out)
      have h1 := hshL_step s' hne
      have h2 := hshS_step s' hne
      have H1 : Hid ((D ++ [numL (rdT s' 8)]) ++ hshL (rdS s' 8).1 = hshL s.1) := hid_of (by rw [← HD.out, h1]; simp)
      have H2 : Hid (hshS (rdS s' 8) = hshS s) := hid_of (by rw [h2, HS.out])
      have hlen8 : (rdS s' 8).1.length < s'.1.length := by
        unfold rdS
        split
        · simp; omega
        · simp; omega
      have hle2 : (rdS s' 8).1.length ≤ s.1.length := by omega
      obtain ⟨x, hx⟩ : ∃ x, x = numL (rdT s' 8) := ⟨_, rfl⟩
      rw [← hx] at hN H1
      obtain ⟨s2, hs2⟩ : ∃ x, x = rdS s' 8 := ⟨_, rfl⟩
      rw [← hs2] at hN H1 H2 hlen8 hle2
      clear hown htc hx hs2 h1 h2 HD HS
      go_wp2_with fail
      refine hN.out.mono ?_
      rintro e w2 ⟨rfl, hr2, ht2⟩
      have L1 := hid_of (owns_touch HO.out ht2 (by simpa using hlt))
      have L2 := hid_of (HT.out.trans ht2)
      have HR2 := hid_of hr2
      have hsz2 : w.heap.size ≤ w2.heap.size := L2.out.size
      clear hr2 ht2 HO HT HRA
      go_wp2_with (at_builtin; refine wpList_append_own _ rfl (.tmp 11) (.tmp 14) 61 rfl w.heap.size 60 i0 (.int .u64 0) 1 8 Tryd.underlying61 hi hz0 hz1 hz2 rfl (by decide) _ _ _ rfl (L1.out.alloc _) ⟨w2.heap.size, 0, none⟩ 1 1 [.int .u64 (x : Int)] rfl rfl (cell_one_new _ _ _) ?c2 ?c3 ?c4 ?c5 ?_)
      case c2 =>
        intro u hu
        simp at hu
        subst hu
        rfl
      case c3 => unfold maxLen; omega
      case c4 => omega
      case c5 => simp; omega
      intro v6 w6 hown6 hg6 _
      have ht6 := (L2.out.alloc (.cells #[.int .u64 (x : Int)] 60)).row (L1.out.alloc _) (Nat.le_refl _) hg6
      have hr6 : RdAt B s2 w6 := by
        have h9 : RdAt B s2 (w2.alloc (.cells #[.int .u64 (x : Int)] 60)) := HR2.out.touch ((Touch.refl [] _).alloc _) (by simp)
        have hblk : w6.heap[B]? = (w2.alloc (.cells #[.int .u64 (x : Int)] 60)).heap[B]? := hg6.block B h9.lt (fun e => by
          have := (L1.out.lt B e.symm).1
          omega)
        exact ⟨by rw [World.cell?_of_block (a := ⟨B, 0, none⟩) hblk]; exact h9.c0, by rw [World.cell?_of_block (a := ⟨B, 1, none⟩) hblk]; exact h9.c1, by rw [World.frozen?_of_block (a := ⟨B, 0, none⟩) hblk]; exact h9.f0, by rw [World.frozen?_of_block (a := ⟨B, 1, none⟩) hblk]; exact h9.f1⟩
      have hrest6 := hr6.rest
      have K1 := hid_of hown6
      have K2 := hid_of ht6
      have K3 := hid_of hr6
      clear hown6 hg6 ht6 hr6 L1 L2 HR2
      go_wp2_with fail
      refine ⟨⟨D ++ [x], s2, ?_, K3.out, K2.out, H1, H2, hle2⟩, by rw [hrest6, hrest]; exact hlen8⟩
      have e : u64V (D ++ [x]) = u64V D ++ [.int .u64 (x : Int)] := by simp [u64V]
      rw [List.length_append, e]
      exact K1.out
end Go.Proofs.YtonjphollmdicaaDoor
