import Derived.Test.YtonjphollmdicaaGreatDoorB03
import Derived.Test.YtonjphollmdicaaGreatDoorB04
import Derived.Test.YtonjphollmdicaaGreatDoorB05
import Derived.Test.YtonjphollmdicaaGreatDoorB14
import Derived.Lib.ConvBytes
namespace Go.Proofs.YtonjphollmdicaaGreatDoor

/-! packets in texts: something ahead, something behind, a byte that is another one -/
theorem right_body {s : List UInt8} {f : FoundL} {n : Nat} (h : rightL s = some (f, n)) : n = 22 + f.body.length ∧ n ≤ s.length ∧ bodyN s = f.body.length ∧ isRight s = true := by
  unfold rightL at h
  split at h
  · rename_i hr
    have hr' := hr
    simp only [Option.some.injEq, Prod.mk.injEq] at h
    unfold isRight at hr
    simp only [Bool.and_eq_true, decide_eq_true_eq] at hr
    obtain ⟨rfl, rfl⟩ := h
    have : (foundAt s).body.length = bodyN s := by
      unfold foundAt
      simp only [List.length_take, List.length_drop]
      omega
    exact ⟨by omega, by omega, this.symm, hr'⟩
  · cases h
theorem find_body : ∀ (n : Nat) (s : List UInt8), s.length ≤ n → ∀ g ∈ findV s, g.body.length + 22 ≤ s.length := by
  intro n
  induction n with
  | zero =>
    intro s hs g hg
    have : s = [] := List.eq_nil_of_length_eq_zero (by omega)
    subst this
    rw [findV_nil] at hg
    simp at hg
  | succ n ih =>
    intro s hs g hg
    by_cases h0 : 0 < s.length
    · rw [findV_step s h0] at hg
      cases hr : rightL s with
      | none =>
        rw [hr] at hg
        have := ih (s.drop 1) (by rw [List.length_drop]; omega) g hg
        rw [List.length_drop] at this
        omega
      | some x =>
        obtain ⟨f, m⟩ := x
        obtain ⟨h1, h2, _⟩ := right_body hr
        rw [hr] at hg
        simp only [List.mem_cons] at hg
        rcases hg with rfl | hg
        · omega
        · have := ih (s.drop m) (by rw [List.length_drop]; omega) g hg
          rw [List.length_drop] at this
          omega
    · have : s = [] := List.eq_nil_of_length_eq_zero (by omega)
      subst this
      rw [findV_nil] at hg
      simp at hg
theorem find_short {s : List UInt8} (h : s.length < 22) : findV s = [] := by
  rw [List.eq_nil_iff_forall_not_mem]
  intro g hg
  have := find_body s.length s (Nat.le_refl _) g hg
  omega
theorem take_app {s : List UInt8} (t : List UInt8) {k : Nat} (h : k ≤ s.length) : (s ++ t).take k = s.take k := List.take_append_of_le_length h
theorem drop_take_app {s : List UInt8} (t : List UInt8) {a k : Nat} (h : a + k ≤ s.length) : ((s ++ t).drop a).take k = (s.drop a).take k := by
  rw [List.drop_append_of_le_length (by omega), List.take_append_of_le_length (by rw [List.length_drop]; omega)]
theorem right_app {s : List UInt8} {f : FoundL} {n : Nat} (h : rightL s = some (f, n)) (t : List UInt8) : rightL (s ++ t) = some (f, n) := by
  obtain ⟨h1, h2, h3, hr⟩ := right_body h
  have hN : bodyN (s ++ t) = bodyN s := by
    unfold bodyN
    rw [drop_take_app t (by omega)]
  have hd : (s ++ t).getD 3 0 = s.getD 3 0 := by
    rw [List.getD_eq_getElem?_getD, List.getD_eq_getElem?_getD, List.getElem?_append_left (by omega)]
  have hrt : isRight (s ++ t) = true := by
    unfold isRight at hr ⊢
    rw [hN, hd, take_app t (by omega), take_app t (by omega), drop_take_app t (by omega)]
    simp only [Bool.and_eq_true, decide_eq_true_eq] at hr ⊢
    rw [List.length_append]
    refine ⟨⟨⟨⟨by omega, hr.1.1.1.2⟩, hr.1.1.2⟩, by omega⟩, hr.2⟩
  unfold rightL at h ⊢
  rw [if_pos hr] at h
  rw [if_pos hrt]
  have : foundAt (s ++ t) = foundAt s := by
    unfold foundAt
    rw [hN, hd, drop_take_app t (by omega), drop_take_app t (by omega)]
  rw [this, hN]
  exact h
theorem find_app {s : List UInt8} {f : FoundL} (h : rightL s = some (f, s.length)) (t : List UInt8) : findV (s ++ t) = f :: findV t := by
  have h0 : 0 < (s ++ t).length := by
    have := right_body h
    rw [List.length_append]
    omega
  rw [findV_step _ h0, right_app h t]
  simp only
  rw [List.drop_left]
def sealF (g : FoundL) : List UInt8 := sealL g.kind g.set g.body
theorem packets_map (size : Nat) (fs : List FileL) (extra : Nat) : packetsL size fs extra = (madeFound size fs extra).map sealF := by
  have hm : sealF (mFound size fs) = sealL 77 (setL size fs) (mainL size fs) := by simp only [sealF, mFound]
  have hf : ∀ i, sealF (fFound size fs i) = sealL 70 (setL size fs) (bodyL size fs i) := fun i => by simp only [sealF, fFound]
  have hr : ∀ j, sealF (rFound size fs j) = rPacketL size fs (size / 2) j := fun j => by simp only [sealF, rFound, rPacketL, rBody]
  unfold packetsL madeFound
  rw [List.map_cons, List.map_append, List.map_map, List.map_map, hm]
  unfold fPacketsL bodiesL rPacketsL
  rw [List.map_map]
  have e1 : (List.range fs.length).map (sealL 70 (setL size fs) ∘ bodyL size fs) = (List.range fs.length).map (sealF ∘ fFound size fs) := List.map_congr_left (fun i _ => (hf i).symm)
  have e2 : (List.range extra).map (rPacketL size fs (size / 2)) = (List.range extra).map (sealF ∘ rFound size fs) := List.map_congr_left (fun j _ => (hr j).symm)
  rw [e1, e2]
theorem made_right {size : Nat} {fs : List FileL} {extra : Nat} (h0 : 0 < size) (h32 : size ≤ 32) (hg : goodSet fs size = true) {g : FoundL} (h : g ∈ madeFound size fs extra) : rightL (sealF g) = some (g, (sealF g).length) := by
  have hm : sealF g ∈ packetsL size fs extra := by rw [packets_map]; exact List.mem_map.2 ⟨g, h, rfl⟩
  have hl := packets_short (extra := extra) h0 h32 hg _ hm
  have hb : (sealF g).length = 22 + g.body.length := sealL_len _ _ _
  have hk : kindL g.kind = true ∧ g.set < P64 := by
    rcases made_cases h with rfl | ⟨i, _, rfl⟩ | ⟨j, _, rfl⟩
    · exact ⟨by simp only [mFound]; rfl, by rw [mF_set]; exact setL_lt _ _⟩
    · exact ⟨by simp only [fFound]; rfl, by rw [fF_set]; exact setL_lt _ _⟩
    · exact ⟨by simp only [rFound]; rfl, by rw [rF_set]; exact setL_lt _ _⟩
  rw [hb]
  exact right_seal hk.1 hk.2 (by omega)
theorem made_find {size : Nat} {fs : List FileL} {extra : Nat} (h0 : 0 < size) (h32 : size ≤ 32) (hg : goodSet fs size = true) {g : FoundL} (h : g ∈ madeFound size fs extra) (t : List UInt8) : findV (sealF g ++ t) = g :: findV t := find_app (made_right h0 h32 hg h) t
/-- a byte ahead, three letters behind -/
theorem made_around {size : Nat} {fs : List FileL} {extra : Nat} (h0 : 0 < size) (h32 : size ≤ 32) (hg : goodSet fs size = true) {g : FoundL} (h : g ∈ madeFound size fs extra) (c : UInt8) : findV (c :: (sealF g ++ [83, 65, 76])) = [g] := by
  have hn : rightL (c :: (sealF g ++ [83, 65, 76])) = none := by
    unfold rightL
    rw [if_neg]
    intro hr
    unfold isRight at hr
    simp only [Bool.and_eq_true, beq_iff_eq] at hr
    have := hr.1.1.1.2
    have e : (c :: (sealF g ++ [83, 65, 76])).take 3 = [c, 83, 65] := rfl
    rw [e] at this
    simp at this
  rw [findV_step _ (by simp), hn]
  simp only [List.drop_one, List.tail_cons]
  rw [made_find h0 h32 hg h, find_short (by simp)]

theorem num_inj : ∀ (l l' : List UInt8) (m n n' : Nat), l.length = l'.length → n < 256 ^ m → n' < 256 ^ m → m + l.length ≤ 8 → l.foldl numStep n = l'.foldl numStep n' → n = n' ∧ l = l'
  | [], [], _, _, _, _, _, _, _, h => ⟨h, rfl⟩
  | [], _ :: _, _, _, _, h, _, _, _, _ => by simp at h
  | _ :: _, [], _, _, _, h, _, _, _, _ => by simp at h
  | b :: r, b' :: r', m, n, n', hl, hn, hn', hm, h => by
    have key : ∀ (x : Nat) (c : UInt8), x < 256 ^ m → numStep x c = x * 256 + c.toNat ∧ numStep x c < 256 ^ (m + 1) := by
      intro x c hx
      have hc := c.toNat_lt
      have h2 : x * 256 + c.toNat < 256 ^ (m + 1) := by rw [Nat.pow_succ]; omega
      have h3 : 256 ^ (m + 1) ≤ P64 := Nat.le_trans (Nat.pow_le_pow_right (by decide) (show m + 1 ≤ 8 by simp at hm; omega)) (by decide)
      have e : numStep x c = x * 256 + c.toNat := Nat.mod_eq_of_lt (by omega)
      exact ⟨e, by rw [e]; exact h2⟩
    obtain ⟨e1, k1⟩ := key n b hn
    obtain ⟨e2, k2⟩ := key n' b' hn'
    obtain ⟨h1, h2⟩ := num_inj r r' (m + 1) (numStep n b) (numStep n' b') (by simpa using hl) k1 k2 (by simp at hm; omega) h
    have hb := b.toNat_lt
    have hb' := b'.toNat_lt
    rw [e1, e2] at h1
    refine ⟨by omega, ?_⟩
    rw [h2, UInt8.toNat_inj.1 (by omega : b.toNat = b'.toNat)]
theorem set_parts (l : List UInt8) (i : Nat) (v : UInt8) (h : i < l.length) : l = l.take i ++ l[i] :: l.drop (i + 1) ∧ l.set i v = l.take i ++ v :: l.drop (i + 1) := by
  refine ⟨?_, List.set_eq_take_append_cons_drop.trans (if_pos h)⟩
  rw [← List.drop_eq_getElem_cons h, List.take_append_drop]
/-- a packet with one byte that is another one: only shorter ones are found in it -/
theorem spoil_find {k : UInt8} {set : Nat} {b : List UInt8} (i : Nat) (v : UInt8) (hi : i < (sealL k set b).length) (hv : v ≠ (sealL k set b)[i]) : ∀ g ∈ findV ((sealL k set b).set i v), g.body.length < b.length := by
  have hlen : (sealL k set b).length = 22 + b.length := sealL_len k set b
  have hhl := head_len k set b
  obtain ⟨s, hs⟩ : ∃ s, s = (sealL k set b).set i v := ⟨_, rfl⟩
  have hsl : s.length = 22 + b.length := by rw [hs, List.length_set, hlen]
  rw [← hs]
  intro g hg
  rw [findV_step s (by omega)] at hg
  cases hr : rightL s with
  | none =>
    rw [hr] at hg
    have := find_body _ (s.drop 1) (Nat.le_refl _) g hg
    rw [List.length_drop] at this
    omega
  | some x =>
    obtain ⟨f, n⟩ := x
    obtain ⟨h1, h2, h3, h4⟩ := right_body hr
    have hne : f.body.length ≠ b.length := by
      intro hc
      rw [hc] at h3
      unfold isRight at h4
      simp only [Bool.and_eq_true, beq_iff_eq, h3] at h4
      have hH := h4.2
      have ht : (sealL k set b).take (14 + b.length) = headL k set b := by
        unfold sealL
        rw [List.take_append_of_le_length (by omega), List.take_of_length_le (by omega)]
      have hd : (sealL k set b).drop (14 + b.length) = numBytes (hashL (headL k set b)) 8 := by
        unfold sealL
        rw [List.drop_append_of_le_length (by omega), List.drop_of_length_le (by omega), List.nil_append]
      have hn8 : numL (numBytes (hashL (headL k set b)) 8) = hashL (headL k set b) := num_bytes _ 8 (hashL_lt _) (hashL_lt _)
      have l8 := numBytes_len (hashL (headL k set b)) 8
      rw [hs, List.take_set, List.drop_set, ht, hd] at hH
      by_cases c : i < 14 + b.length
      · rw [if_pos c, List.take_of_length_le (by omega), hn8] at hH
        obtain ⟨q1, q2⟩ := set_parts (headL k set b) i v (by omega)
        have hbyte : (headL k set b)[i]'(by omega) = (sealL k set b)[i] := by
          have : (headL k set b ++ numBytes (hashL (headL k set b)) 8)[i]'hi = (headL k set b)[i]'(by omega) := List.getElem_append_left (by omega)
          exact this.symm
        rw [q2] at hH
        have := hash_change ((headL k set b).take i) ((headL k set b).drop (i + 1)) (a := v) (b := (headL k set b)[i]'(by omega)) (by rw [hbyte]; exact hv)
        rw [← q1] at this
        exact this hH
      · have hset : (headL k set b).set i v = headL k set b := List.set_eq_of_length_le (by omega)
        rw [if_neg c, hset, List.take_of_length_le (by rw [List.length_set]; omega)] at hH
        have h5 : numL (numBytes (hashL (headL k set b)) 8) = numL ((numBytes (hashL (headL k set b)) 8).set (i - (14 + b.length)) v) := by rw [hn8]; exact hH
        have h6 := (num_inj _ _ 0 0 0 (by rw [List.length_set]) (by decide) (by decide) (by omega) h5).2
        have hlt : i - (14 + b.length) < (numBytes (hashL (headL k set b)) 8).length := by omega
        have hbyte : (numBytes (hashL (headL k set b)) 8)[i - (14 + b.length)] = (sealL k set b)[i] := by
          have : (headL k set b ++ numBytes (hashL (headL k set b)) 8)[i]'hi = (numBytes (hashL (headL k set b)) 8)[i - (headL k set b).length]'(by omega) := List.getElem_append_right (by omega)
          simp only [hhl] at this
          exact this.symm
        have h7 := List.getElem_set_self (l := numBytes (hashL (headL k set b)) 8) (i := i - (14 + b.length)) (a := v) (by rw [List.length_set]; exact hlt)
        have h8 : ((numBytes (hashL (headL k set b)) 8).set (i - (14 + b.length)) v)[i - (14 + b.length)]'(by rw [List.length_set]; exact hlt) = (numBytes (hashL (headL k set b)) 8)[i - (14 + b.length)] := by
          simp only [← h6]
        rw [h7, hbyte] at h8
        exact hv h8
    rw [hr] at hg
    simp only [List.mem_cons] at hg
    rcases hg with rfl | hg
    · omega
    · have := find_body _ (s.drop n) (Nat.le_refl _) g hg
      rw [List.length_drop] at this
      omega
end Go.Proofs.YtonjphollmdicaaGreatDoor
namespace Go.Proofs.YtonjphollmdicaaGreatDoor
open Go.ChangeShapes Go.WideShapes Go.ChangeAt Go.RowKit

/-- the cells of a reader -/
structure RdAt (B : Nat) (s : List UInt8 × Bool) (w : World) : Prop where
  c0 : w.cell? ⟨B, 0, none⟩ = some (.string (str s.1))
  c1 : w.cell? ⟨B, 1, none⟩ = some (.bool s.2)
  f0 : w.frozen? ⟨B, 0, none⟩ = false
  f1 : w.frozen? ⟨B, 1, none⟩ = false
theorem RdAt.lt {B : Nat} {s : List UInt8 × Bool} {w : World} (h : RdAt B s w) : B < w.heap.size := World.block_lt_of_cell? w _ h.c0
theorem RdAt.touch {B : Nat} {s : List UInt8 × Bool} {w w' : World} (h : RdAt B s w) {L : List Nat} (ht : Touch L w w') (hL : B ∉ L) : RdAt B s w' :=
  ⟨by rw [ht.cell (x := ⟨B, 0, none⟩) h.lt hL]; exact h.c0, by rw [ht.cell (x := ⟨B, 1, none⟩) h.lt hL]; exact h.c1, by rw [ht.frozen (x := ⟨B, 0, none⟩) h.lt hL]; exact h.f0, by rw [ht.frozen (x := ⟨B, 1, none⟩) h.lt hL]; exact h.f1⟩

theorem RdAt.set0 {B : Nat} {r r' : List UInt8} {sh : Bool} {w : World} (h : RdAt B (r, sh) w) : RdAt B (r', sh) (w.setCell ⟨B, 0, none⟩ (.string (str r'))) := by
  obtain ⟨c0, c1, f0, f1⟩ := h
  exact ⟨World.cell?_setCell_same _ _ _ c0, by rw [World.cell?_setCell_other _ _ _ _ (by simp)]; exact c1, by rw [World.frozen?_setCell]; exact f0, by rw [World.frozen?_setCell]; exact f1⟩
theorem RdAt.set1 {B : Nat} {r : List UInt8} {sh sh' : Bool} {w : World} (h : RdAt B (r, sh) w) : RdAt B (r, sh') (w.setCell ⟨B, 1, none⟩ (.bool sh')) := by
  obtain ⟨c0, c1, f0, f1⟩ := h
  exact ⟨by rw [World.cell?_setCell_other _ _ _ _ (by simp)]; exact c0, World.cell?_setCell_same _ _ _ c1, by rw [World.frozen?_setCell]; exact f0, by rw [World.frozen?_setCell]; exact f1⟩

set_option maxRecDepth 100000 in
theorem text_walk (B : Nat) (s : List UInt8 × Bool) (n : Nat) (hs : s.1.length ≤ 1000000) (w : World) (h : RdAt B s w) :
    Calls Tryz.prog 139 #[.pointer (some ⟨B, 0, none⟩), .int .i64 (n : Int)] w fun e w' => e = .returned (.string (str (rdT s n))) ∧ RdAt B (rdS s n) w' ∧ Touch [B] w w' := by
  obtain ⟨r, sh⟩ := s
  have H := hid_of h
  obtain ⟨c0, c1, f0, f1⟩ := h
  simp only at c0 c1 hs
  have hss := str_size r
  by_cases hc : n ≤ r.length
  · have a1 : ¬ ((r.length : Int) < (n : Int)) := by omega
    have e1 : rdT (r, sh) n = r.take n := rdT_ok hc
    have e2 : rdS (r, sh) n = (r.drop n, sh) := rdS_ok hc
    have ex1 : (str r).extract 0 n = str (r.take n) := by rw [str_extract]; simp
    have ex2 : (str r).extract n r.length = str (r.drop n) := by rw [str_extract]; rw [List.take_of_length_le (by simp)]
    rw [e1, e2]
    clear e1 e2
    go_enter Tryz.func139, Tryz.ntmps139
    go_wp2_with fail
    go_ret
    exact ⟨rfl, H.out.set0, (Touch.refl _ _).setCell (.inl (by simp)) _⟩
  · have a1 : (r.length : Int) < (n : Int) := by omega
    have e1 : rdT (r, sh) n = [] := rdT_no (by simpa using hc)
    have e2 : rdS (r, sh) n = ([], true) := rdS_no (by simpa using hc)
    rw [e1, e2]
    clear e1 e2
    go_enter Tryz.func139, Tryz.ntmps139
    go_wp2_with fail
    go_ret
    exact ⟨rfl, H.out.set0.set1, ((Touch.refl _ _).setCell (.inl (by simp)) _).setCell (.inl (by simp)) _⟩

theorem shl_spelt (n : Nat) (b : UInt8) : bits BinOp.or IntKind.u64 (IntKind.u64.wrap ((n : Int) * 256)) (IntKind.u64.wrap (b.toNat : Int)) = ((numStep n b : Nat) : Int) := by
  have hb := b.toNat_lt
  have e1 : IntKind.u64.wrap ((n : Int) * 256) = ((2 ^ 8 * (n % 72057594037927936) : Nat) : Int) := by rw [IntKind.wrap_u64]; omega
  have e2 : IntKind.u64.wrap (b.toNat : Int) = (b.toNat : Int) := by rw [IntKind.wrap_u64]; omega
  rw [e1, e2, u64_or_nat _ b.toNat (by omega) (by omega), ← Nat.two_pow_add_eq_or_of_lt (i := 8) (b := b.toNat) (by omega)]
  unfold numStep P64
  omega

set_option maxRecDepth 100000 in
theorem number_walk (B : Nat) (s : List UInt8 × Bool) (n : Nat) (hs : s.1.length ≤ 1000000) (hn : n ≤ 1000000) (w : World) (h : RdAt B s w) :
    Calls Tryz.prog 140 #[.pointer (some ⟨B, 0, none⟩), .int .i64 (n : Int)] w fun e w' => e = .returned (.int .u64 ((numL (rdT s n) : Nat) : Int)) ∧ RdAt B (rdS s n) w' ∧ Touch [B] w w' := by
  have HT := hid_of (text_walk B s n hs w h)
  obtain ⟨l, hl⟩ : ∃ l, l = rdT s n := ⟨_, rfl⟩
  have hll : l.length ≤ 1000000 := by rw [hl]; exact Nat.le_trans (rdT_len s n) hn
  rw [← hl] at HT ⊢
  clear hl h
  have hcv := fun W => Lib.run_convert_string_bytes (P := Tryz.prog) W 9 67 5 (str l) Tryz.underlying9 Tryz.underlying67 Tryz.underlying5
  go_enter Tryz.func140, Tryz.ntmps140
  go_wp2_with fail
  refine HT.out.mono ?_
  rintro e w1 ⟨rfl, hr1, ht1⟩
  have hss := str_size l
  have hcell := fun j (hj : j < l.length) => Lib.bytesWorld_cell w1 5 (str l) j (by rw [hss]; exact hj)
  have hbw : Below w1.heap.size w1 (Lib.bytesWorld w1 5 (str l)) := ⟨rfl, rfl, rfl, by rw [Lib.bytesWorld_size]; omega, fun k hk => Lib.bytesWorld_at_old _ _ _ _ hk⟩
  have HR : Hid (RdAt B (rdS s n) (Lib.bytesWorld w1 5 (str l))) := hid_of (hr1.touch (Touch.of_below hbw []) (by simp))
  have HTT : Hid (Touch [B] w (Lib.bytesWorld w1 5 (str l))) := hid_of (ht1.andThen (Touch.of_below hbw []) (by simp))
  go_wp2_with fail
  obtain ⟨W, hW⟩ : ∃ W, W = Lib.bytesWorld w1 5 (str l) := ⟨_, rfl⟩
  rw [← hW] at hcell HR HTT ⊢
  have HCELL := hid_of hcell
  obtain ⟨g, hg⟩ : ∃ g, g = w1.heap.size := ⟨_, rfl⟩
  obtain ⟨cp, hcp⟩ : ∃ cp, cp = grownCap w1 l.length 0 5 := ⟨_, rfl⟩
  rw [← hg, ← hcp]
  rw [← hg] at HCELL
  clear hW hg hcp hcell hbw hr1 ht1 hcv HT
  go_loop [5, 13] (fun x i => ∃ k h' : Nat, k ≤ l.length ∧ h' < P64 ∧ Hid ((l.drop k).foldl numStep h' = numL l) ∧ x = .int .u64 (h' : Int) ∧ i = .int .i64 (k : Int))
                    (fun _ i => l.length - (intOf i).toNat)
  case atStart => exact ⟨0, 0, by omega, by decide, hid_of rfl, rfl, rfl⟩
  case round =>
    obtain ⟨k, h', hk, hh', hm, rfl, rfl⟩ := hrel
    by_cases hlt : k < l.length
    · have hc := HCELL.out k hlt
      have e1 : (str l).data.toList.getD k 0 = l[k] := by simp [str, hlt]
      rw [e1] at hc
      have hsp := shl_spelt h' l[k]
      obtain ⟨b, hb⟩ : ∃ b, b = l[k] := ⟨_, rfl⟩
      rw [← hb] at hc hsp
      have HB := hid_of hb
      clear hb e1
      go_wp2_with fail
      refine ⟨⟨k + 1, numStep h' b, by omega, numStep_lt _ _, hid_of ?_, rfl, by go_num⟩, ?_⟩
      · have := hm.out
        rw [List.drop_eq_getElem_cons hlt, List.foldl_cons, ← HB.out] at this
        exact this
      · simp [intOf]; omega
    · have hk2 : k = l.length := by omega
      subst hk2
      go_wp2_with fail
      go_ret
      have := hm.out
      rw [List.drop_eq_nil_of_le (Nat.le_refl _)] at this
      simp only [List.foldl_nil] at this
      rw [← this]
      exact ⟨rfl, HR.out, HTT.out⟩

/-- how much is left to a reader -/
def restLen (B : Nat) (W : World) : Nat := match W.cell? ⟨B, 0, none⟩ with | some (.string t) => t.size | _ => 0
theorem RdAt.rest {B : Nat} {s : List UInt8 × Bool} {w : World} (h : RdAt B s w) : restLen B w = s.1.length := by
  unfold restLen
  rw [h.c0]
  exact str_size _
theorem Tryz.infoU64 : (Tryz.prog.info? 63).map (fun i => (i.zero, i.size, i.bytes)) = some (some (.int .u64 0), 1, 8) := by kernel_rfl

set_option maxRecDepth 100000 in
set_option maxHeartbeats 1000000 in
theorem hashes_walk (B : Nat) (s : List UInt8 × Bool) (hs : s.1.length ≤ 1000000) (w : World) (h : RdAt B s w) :
    Calls Tryz.prog 194 #[.pointer (some ⟨B, 0, none⟩)] w fun e w' => ∃ v, e = .returned v ∧ w'.ownsRow w.heap.size 63 1 v (hshL s.1).length (u64V (hshL s.1)) ∧ RdAt B (hshS s) w' ∧ Touch [B] w w' := by
  obtain ⟨i0, hi, hz0, hz1, hz2⟩ := info_parts Tryz.infoU64
  have HR := hid_of h
  clear h
  go_enter Tryz.func194, Tryz.ntmps194
  go_wp2_with fail
  have hlt := HR.out.lt
  go_loopw [3] (fun v W => ∃ (D : List Nat) (s' : List UInt8 × Bool), W.ownsRow w.heap.size 63 1 v D.length (u64V D) ∧ RdAt B s' W ∧ Touch [B] w W ∧ Hid (D ++ hshL s'.1 = hshL s.1) ∧ Hid (hshS s' = hshS s) ∧ s'.1.length ≤ s.1.length)
    (fun _ W => restLen B W)
  case atStart =>
    refine ⟨[], s, World.ownsRow_made (base := w.heap.size) (e := 63) (size := 1) w #[] 0 (Nat.le_refl _) (by unfold maxLen; omega) rfl, ?_, (Touch.refl _ _).alloc _, hid_of (by simp), hid_of rfl, Nat.le_refl _⟩
    exact HR.out.touch ((Touch.refl [] _).alloc _) (by simp)
  case round =>
    obtain ⟨D, s', hown, hra, htc, HD, HS, hle⟩ := hrel
    have hrest := hra.rest
    have hbsz : B < wr.heap.size := hra.lt
    have hDl : D.length + (s'.1.length + 7) / 8 ≤ 1000000 := by
      have := congrArg List.length HD.out
      rw [List.length_append, hshL_length, hshL_length] at this
      omega
    have hss := str_size s'.1
    have HO := hid_of hown
    have HRA := hid_of hra
    have HT := hid_of htc
    obtain ⟨c0, c1, f0, f1⟩ := hra
    by_cases hz : s'.1.length = 0
    · have hnil : s'.1 = [] := List.length_eq_zero_iff.1 hz
      have a1 : ¬ ((0 : Int) < (s'.1.length : Int)) := by omega
      clear hown htc
      go_wp2_with fail
      go_ret
      refine ⟨_, rfl, ?_, ?_, HT.out⟩
      · have := HD.out
        rw [hnil, hshL_nil, List.append_nil] at this
        rw [← this]
        exact HO.out
      · rw [← HS.out]
        have e : hshS s' = s' := by
          unfold hshS
          rw [hz, ← hnil]
          simp
        rw [e]
        exact HRA.out
    · have hne : s'.1 ≠ [] := fun e => hz (by rw [e]; rfl)
      have a1 : (0 : Int) < (s'.1.length : Int) := by omega
      have hN := hid_of (number_walk B s' 8 (by omega) (by omega) wr HRA.out)
      have h1 := hshL_step s' hne
      have h2 := hshS_step s' hne
      have H1 : Hid ((D ++ [numL (rdT s' 8)]) ++ hshL (rdS s' 8).1 = hshL s.1) := hid_of (by rw [← HD.out, h1]; simp)
      have H2 : Hid (hshS (rdS s' 8) = hshS s) := hid_of (by rw [h2, HS.out])
      have hlen8 : (rdS s' 8).1.length < s'.1.length := by
        unfold rdS
        split
        · simp; omega
        · simp; omega
      have hle2 : (rdS s' 8).1.length ≤ s.1.length := by omega
      obtain ⟨x, hx⟩ : ∃ x, x = numL (rdT s' 8) := ⟨_, rfl⟩
      rw [← hx] at hN H1
      obtain ⟨s2, hs2⟩ : ∃ x, x = rdS s' 8 := ⟨_, rfl⟩
      rw [← hs2] at hN H1 H2 hlen8 hle2
      clear hown htc hx hs2 h1 h2 HD HS
      go_wp2_with fail
      refine hN.out.mono ?_
      rintro e w2 ⟨rfl, hr2, ht2⟩
      have L1 := hid_of (owns_touch HO.out ht2 (by simpa using hlt))
      have L2 := hid_of (HT.out.trans ht2)
      have HR2 := hid_of hr2
      have hsz2 : w.heap.size ≤ w2.heap.size := L2.out.size
      clear hr2 ht2 HO HT HRA
      go_wp2_with (at_builtin; refine wpList_append_own _ rfl (.tmp 11) (.tmp 14) 99 rfl w.heap.size 63 i0 (.int .u64 0) 1 8 Tryz.underlying99 hi hz0 hz1 hz2 rfl (by decide) _ _ _ rfl (L1.out.alloc _) ⟨w2.heap.size, 0, none⟩ 1 1 [.int .u64 (x : Int)] rfl rfl (cell_one_new _ _ _) ?c2 ?c3 ?c4 ?c5 ?_)
      case c2 =>
        intro u hu
        simp at hu
        subst hu
        rfl
      case c3 => unfold maxLen; omega
      case c4 => omega
      case c5 => simp; omega
      intro v6 w6 hown6 hg6 _
      have ht6 := (L2.out.alloc (.cells #[.int .u64 (x : Int)] 63)).row (L1.out.alloc _) (Nat.le_refl _) hg6
      have hr6 : RdAt B s2 w6 := by
        have h9 : RdAt B s2 (w2.alloc (.cells #[.int .u64 (x : Int)] 63)) := HR2.out.touch ((Touch.refl [] _).alloc _) (by simp)
        have hblk : w6.heap[B]? = (w2.alloc (.cells #[.int .u64 (x : Int)] 63)).heap[B]? := hg6.block B h9.lt (fun e => by
          have := (L1.out.lt B e.symm).1
          omega)
        exact ⟨by rw [World.cell?_of_block (a := ⟨B, 0, none⟩) hblk]; exact h9.c0, by rw [World.cell?_of_block (a := ⟨B, 1, none⟩) hblk]; exact h9.c1, by rw [World.frozen?_of_block (a := ⟨B, 0, none⟩) hblk]; exact h9.f0, by rw [World.frozen?_of_block (a := ⟨B, 1, none⟩) hblk]; exact h9.f1⟩
      have hrest6 := hr6.rest
      have K1 := hid_of hown6
      have K2 := hid_of ht6
      have K3 := hid_of hr6
      clear hown6 hg6 ht6 hr6 L1 L2 HR2
      go_wp2_with fail
      refine ⟨⟨D ++ [x], s2, ?_, K3.out, K2.out, H1, H2, hle2⟩, by rw [hrest6, hrest]; exact hlen8⟩
      have e : u64V (D ++ [x]) = u64V D ++ [.int .u64 (x : Int)] := by simp [u64V]
      rw [List.length_append, e]
      exact K1.out
end Go.Proofs.YtonjphollmdicaaGreatDoor
