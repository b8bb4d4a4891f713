import Derived.Test.YtonjphollmdicaaGreatDoorB30
import Derived.Test.YtonjphollmdicaaGreatDoorB32
namespace Go.Proofs.YtonjphollmdicaaGreatDoor
open Go.ChangeShapes Go.WideShapes Go.ChangeAt Go.RowKit
structure FormSt (w W : World) (t1 : List UInt8) (L H : Nat) (v : Value) (xs : List Value) (q : Nat) : Prop where
  c0 : W.cell? ⟨w.heap.size + 1, 0, none⟩ = some (.string (str t1))
  c1 : W.cell? ⟨w.heap.size + 1, 1, none⟩ = some (.int .i64 (L : Int))
  c2 : W.cell? ⟨w.heap.size + 1, 2, none⟩ = some (.int .u64 (H : Int))
  c3 : W.cell? ⟨w.heap.size + 1, 3, none⟩ = some v
  r0 : W.cell? ⟨w.heap.size, 0, none⟩ = some (.string ⟨#[]⟩)
  r1 : W.cell? ⟨w.heap.size, 1, none⟩ = some (.int .i64 0)
  r2 : W.cell? ⟨w.heap.size, 2, none⟩ = some (.int .u64 0)
  r3 : W.cell? ⟨w.heap.size, 3, none⟩ = some (.slice none 0 0)
  z3 : W.frozen? ⟨w.heap.size + 1, 3, none⟩ = false
  y0 : W.frozen? ⟨w.heap.size, 0, none⟩ = false
  y1 : W.frozen? ⟨w.heap.size, 1, none⟩ = false
  y2 : W.frozen? ⟨w.heap.size, 2, none⟩ = false
  y3 : W.frozen? ⟨w.heap.size, 3, none⟩ = false
  own : W.ownsRow (w.heap.size + 2) 63 1 v q xs
  below : Below w.heap.size w W
  size : w.heap.size + 2 ≤ W.heap.size
theorem FormSt.grown {w W W' : World} {t1 : List UInt8} {L H : Nat} {v v' : Value} {xs xs' : List Value} {q q' : Nat} (h : FormSt w W t1 L H v xs q) (hg : W.grownBy W' v.ownBlock) (ho : W'.ownsRow (w.heap.size + 2) 63 1 v' q' xs') :
    W'.cell? ⟨w.heap.size + 1, 3, none⟩ = some v ∧ W'.frozen? ⟨w.heap.size + 1, 3, none⟩ = false ∧ FormSt w (W'.setCell ⟨w.heap.size + 1, 3, none⟩ v') t1 L H v' xs' q' := by
  have hne : ∀ k, k < w.heap.size + 2 → some k ≠ v.ownBlock := fun k hk e => by have := (h.own.lt k e.symm).1; omega
  have hb : ∀ k, k < w.heap.size + 2 → W'.heap[k]? = W.heap[k]? := fun k hk => hg.block k (by have := h.size; omega) (hne k hk)
  have hc : ∀ k o, k < w.heap.size + 2 → W'.cell? ⟨k, o, none⟩ = W.cell? ⟨k, o, none⟩ := fun k o hk => World.cell?_of_block (w := W) (hb k hk)
  have hf : ∀ k o, k < w.heap.size + 2 → W'.frozen? ⟨k, o, none⟩ = W.frozen? ⟨k, o, none⟩ := fun k o hk => World.frozen?_of_block (w := W) (hb k hk)
  have e3 : W'.cell? ⟨w.heap.size + 1, 3, none⟩ = some v := by rw [hc _ _ (by omega)]; exact h.c3
  have ez : W'.frozen? ⟨w.heap.size + 1, 3, none⟩ = false := by rw [hf _ _ (by omega)]; exact h.z3
  have other : ∀ k o, (k ≠ w.heap.size + 1 ∨ o ≠ 3) → (W'.setCell ⟨w.heap.size + 1, 3, none⟩ v').cell? ⟨k, o, none⟩ = W'.cell? ⟨k, o, none⟩ := by
    intro k o hko
    apply World.cell?_setCell_other
    intro e
    cases e
    rcases hko with h1 | h1 <;> exact h1 rfl
  have fo : ∀ p, (W'.setCell ⟨w.heap.size + 1, 3, none⟩ v').frozen? p = W'.frozen? p := fun p => by simp
  refine ⟨e3, ez, ⟨?_, ?_, ?_, ?_, ?_, ?_, ?_, ?_, ?_, ?_, ?_, ?_, ?_, ?_, ?_, ?_⟩⟩
  · rw [other _ _ (.inr (by omega)), hc _ _ (by omega)]; exact h.c0
  · rw [other _ _ (.inr (by omega)), hc _ _ (by omega)]; exact h.c1
  · rw [other _ _ (.inr (by omega)), hc _ _ (by omega)]; exact h.c2
  · exact World.cell?_setCell_same _ _ _ e3
  · rw [other _ _ (.inl (by omega)), hc _ _ (by omega)]; exact h.r0
  · rw [other _ _ (.inl (by omega)), hc _ _ (by omega)]; exact h.r1
  · rw [other _ _ (.inl (by omega)), hc _ _ (by omega)]; exact h.r2
  · rw [other _ _ (.inl (by omega)), hc _ _ (by omega)]; exact h.r3
  · rw [fo]; exact ez
  · rw [fo, hf _ _ (by omega)]; exact h.y0
  · rw [fo, hf _ _ (by omega)]; exact h.y1
  · rw [fo, hf _ _ (by omega)]; exact h.y2
  · rw [fo, hf _ _ (by omega)]; exact h.y3
  · exact ho.kept (grown_set W' ⟨w.heap.size + 1, 3, none⟩ v') (by
      cases hv : v'.ownBlock with
      | none => exact .inl rfl
      | some k =>
        right
        intro e
        have := (ho.lt k hv).1
        simp only [Option.some.injEq] at e
        omega)
  · exact (h.below.grown hg (by have := h.size; omega) (fun k hk => by have := (h.own.lt k hk).1; omega)).setCell (show w.heap.size ≤ w.heap.size + 1 from by omega) _
  · have h1 := h.size
    have h2 := hg.size
    simp only [World.size_setCell]
    omega
theorem FormSt.alloc {w W : World} {t1 : List UInt8} {L H : Nat} {v : Value} {xs : List Value} {q : Nat} (h : FormSt w W t1 L H v xs q) (o : Obj) : FormSt w (W.alloc o) t1 L H v xs q := by
  have hs := h.size
  exact ⟨by rw [cell_alloc_old (by simp only; omega)]; exact h.c0, by rw [cell_alloc_old (by simp only; omega)]; exact h.c1, by rw [cell_alloc_old (by simp only; omega)]; exact h.c2, by rw [cell_alloc_old (by simp only; omega)]; exact h.c3,
    by rw [cell_alloc_old (by simp only; omega)]; exact h.r0, by rw [cell_alloc_old (by simp only; omega)]; exact h.r1, by rw [cell_alloc_old (by simp only; omega)]; exact h.r2, by rw [cell_alloc_old (by simp only; omega)]; exact h.r3,
    by rw [frozen_alloc_old (by simp only; omega)]; exact h.z3, by rw [frozen_alloc_old (by simp only; omega)]; exact h.y0, by rw [frozen_alloc_old (by simp only; omega)]; exact h.y1, by rw [frozen_alloc_old (by simp only; omega)]; exact h.y2, by rw [frozen_alloc_old (by simp only; omega)]; exact h.y3,
    h.own.alloc _, h.below.alloc h.below.size _, by simp; omega⟩
theorem FormSt.start (w : World) (t1 : List UInt8) (L H : Nat) : FormSt w ((w.alloc (.cells #[.string ⟨#[]⟩, .int .i64 0, .int .u64 0, .slice none 0 0] 101)).alloc (.cells #[.string (str t1), .int .i64 (L : Int), .int .u64 (H : Int), .slice none 0 0] 101)).drew t1 L H (.slice none 0 0) [] 0 := by
  obtain ⟨W1, hW1⟩ : ∃ X, X = w.alloc (.cells #[.string ⟨#[]⟩, .int .i64 0, .int .u64 0, .slice none 0 0] 101) := ⟨_, rfl⟩
  rw [← hW1]
  have hs : W1.heap.size = w.heap.size + 1 := by rw [hW1]; simp
  have hb1 : Below w.heap.size w W1 := by rw [hW1]; exact (Below.refl _ _).alloc (Nat.le_refl _) _
  have q0 : W1.cell? ⟨w.heap.size, 0, none⟩ = some (.string ⟨#[]⟩) := by rw [hW1]; simp
  have q1 : W1.cell? ⟨w.heap.size, 1, none⟩ = some (.int .i64 0) := by rw [hW1]; simp
  have q2 : W1.cell? ⟨w.heap.size, 2, none⟩ = some (.int .u64 0) := by rw [hW1]; simp
  have q3 : W1.cell? ⟨w.heap.size, 3, none⟩ = some (.slice none 0 0) := by rw [hW1]; simp
  have f0 : ∀ o, W1.frozen? ⟨w.heap.size, o, none⟩ = false := fun o => by rw [hW1]; simp
  have hl : w.heap.size < W1.heap.size := by omega
  exact ⟨by rw [← hs]; simp, by rw [← hs]; simp, by rw [← hs]; simp, by rw [← hs]; simp, by rw [World.cell?_drew, cell_alloc_old hl]; exact q0, by rw [World.cell?_drew, cell_alloc_old hl]; exact q1, by rw [World.cell?_drew, cell_alloc_old hl]; exact q2, by rw [World.cell?_drew, cell_alloc_old hl]; exact q3,
    by rw [← hs]; simp, by show (W1.alloc _).frozen? _ = false; rw [frozen_alloc_old hl]; exact f0 0, by show (W1.alloc _).frozen? _ = false; rw [frozen_alloc_old hl]; exact f0 1, by show (W1.alloc _).frozen? _ = false; rw [frozen_alloc_old hl]; exact f0 2, by show (W1.alloc _).frozen? _ = false; rw [frozen_alloc_old hl]; exact f0 3,
    World.ownsRow_nil _ _ _ _, (hb1.alloc (by omega) _).drew, by simp; omega⟩
set_option maxRecDepth 100000 in
set_option maxHeartbeats 4000000 in
theorem form_yes (s : List UInt8) (m n b L H : Nat) (t1 t2 t3 : List UInt8) (h : FormIn s m n b L H t1 t2 t3) (hc : L ≤ 400 ∧ m = 12 + n + 8 * slicesOfN L b) (S : Nat → Nat)
    (hS : ∀ i, i < slicesOfN L b → ∃ u : List UInt8, (str s).extract (12 + n + 8 * i) (20 + n + 8 * i) = str u ∧ ∀ W : World, Calls Tryz.prog 87 #[.string (str u)] W fun e w' => e = .returned (.int .u64 (S i : Int)) ∧ w' = W) (w : World) :
    Calls Tryz.prog 115 #[.string (str s), .int .i64 (b : Int)] w fun e w' => ∃ vs, e = .returned (.tuple #[.agg #[.string (str t1), .int .i64 (L : Int), .int .u64 (H : Int), vs], .bool true]) ∧ w'.ownsRow w.heap.size 63 1 vs (slicesOfN L b) (u64V ((List.range (slicesOfN L b)).map S)) ∧ Below w.heap.size w w' := by
  obtain ⟨i0, hi, hz0, hz1, hz2⟩ := info_parts Tryz.info64
  have HS := hid_of hS
  clear hS
  obtain ⟨hm1, hss, ix1, hn1, hn2, hmn, hb0, hb1, hL, ex1, ex2, ex3, num2, num3⟩ := h
  have N2 := hid_of num2
  have N3 := hid_of num3
  clear num2 num3
  have a1 : ¬ ((m : Int) < 2) := by omega
  have a2 : ¬ ((n : Int) < 1) := by omega
  have a3 : ¬ ((20 : Int) < (n : Int)) := by omega
  have a4 : ¬ ((m : Int) < 12 + (n : Int)) := by omega
  have wn : IntKind.i64.wrap (n : Int) = (n : Int) := by rw [IntKind.wrap_i64]; omega
  have wL : IntKind.i64.wrap (L : Int) = (L : Int) := by rw [IntKind.wrap_i64]; omega
  have w2 : IntKind.i64.wrap (2 + (n : Int)) = 2 + (n : Int) := by rw [IntKind.wrap_i64]; omega
  have w4 : IntKind.i64.wrap (4 + (n : Int)) = 4 + (n : Int) := by rw [IntKind.wrap_i64]; omega
  have w12 : IntKind.i64.wrap (12 + (n : Int)) = 12 + (n : Int) := by rw [IntKind.wrap_i64]; omega
  have g1 : (0 : Int) ≤ 2 + (n : Int) := by omega
  have g2 : (2 : Int) ≤ 2 + (n : Int) := by omega
  have g3 : 2 + (n : Int) ≤ (m : Int) := by omega
  have g4 : 2 + (n : Int) ≤ 4 + (n : Int) := by omega
  have g5 : 4 + (n : Int) ≤ (m : Int) := by omega
  have g6 : 4 + (n : Int) ≤ 12 + (n : Int) := by omega
  have g7 : 12 + (n : Int) ≤ (m : Int) := by omega
  have g8 : (0 : Int) ≤ 4 + (n : Int) := by omega
  have n2 : (2 + (n : Int)).toNat = 2 + n := by omega
  have n4 : (4 + (n : Int)).toNat = 4 + n := by omega
  have n12 : (12 + (n : Int)).toNat = 12 + n := by omega
  have hB : Below w.heap.size w (w.alloc (.cells #[.string ⟨#[]⟩, .int .i64 0, .int .u64 0, .slice none 0 0] 101)) := (Below.refl _ _).alloc (Nat.le_refl _) _
  obtain ⟨k, hk⟩ : ∃ k, k = slicesOfN L b := ⟨_, rfl⟩
  have hkl := slicesOfN_le L b hb0
  have ek : ((L : Int) + (b : Int) - 1) / (b : Int) = (k : Int) := by
    rw [hk]
    unfold slicesOfN
    rw [Int.natCast_ediv]
    congr 1
    omega
  rw [← hk] at hkl hc HS ⊢
  have HK := hid_of hk
  clear hk
  have wLb : IntKind.i64.wrap ((L : Int) + (b : Int)) = (L : Int) + (b : Int) := by rw [IntKind.wrap_i64]; omega
  have wLb1 : IntKind.i64.wrap ((L : Int) + (b : Int) - 1) = (L : Int) + (b : Int) - 1 := by rw [IntKind.wrap_i64]; omega
  have wk : IntKind.i64.wrap (k : Int) = (k : Int) := by rw [IntKind.wrap_i64]; omega
  have w8 : IntKind.i64.wrap (8 * (k : Int)) = 8 * (k : Int) := by rw [IntKind.wrap_i64]; omega
  have w128 : IntKind.i64.wrap (12 + (n : Int) + 8 * (k : Int)) = 12 + (n : Int) + 8 * (k : Int) := by rw [IntKind.wrap_i64]; omega
  have hbz : ¬ (b : Int) = 0 := by omega
  have a5 : ¬ ((400 : Int) < (L : Int)) := by omega
  have a6 : ((m : Int) != 12 + (n : Int) + 8 * (k : Int)) = false := by simp; omega
  have HC : Hid (k ≤ 1000 ∧ m = 12 + n + 8 * k) := hid_of ⟨by omega, hc.2⟩
  clear hc
  go_enter Tryz.func115, Tryz.ntmps115
  go_wp2_with fail
  refine (fun (key : Unit → ?RestOf) => ?A : (Unit → ?RestOf) → _) (fun _ => ?B)
  case A =>
    go_region_held3 (fun W => Below w.heap.size w W) (first | assumption | exact hB.drew | exact (hB.alloc hB.size _).drew)
      (first | (go_at_call 87; first | with_reducible refine (N2.out _).mono ?_ | with_reducible refine (N3.out _).mono ?_
                rintro e w' ⟨rfl, rfl⟩))
    all_goals exact key ()
  case B =>
    clear g1 g2 g3 g4 g5 g6 g7 g8 n2 n4 n12 w2 w4 ix1 ex1 ex2 ex3 N2 N3 a1 a2 a3 a4 wn wL
    go_wp2_with fail
    go_loopw [9, 10] (fun i _ W => ∃ (q : Nat) (v : Value), q ≤ k ∧ i = .int .i64 (q : Int) ∧ Hid (FormSt w W t1 L H v (u64V ((List.range q).map S)) q))
      (fun i _ _ => k - (intOf i).toNat)
    case atStart => exact ⟨0, _, by omega, rfl, hid_of (FormSt.start w t1 L H)⟩
    case round =>
      clear hB
      obtain ⟨q, v, hq, rfl, HST⟩ := hrel
      by_cases hlt : q < k
      · obtain ⟨u, ex, hnum⟩ := HS.out q hlt
        have HNUM := hid_of hnum
        have mq := HC.out.2
        have wq : IntKind.i64.wrap (8 * (q : Int)) = 8 * (q : Int) := by rw [IntKind.wrap_i64]; omega
        have w12' : IntKind.i64.wrap (12 + (n : Int)) = 12 + (n : Int) := by rw [IntKind.wrap_i64]; omega
        have w20' : IntKind.i64.wrap (20 + (n : Int)) = 20 + (n : Int) := by rw [IntKind.wrap_i64]; omega
        have w12q : IntKind.i64.wrap (12 + (n : Int) + 8 * (q : Int)) = 12 + (n : Int) + 8 * (q : Int) := by rw [IntKind.wrap_i64]; omega
        have w20q : IntKind.i64.wrap (20 + (n : Int) + 8 * (q : Int)) = 20 + (n : Int) + 8 * (q : Int) := by rw [IntKind.wrap_i64]; omega
        have j1 : (0 : Int) ≤ 12 + (n : Int) + 8 * (q : Int) := by omega
        have j2 : 12 + (n : Int) + 8 * (q : Int) ≤ 20 + (n : Int) + 8 * (q : Int) := by omega
        have j3 : 20 + (n : Int) + 8 * (q : Int) ≤ (m : Int) := by omega
        have j4 : (12 + (n : Int) + 8 * (q : Int)).toNat = 12 + n + 8 * q := by omega
        have j5 : (20 + (n : Int) + 8 * (q : Int)).toNat = 20 + n + 8 * q := by omega
        have hc3 := HST.out.c3
        have hkb : k ≤ 1000 := HC.out.1
        have hrange : u64V ((List.range (q + 1)).map S) = u64V ((List.range q).map S) ++ [.int .u64 (S q : Int)] := by simp [u64V, List.range_succ]
        have HRG := hid_of hrange
        have hsz := HST.out.size
        clear mq hrange hnum hm1 hn1 hn2 hmn hb0 hb1 hL hkl ek wLb wLb1 wk w8 w128 hbz a5 a6
        go_wp2_with fail
        refine (HNUM.out _).mono ?_
        rintro e w' ⟨rfl, hw'⟩
        have hw' := hw'.symm
        subst hw'
        clear j1 j2 j3 j4 j5 wq w12' w20' w12q w20q ex HNUM
        go_wp2_with (at_builtin; refine wpList_append_own _ rfl (.tmp 92) (.tmp 94) 99 rfl (w.heap.size + 2) 63 i0 (.int .u64 0) 1 8 Tryz.underlying99 hi hz0 hz1 hz2 rfl (by decide) _ _ _ rfl (HST.out.own.alloc _) ⟨wr.heap.size, 0, none⟩ 1 1 [.int .u64 (S q : Int)] rfl rfl (cell_one_new _ _ _) ?d2 ?d3 ?d4 ?d5 ?_)
        case d2 => intro u hu; simp at hu; subst hu; rfl
        case d3 => unfold maxLen; have := HC.out.1; omega
        case d4 => have := HC.out.1; omega
        case d5 => simp; omega
        intro v6 w6 hown6 hg6 _
        rw [← HRG.out] at hown6
        obtain ⟨a6, c6, rfl, _, _, _⟩ := ownsRow_rd hown6
        obtain ⟨k1, k2, k3⟩ := (HST.out.alloc _).grown hg6 hown6
        have K3 := hid_of k3
        clear k3 hown6 hg6 hc3
        go_wp2_with fail
        exact ⟨⟨q + 1, _, by omega, by go_num, K3⟩, by simp [intOf]; omega⟩
      · obtain rfl : k = q := by omega
        obtain ⟨c0, c1, c2, c3, r0, r1, r2, r3, z3, y0, y1, y2, y3, hown, hbl, hsz⟩ := HST.out
        obtain ⟨aa, cc, rfl, _, _, _⟩ := ownsRow_rd hown
        have KO := hid_of hown
        have KB := hid_of hbl
        have hkb : k ≤ 1000 := HC.out.1
        clear hown hbl HS hm1 hn1 hn2 hmn hb0 hb1 hL hkl ek wLb wLb1 wk w8 w128 hbz a5 a6
        go_wp2_with fail
        refine bodyPost_ret (v := .tuple #[.agg #[.string (str t1), .int .i64 (L : Int), .int .u64 (H : Int), .slice aa k cc], .bool true]) (by simp [results, Tryz.results115, go_sem, r0, r1, r2, r3]) rfl ?_
        refine ⟨_, rfl, ?_, (((KB.out.setCell (Nat.le_refl _) _).setCell (Nat.le_refl _) _).setCell (Nat.le_refl _) _).setCell (Nat.le_refl _) _⟩
        have hne : ∀ o u, ∀ X : World, X.ownsRow (w.heap.size + 2) 63 1 (.slice aa k cc) k (u64V ((List.range k).map S)) → (X.setCell ⟨w.heap.size, o, none⟩ u).ownsRow (w.heap.size + 2) 63 1 (.slice aa k cc) k (u64V ((List.range k).map S)) := by
          intro o u X hX
          refine hX.kept (grown_set X ⟨w.heap.size, o, none⟩ u) ?_
          cases hv : (Value.slice aa k cc).ownBlock with
          | none => exact .inl rfl
          | some kk =>
            right
            intro e
            have := (hX.lt kk hv).1
            simp only [Option.some.injEq] at e
            omega
        exact ownsRow_base (by omega) (hne _ _ _ (hne _ _ _ (hne _ _ _ (hne _ _ _ KO.out))))
end Go.Proofs.YtonjphollmdicaaGreatDoor
namespace Go.Proofs.YtonjphollmdicaaGreatDoor
open Go.ChangeShapes Go.WideShapes Go.ChangeAt Go.RowKit
theorem rform_walk (s : List UInt8) (b : Nat) (hs : s.length ≤ 1000000) (hb0 : 0 < b) (hb1 : b ≤ 32) (w : World) :
    Calls Tryz.prog 115 #[.string (str s), .int .i64 (b : Int)] w fun e w' => Below w.heap.size w w' ∧ match formL s b with
      | some d => ∃ vs, e = .returned (.tuple #[.agg #[.string (str d.name), .int .i64 (d.long : Int), .int .u64 (d.hash : Int), vs], .bool true]) ∧ w'.ownsRow w.heap.size 63 1 vs d.slices.length (u64V d.slices)
      | none => e = .returned noForm := by
  have hss : (str s).size = s.length := str_size s
  have no : isForm s b = false → (Calls Tryz.prog 115 #[.string (str s), .int .i64 (b : Int)] w fun e w' => e = .returned noForm ∧ Below w.heap.size w w') → Calls Tryz.prog 115 #[.string (str s), .int .i64 (b : Int)] w fun e w' => Below w.heap.size w w' ∧ match formL s b with
      | some d => ∃ vs, e = .returned (.tuple #[.agg #[.string (str d.name), .int .i64 (d.long : Int), .int .u64 (d.hash : Int), vs], .bool true]) ∧ w'.ownsRow w.heap.size 63 1 vs d.slices.length (u64V d.slices)
      | none => e = .returned noForm := by
    intro hno hc
    refine hc.mono ?_
    rintro e w' ⟨rfl, hbl⟩
    unfold formL
    rw [hno]
    exact ⟨hbl, rfl⟩
  by_cases c1 : 2 ≤ s.length
  · have ix1 := index_str s 1 1 rfl (by omega)
    have hg1 : s[1]?.getD 0 = s.getD 1 0 := by simp
    rw [hg1] at ix1
    have hn256 : formN s < 256 := (s.getD 1 0).toNat_lt
    by_cases c2 : 1 ≤ formN s ∧ formN s ≤ 20 ∧ 12 + formN s ≤ s.length
    · have hin : FormIn s s.length (formN s) b (formLong s) (formHash s) ((s.drop 2).take (formN s)) ((s.drop (2 + formN s)).take 2) ((s.drop (4 + formN s)).take 8) := by
        refine ⟨hs, hss, ix1, c2.1, c2.2.1, c2.2.2, hb0, hb1, numL_two _ (by rw [List.length_take]; omega), ?_, ?_, ?_, rnumber_walk _ (by rw [List.length_take]; omega), rnumber_walk _ (by rw [List.length_take]; omega)⟩
        · rw [str_extract, Nat.add_sub_cancel_left]
        · rw [str_extract, show 4 + formN s - (2 + formN s) = 2 from by omega]
        · rw [str_extract, show 12 + formN s - (4 + formN s) = 8 from by omega]
      by_cases c3 : formLong s ≤ 400 ∧ s.length = 12 + formN s + 8 * slicesOfN (formLong s) b
      · have hyes : isForm s b = true := by
          unfold isForm
          rw [decide_eq_true c1, decide_eq_true c2.1, decide_eq_true c2.2.1, decide_eq_true c2.2.2, decide_eq_true c3.1, decide_eq_true c3.2]
          rfl
        refine (form_yes s s.length (formN s) b (formLong s) (formHash s) _ _ _ hin c3 (formSlice s) (fun i hi => ⟨(s.drop (12 + formN s + 8 * i)).take 8, ?_, rnumber_walk _ (by rw [List.length_take]; omega)⟩) w).mono ?_
        · rw [str_extract, show 20 + formN s + 8 * i - (12 + formN s + 8 * i) = 8 from by omega]
        · rintro e w' ⟨vs, rfl, hown, hbl⟩
          unfold formL
          rw [hyes]
          refine ⟨hbl, vs, rfl, ?_⟩
          simpa [formAt] using hown
      · refine no ?_ (form_no3 s s.length (formN s) b (formLong s) (formHash s) _ _ _ hin (by omega) w)
        unfold isForm
        by_cases h4 : formLong s ≤ 400
        · rw [decide_eq_false (show ¬ s.length = 12 + formN s + 8 * slicesOfN (formLong s) b from fun e => c3 ⟨h4, e⟩), Bool.and_false]
        · rw [decide_eq_false h4, Bool.and_false, Bool.false_and]
    · refine no ?_ (form_no2 s s.length (formN s) b hs c1 hss hn256 ix1 (by omega) w)
      unfold isForm
      by_cases h1 : 1 ≤ formN s
      · by_cases h2 : formN s ≤ 20
        · rw [decide_eq_false (show ¬ 12 + formN s ≤ s.length from fun e => c2 ⟨h1, h2, e⟩), Bool.and_false, Bool.false_and, Bool.false_and]
        · rw [decide_eq_false h2, Bool.and_false, Bool.false_and, Bool.false_and, Bool.false_and]
      · rw [decide_eq_false h1, Bool.and_false, Bool.false_and, Bool.false_and, Bool.false_and, Bool.false_and]
  · refine no ?_ (form_no1 s s.length b (by omega) hss w)
    unfold isForm
    rw [decide_eq_false c1]
    rfl
end Go.Proofs.YtonjphollmdicaaGreatDoor
namespace Go.Proofs.YtonjphollmdicaaGreatDoor
open Go.ChangeShapes Go.WideShapes Go.ChangeAt Go.RowKit
structure Res4 (w W : World) : Prop where
 r0 : W.cell? ⟨w.heap.size, 0, none⟩ = some (.string ⟨#[]⟩)
 r1 : W.cell? ⟨w.heap.size, 1, none⟩ = some (.int .i64 0)
 r2 : W.cell? ⟨w.heap.size, 2, none⟩ = some (.int .u64 0)
 r3 : W.cell? ⟨w.heap.size, 3, none⟩ = some (.slice none 0 0)
 y0 : W.frozen? ⟨w.heap.size, 0, none⟩ = false
 y1 : W.frozen? ⟨w.heap.size, 1, none⟩ = false
 y2 : W.frozen? ⟨w.heap.size, 2, none⟩ = false
 y3 : W.frozen? ⟨w.heap.size, 3, none⟩ = false
 below : Below w.heap.size w W
 size : w.heap.size < W.heap.size
theorem Res4.start (w : World) : Res4 w (w.alloc (.cells #[.string ⟨#[]⟩, .int .i64 0, .int .u64 0, .slice none 0 0] 101)) :=
 ⟨by simp, by simp, by simp, by simp, by simp, by simp, by simp, by simp, (Below.refl _ _).alloc (Nat.le_refl _) _, by simp⟩
theorem Res4.later {w W W' : World} (h : Res4 w W) (hb : Below W.heap.size W W') : Res4 w W' := by
 have hc : ∀ o, W'.cell? ⟨w.heap.size, o, none⟩ = W.cell? ⟨w.heap.size, o, none⟩ := fun o => hb.cell h.size
 have hf : ∀ o, W'.frozen? ⟨w.heap.size, o, none⟩ = W.frozen? ⟨w.heap.size, o, none⟩ := fun o => World.frozen?_of_block (w := W) (hb.block _ h.size)
 exact ⟨by rw [hc]; exact h.r0, by rw [hc]; exact h.r1, by rw [hc]; exact h.r2, by rw [hc]; exact h.r3, by rw [hf]; exact h.y0, by rw [hf]; exact h.y1, by rw [hf]; exact h.y2, by rw [hf]; exact h.y3, Below.next h.below hb, Nat.lt_of_lt_of_le h.size hb.size⟩
theorem Res4.alloc {w W : World} (h : Res4 w W) (o : Obj) : Res4 w (W.alloc o) := h.later ((Below.refl _ _).alloc (Nat.le_refl _) _)
theorem described_step (l : List FoundL) (set i hash b k : Nat) (hk : k < l.length) : describedL (l.drop k) set i hash b = match (if speaksOf set i hash l[k] then formL l[k].body b else none) with | some d => some d | none => describedL (l.drop (k + 1)) set i hash b := by
 rw [List.drop_eq_getElem_cons hk]
 unfold describedL
 rw [List.findSome?_cons]
 cases (if speaksOf set i hash l[k] then formL l[k].body b else none) <;> rfl
def DescRes (D : Option DescL) (w : World) (e : Ending) (w' : World) : Prop := Below w.heap.size w w' ∧ match D with
 | some d => ∃ vs, e = .returned (.tuple #[.agg #[.string (str d.name), .int .i64 (d.long : Int), .int .u64 (d.hash : Int), vs], .bool true]) ∧ w'.ownsRow w.heap.size 63 1 vs d.slices.length (u64V d.slices)
 | none => e = .returned noForm
set_option maxRecDepth 100000 in
set_option maxHeartbeats 4000000 in
theorem rdescribed_walk (l : List FoundL) (set i hash b : Nat) (a : Option Addr) (cap : Nat) (hn : l.length ≤ 1000000000) (hl : ∀ f ∈ l, f.body.length ≤ 1000000) (hb0 : 0 < b) (hb1 : b ≤ 32) (w : World) (hrd : Rd w a (foundsV l)) :
  Calls Tryz.prog 88 #[.slice a l.length cap, .int .u64 (set : Int), .int .i64 (i : Int), .int .u64 (hash : Int), .int .i64 (b : Int)] w fun e w' => DescRes (describedL l set i hash b) w e w' := by
 have HRD := hid_of hrd
 have HL := hid_of hl
 clear hrd hl
 obtain ⟨D, hD⟩ : ∃ D, D = describedL l set i hash b := ⟨_, rfl⟩
 rw [← hD]
 have HD0 := hid_of hD
 clear hD
 go_enter Tryz.func88, Tryz.ntmps88
 go_wp2_with fail
 go_loopw [12, 13, 14, 15, 16] (fun k' _ _ _ _ W => ∃ k : Nat, k ≤ l.length ∧ k' = .int .i64 (k : Int) ∧ Hid (D = describedL (l.drop k) set i hash b) ∧ Hid (Res4 w W))
  (fun k' _ _ _ _ _ => l.length - (intOf k').toNat)
 case atStart => exact ⟨0, by omega, rfl, HD0, hid_of (Res4.start w)⟩
 case round =>
  clear HD0
  obtain ⟨k, hk, rfl, HC, HR⟩ := hrel
  by_cases hlt : k < l.length
  ·obtain ⟨bb, off, rfl, c0, c1, c2⟩ := founds_get HRD.out k hlt
   have hlb : bb < w.heap.size := World.block_lt_of_cell? w _ c0
   have d0 : wr.cell? ⟨bb, off + k * 3, none⟩ = some (.int .u8 (l[k].kind.toNat : Int)) := by rw [HR.out.below.cell hlb]; exact c0
   have d1 : wr.cell? ⟨bb, off + k * 3 + 1, none⟩ = some (.int .u64 (l[k].set : Int)) := by rw [HR.out.below.cell hlb]; exact c1
   have d2 : wr.cell? ⟨bb, off + k * 3 + 2, none⟩ = some (.string (str l[k].body)) := by rw [HR.out.below.cell hlb]; exact c2
   have hbl := HL.out l[k] (List.getElem_mem hlt)
   have hdrop := described_step l set i hash b k hlt
   obtain ⟨f, hf⟩ : ∃ f, f = l[k] := ⟨_, rfl⟩
   rw [← hf] at d0 d1 d2 hbl hdrop
   have HD := hid_of hdrop
   clear hf hdrop c0 c1 c2
   have hbs := str_size f.body
   obtain ⟨m, hm⟩ : ∃ m, m = f.body.length := ⟨_, rfl⟩
   rw [← hm] at hbs hbl
   have HM := hid_of hm
   clear hm
   have nextOf : speaksOf set i hash f = false → Hid (D = describedL (l.drop (k + 1)) set i hash b) := fun hno => hid_of (by rw [HC.out, HD.out, hno]; rfl)
   have NX := hid_of nextOf
   clear nextOf
   by_cases q1 : f.kind = 70
   ·have e1 : ((f.kind.toNat : Int) != 70) = false := by rw [q1]; rfl
    by_cases q2 : f.set = set
    ·have e2 : ((f.set : Int) != (set : Int)) = false := by simp [q2]
     by_cases q3 : 1 ≤ m
     ·have e3 : ¬ ((m : Int) < 1) := by omega
      have ix0 := index_str f.body 0 0 rfl (by rw [← HM.out]; omega)
      have hg0 : f.body[0]?.getD 0 = f.body.getD 0 0 := by simp
      rw [hg0] at ix0
      obtain ⟨x, hx⟩ : ∃ x, x = f.body.getD 0 0 := ⟨_, rfl⟩
      rw [← hx] at ix0
      have hxl := x.toNat_lt
      have wx : IntKind.i64.wrap (x.toNat : Int) = (x.toNat : Int) := by rw [IntKind.wrap_i64]; omega
      have HX := hid_of hx
      clear hx hg0
      by_cases q4 : x.toNat = i
      ·have e4 : ((x.toNat : Int) != (i : Int)) = false := by simp [q4]
       obtain ⟨W1, hW1⟩ : ∃ W, W = wr.alloc (.cells #[.int .u8 70, .int .u64 (set : Int), .string (str f.body)] 148) := ⟨_, rfl⟩
       have R1 := hid_of (HR.out.alloc (.cells #[.int .u8 70, .int .u64 (set : Int), .string (str f.body)] 148))
       have g2 : W1.cell? ⟨wr.heap.size, 2, none⟩ = some (.string (str f.body)) := by rw [hW1]; simp
       rw [← hW1] at R1
       have hH := hid_of (rHash_l f.body (by rw [← HM.out]; omega) W1)
       have hF := rform_walk f.body b (by rw [← HM.out]; omega) hb0 hb1 W1
       have hall : speaksOf set i hash f = (hashL f.body == hash) := by
        unfold speaksOf
        rw [q1, q2, ← HM.out, decide_eq_true q3, ← HX.out, q4]
        simp
       have HALL := hid_of hall
       clear hall
       have hsz1 : wr.heap.size < W1.heap.size := by rw [hW1]; simp
       have HW1 := hid_of hW1
       clear hW1
       cases hfm : formL f.body b with
       | none =>
        rw [hfm] at hF
        have HF := hid_of hF
        have H1 : Hid (D = describedL (l.drop (k + 1)) set i hash b) := hid_of (by
         rw [HC.out, HD.out, HALL.out, hfm]
         cases (hashL f.body == hash) <;> rfl)
        clear hF hfm HD HC NX HM HALL
        go_wp2_with fail
        rw [← HW1.out]
        refine hH.out.mono ?_
        rintro e w' ⟨rfl, hw'⟩
        have hw' := hw'.symm
        subst hw'
        go_wp2_with fail
        refine HF.out.mono ?_
        rintro e w3 ⟨hb3, rfl⟩
        unfold noForm
        have R3 := hid_of (R1.out.later hb3)
        clear hb3
        go_wp2_with fail
        all_goals exact ⟨⟨k + 1, by omega, by go_num, H1, hid_of (R3.out.alloc _)⟩, by simp [intOf]; omega⟩
       | some d =>
        rw [hfm] at hF
        have HF := hid_of hF
        by_cases q5 : hashL f.body = hash
        ·have H1 : Hid (D = some d) := hid_of (by
          rw [HC.out, HD.out, HALL.out, hfm, q5]
          simp)
         rw [q5] at hH
         clear hF hfm HD HC NX HM HALL
         go_wp2_with fail
         rw [← HW1.out]
         refine hH.out.mono ?_
         rintro e w' ⟨rfl, hw'⟩
         have hw' := hw'.symm
         subst hw'
         go_wp2_with fail
         refine HF.out.mono ?_
         rintro e w3 ⟨hb3, vs, rfl, hown3⟩
         obtain ⟨av, cv, rfl, _, _, _⟩ := ownsRow_rd hown3
         have R3 := (R1.out.later hb3).alloc (.cells #[.string (str d.name), .int .i64 (d.long : Int), .int .u64 (d.hash : Int), .slice av d.slices.length cv] 101)
         obtain ⟨r0, r1, r2, r3, y0, y1, y2, y3, hbl3, hsz3⟩ := R3
         have KO := hid_of (hown3.alloc (.cells #[.string (str d.name), .int .i64 (d.long : Int), .int .u64 (d.hash : Int), .slice av d.slices.length cv] 101))
         have KB := hid_of hbl3
         have hszw : w.heap.size < W1.heap.size := R1.out.size
         clear hb3 hown3 hbl3
         go_wp2_with fail
         refine bodyPost_ret (v := .tuple #[.agg #[.string (str d.name), .int .i64 (d.long : Int), .int .u64 (d.hash : Int), .slice av d.slices.length cv], .bool true]) (by simp [results, Tryz.results88, go_sem, r0, r1, r2, r3]) rfl ?_
         unfold DescRes
         refine ⟨(((KB.out.setCell (Nat.le_refl _) _).setCell (Nat.le_refl _) _).setCell (Nat.le_refl _) _).setCell (Nat.le_refl _) _, ?_⟩
         rw [H1.out]
         refine ⟨_, rfl, ?_⟩
         have hne : ∀ o u, ∀ X : World, X.ownsRow W1.heap.size 63 1 (.slice av d.slices.length cv) d.slices.length (u64V d.slices) → (X.setCell ⟨w.heap.size, o, none⟩ u).ownsRow W1.heap.size 63 1 (.slice av d.slices.length cv) d.slices.length (u64V d.slices) := by
          intro o u X hX
          refine hX.kept (grown_set X ⟨w.heap.size, o, none⟩ u) ?_
          cases hv : (Value.slice av d.slices.length cv).ownBlock with
          | none => exact .inl rfl
          | some kk =>
           right
           intro e
           have := (hX.lt kk hv).1
           simp only [Option.some.injEq] at e
           omega
         exact ownsRow_base (by omega) (hne _ _ _ (hne _ _ _ (hne _ _ _ (hne _ _ _ KO.out))))
        ·have H1 : Hid (D = describedL (l.drop (k + 1)) set i hash b) := hid_of (by
          rw [HC.out, HD.out, HALL.out, beq_eq_false_iff_ne.2 q5]
          rfl)
         have e5 : ((hashL f.body : Int) == (hash : Int)) = false := by simp; omega
         obtain ⟨hv, hhv⟩ : ∃ x, x = hashL f.body := ⟨_, rfl⟩
         rw [← hhv] at hH e5
         clear hF hfm HD HC NX HM HALL q5 hhv
         go_wp2_with fail
         rw [← HW1.out]
         refine hH.out.mono ?_
         rintro e w' ⟨rfl, hw'⟩
         have hw' := hw'.symm
         subst hw'
         go_wp2_with fail
         refine HF.out.mono ?_
         rintro e w3 ⟨hb3, vs, rfl, hown3⟩
         obtain ⟨av, cv, rfl, _, _, _⟩ := ownsRow_rd hown3
         have R3 := hid_of (R1.out.later hb3)
         clear hb3 hown3
         go_wp2_with fail
         exact ⟨⟨k + 1, by omega, by go_num, H1, hid_of (R3.out.alloc _)⟩, by simp [intOf]; omega⟩
      ·have e4 : ((x.toNat : Int) != (i : Int)) = true := by simp; omega
       have H1 := NX.out (by
        unfold speaksOf
        rw [← HX.out, beq_eq_false_iff_ne.2 q4, Bool.and_false, Bool.false_and])
       clear HD HC NX HM
       go_wp2_with fail
       exact ⟨⟨k + 1, by omega, by go_num, H1, hid_of (HR.out.alloc _)⟩, by simp [intOf]; omega⟩
     ·have e3 : (m : Int) < 1 := by omega
      have H1 := NX.out (by
       unfold speaksOf
       rw [← HM.out, decide_eq_false q3, Bool.and_false, Bool.false_and, Bool.false_and])
      clear HD HC NX HM
      go_wp2_with fail
      exact ⟨⟨k + 1, by omega, by go_num, H1, hid_of (HR.out.alloc _)⟩, by simp [intOf]; omega⟩
    ·have e2 : ((f.set : Int) != (set : Int)) = true := by simp; omega
     have H1 := NX.out (by
      unfold speaksOf
      rw [beq_eq_false_iff_ne.2 q2, Bool.and_false, Bool.false_and, Bool.false_and, Bool.false_and])
     clear HD HC NX HM
     go_wp2_with fail
     exact ⟨⟨k + 1, by omega, by go_num, H1, hid_of (HR.out.alloc _)⟩, by simp [intOf]; omega⟩
   ·have e1 : ((f.kind.toNat : Int) != 70) = true := by
     simp only [bne_iff_ne, ne_eq]
     intro e
     exact q1 (UInt8.toNat_inj.1 (by simpa using (by exact_mod_cast e : f.kind.toNat = 70)))
    have H1 := NX.out (by
     unfold speaksOf
     rw [beq_eq_false_iff_ne.2 q1, Bool.false_and, Bool.false_and, Bool.false_and, Bool.false_and])
    clear HD HC NX HM
    go_wp2_with fail
    exact ⟨⟨k + 1, by omega, by go_num, H1, hid_of (HR.out.alloc _)⟩, by simp [intOf]; omega⟩
  ·obtain rfl : l.length = k := by omega
   have hnone : D = none := by rw [HC.out, List.drop_length]; rfl
   have HNO := hid_of hnone
   obtain ⟨r0, r1, r2, r3, y0, y1, y2, y3, hbl, hsz⟩ := HR.out
   have HB := hid_of hbl
   clear hnone hbl
   go_wp2_with fail
   refine bodyPost_ret (v := .tuple #[.agg #[.string ⟨#[]⟩, .int .i64 0, .int .u64 0, .slice none 0 0], .bool false]) (by simp [results, Tryz.results88, go_sem, r0, r1, r2, r3]) rfl ?_
   unfold DescRes
   refine ⟨(((HB.out.setCell (Nat.le_refl _) _).setCell (Nat.le_refl _) _).setCell (Nat.le_refl _) _).setCell (Nat.le_refl _) _, ?_⟩
   rw [HNO.out]
   rfl
end Go.Proofs.YtonjphollmdicaaGreatDoor
namespace Go.Proofs.YtonjphollmdicaaGreatDoor
open Go.ChangeShapes Go.WideShapes Go.ChangeAt Go.RowKit
set_option maxRecDepth 100000 in
set_option maxHeartbeats 2000000 in
theorem rstate_walk (name : List UInt8) (long hash : Nat) (av : Option Addr) (ln cv : Nat) (fs : List FileL) (a : Option Addr) (cap : Nat) (hn : fs.length ≤ 1000) (hf : ∀ f ∈ fs, f.2.length ≤ 1000000) (w : World) (hrd : Rd w a (filesV fs)) :
  Calls Tryz.prog 44 #[.agg #[.string (str name), .int .i64 (long : Int), .int .u64 (hash : Int), .slice av ln cv], .slice a fs.length cap] w fun e w' => e = .returned (.int .i64 (stateL name long hash fs : Int)) ∧ Below w.heap.size w w' := by
 have HRD := hid_of hrd
 have HF := hid_of hf
 clear hrd hf
 obtain ⟨R, hR⟩ : ∃ R, R = stateL name long hash fs := ⟨_, rfl⟩
 rw [← hR]
 have HR0 := hid_of hR
 clear hR
 go_enter Tryz.func44, Tryz.ntmps44
 go_wp2_with fail
 go_loopw [5, 6] (fun i _ W => ∃ k : Nat, k ≤ fs.length ∧ i = .int .i64 (k : Int) ∧ Hid (R = stateL name long hash (fs.drop k)) ∧ W.cell? ⟨w.heap.size, 0, none⟩ = some (.string (str name)) ∧ W.cell? ⟨w.heap.size, 1, none⟩ = some (.int .i64 (long : Int)) ∧ W.cell? ⟨w.heap.size, 2, none⟩ = some (.int .u64 (hash : Int)) ∧ Below w.heap.size w W)
  (fun i _ _ => fs.length - (intOf i).toNat)
 case atStart => exact ⟨0, by omega, rfl, HR0, by simp, by simp, by simp, (Below.refl _ _).alloc (Nat.le_refl _) _⟩
 case round =>
  clear HR0
  obtain ⟨k, hk, rfl, HC, d0, d1, d2, hbl⟩ := hrel
  by_cases hlt : k < fs.length
  ·obtain ⟨bb, off, rfl, c0, c1⟩ := fileCells HRD.out (Nat.le_refl _) hbl k hlt
   have hfl := HF.out fs[k] (List.getElem_mem hlt)
   have hst := state_step name long hash fs k hlt
   obtain ⟨f, hf⟩ : ∃ f, f = fs[k] := ⟨_, rfl⟩
   rw [← hf] at c0 c1 hfl hst
   have HST := hid_of hst
   have HB := hid_of hbl
   clear hf hst hbl
   have hbs := str_size f.2
   obtain ⟨m, hm⟩ : ∃ m, m = f.2.length := ⟨_, rfl⟩
   rw [← hm] at hbs hfl
   have HM := hid_of hm
   clear hm
   by_cases q1 : f.1 = name
   ·have e1 : ((str f.1).toList == (str name).toList) = true := by rw [q1]; simp
    have hH := hid_of (fun W => rHash_l f.2 (by rw [← HM.out]; omega) W)
    have hR : R = if m = long ∧ hashL f.2 = hash then 1 else 2 := by rw [HC.out, HST.out, if_pos q1, HM.out]
    obtain ⟨hv, hhv⟩ : ∃ x, x = hashL f.2 := ⟨_, rfl⟩
    rw [← hhv] at hH hR
    have HRR := hid_of hR
    clear hR hhv HST HC
    by_cases q2 : m = long
    ·have e2 : ((m : Int) == (long : Int)) = true := by simp [q2]
     by_cases q3 : hv = hash
     ·have e3 : ((hv : Int) == (hash : Int)) = true := by simp [q3]
      have HR1 : Hid (R = 1) := hid_of (by rw [HRR.out, if_pos ⟨q2, q3⟩])
      clear HRR q2 q3
      go_wp2_with fail
      go_quiet (fail)
      go_wp2_with fail
      refine (hH.out _).mono ?_
      rintro e w' ⟨rfl, hw'⟩
      subst hw'
      go_wp2_with fail
      go_quiet (fail)
      go_wp2_with fail
      go_ret
      exact ⟨by rw [HR1.out]; rfl, rdrewN (rdrewN HB.out _) _⟩
     ·have e3 : ((hv : Int) == (hash : Int)) = false := by simp; omega
      have HR1 : Hid (R = 2) := hid_of (by rw [HRR.out, if_neg (fun h => q3 h.2)])
      clear HRR q2 q3
      go_wp2_with fail
      go_quiet (fail)
      go_wp2_with fail
      refine (hH.out _).mono ?_
      rintro e w' ⟨rfl, hw'⟩
      subst hw'
      go_wp2_with fail
      go_quiet (fail)
      go_wp2_with fail
      go_ret
      exact ⟨by rw [HR1.out]; rfl, rdrewN (rdrewN HB.out _) _⟩
    ·have e2 : ((m : Int) == (long : Int)) = false := by simp; omega
     have HR1 : Hid (R = 2) := hid_of (by rw [HRR.out, if_neg (fun h => q2 h.1)])
     clear HRR q2
     go_wp2_with fail
     go_quiet (fail)
     go_wp2_with fail
     refine (hH.out _).mono ?_
     rintro e w' ⟨rfl, hw'⟩
     subst hw'
     go_wp2_with fail
     go_quiet (fail)
     go_wp2_with fail
     go_ret
     exact ⟨by rw [HR1.out]; rfl, rdrewN (rdrewN HB.out _) _⟩
   ·have e1 : ((str f.1).toList == (str name).toList) = false := by rw [str_toList, str_toList, beq_eq_false_iff_ne]; exact q1
    have H1 : Hid (R = stateL name long hash (fs.drop (k + 1))) := hid_of (by rw [HC.out, HST.out, if_neg q1])
    clear HST HC q1
    go_wp2_with fail
    go_quiet (fail)
    go_wp2_with fail
    exact ⟨⟨k + 1, by omega, by go_num, H1, by simpa using d0, by simpa using d1, by simpa using d2, rdrewN HB.out _⟩, by simp [intOf]; omega⟩
  ·obtain rfl : fs.length = k := by omega
   have hR : R = 3 := by rw [HC.out, List.drop_length]; rfl
   have HRR := hid_of hR
   have HB := hid_of hbl
   clear hR HC hbl
   go_wp2_with fail
   go_ret
   exact ⟨by rw [HRR.out]; rfl, HB.out⟩
end Go.Proofs.YtonjphollmdicaaGreatDoor
