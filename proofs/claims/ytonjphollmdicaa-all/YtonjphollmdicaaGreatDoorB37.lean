import Derived.Test.YtonjphollmdicaaGreatDoorB35
import Derived.Test.YtonjphollmdicaaGreatDoorB36
set_option maxRecDepth 100000
set_option maxHeartbeats 4000000
set_option linter.unusedSimpArgs false
namespace Go.Proofs.YtonjphollmdicaaGreatDoor
open Go.ChangeShapes Go.WideShapes Go.ChangeAt Go.RowKit
def Gq : Value := .agg #[.int .i64 0, .slice none 0 0, .slice none 0 0, .slice none 0 0, .slice none 0 0, .slice none 0 0, .int .i64 0, .int .i64 0]
theorem Hw {w W : World} (h : Below w.heap.size w W) (v0 v1 v2 v3 v4 v5 v6 v7 : Value) : Below w.heap.size w ((((((((W.setCell ⟨w.heap.size, 0, none⟩ v0).setCell ⟨w.heap.size, 1, none⟩ v1).setCell ⟨w.heap.size, 2, none⟩ v2).setCell ⟨w.heap.size, 3, none⟩ v3).setCell ⟨w.heap.size, 4, none⟩ v4).setCell ⟨w.heap.size, 5, none⟩ v5).setCell ⟨w.heap.size, 6, none⟩ v6).setCell ⟨w.heap.size, 7, none⟩ v7) := by
  have t : Touch [w.heap.size] W ((((((((W.setCell ⟨w.heap.size, 0, none⟩ v0).setCell ⟨w.heap.size, 1, none⟩ v1).setCell ⟨w.heap.size, 2, none⟩ v2).setCell ⟨w.heap.size, 3, none⟩ v3).setCell ⟨w.heap.size, 4, none⟩ v4).setCell ⟨w.heap.size, 5, none⟩ v5).setCell ⟨w.heap.size, 6, none⟩ v6).setCell ⟨w.heap.size, 7, none⟩ v7) :=
    ((((((((Touch.refl _ _).setCell (by simp) _).setCell (by simp) _).setCell (by simp) _).setCell (by simp) _).setCell (by simp) _).setCell (by simp) _).setCell (by simp) _).setCell (by simp) _
  exact h.trans (t.below h.size (by simp))
theorem Mw (fs : List Ak) (vs : List (List UInt8)) (a b : Option Addr) (ca cb : Nat) (hn : fs.length ≤ 4398046511104) (hv : vs.length ≤ 8796093022208) (h : 12 < fs.length ∨ 40 < vs.length) (w : World) :
    Calls Tryz.prog 14 #[.slice a fs.length ca, .slice b vs.length cb] w fun e w' => e = .returned (.tuple #[Gq, .int .i64 1]) ∧ Below w.heap.size w w' := by
  obtain ⟨n, hN⟩ : ∃ n, n = fs.length := ⟨_, rfl⟩
  obtain ⟨m, hM⟩ : ∃ n, n = vs.length := ⟨_, rfl⟩
  rw [← hN] at hn h ⊢
  rw [← hM] at hv h ⊢
  clear hN hM
  have hcase : ((12 : Int) < (n : Int)) ∨ (¬ (12 : Int) < (n : Int) ∧ (40 : Int) < (m : Int)) := by omega
  clear h
  rcases hcase with e1 | ⟨e1, e2⟩
  all_goals
    go_enter Tryz.func14, Tryz.ntmps14
    go_wp2_with fail
    go_loopw [6, 7] (fun bd i W => ∃ k : Nat, k ≤ n ∧ bd = .bool true ∧ i = .int .i64 (k : Int) ∧ Hid (Res8 w W))
      (fun _ i _ => n - (intOf i).toNat)
    case atStart => exact ⟨0, by omega, rfl, rfl, Aa (Res8.start w)⟩
    case round =>
      obtain ⟨k, hk, rfl, rfl, HR⟩ := hrel
      by_cases hlt : k < n
      · go_wp2_with fail
        exact ⟨⟨k + 1, by omega, rfl, by go_num, HR⟩, by simp [intOf]; omega⟩
      · obtain rfl : n = k := by omega
        go_wp2_with fail
        go_loopw [6, 8] (fun bd i W => ∃ k : Nat, k ≤ m ∧ bd = .bool true ∧ i = .int .i64 (k : Int) ∧ Hid (Res8 w W))
          (fun _ i _ => m - (intOf i).toNat)
        case atStart => exact ⟨0, by omega, rfl, rfl, HR⟩
        case round =>
          clear HR
          obtain ⟨k, hk, rfl, rfl, HR⟩ := hrel
          by_cases hlt : k < m
          · go_wp2_with fail
            exact ⟨⟨k + 1, by omega, rfl, by go_num, HR⟩, by simp [intOf]; omega⟩
          · obtain rfl : m = k := by omega
            have q0 := (HR.out.1 0 _ rfl).1
            have q1 := (HR.out.1 1 _ rfl).1
            have q2 := (HR.out.1 2 _ rfl).1
            have q3 := (HR.out.1 3 _ rfl).1
            have q4 := (HR.out.1 4 _ rfl).1
            have q5 := (HR.out.1 5 _ rfl).1
            have q6 := (HR.out.1 6 _ rfl).1
            have q7 := (HR.out.1 7 _ rfl).1
            have z0 := (HR.out.1 0 _ rfl).2
            have z1 := (HR.out.1 1 _ rfl).2
            have z2 := (HR.out.1 2 _ rfl).2
            have z3 := (HR.out.1 3 _ rfl).2
            have z4 := (HR.out.1 4 _ rfl).2
            have z5 := (HR.out.1 5 _ rfl).2
            have z6 := (HR.out.1 6 _ rfl).2
            have z7 := (HR.out.1 7 _ rfl).2
            go_wp2_with fail
            refine bodyPost_ret (v := .tuple #[Gq, .int .i64 1]) (by simp [results, Tryz.results14, go_sem, Gq, q0, q1, q2, q3, q4, q5, q6, q7]) rfl ?_
            exact ⟨rfl, Hw HR.out.2 _ _ _ _ _ _ _ _⟩
def Sz (w : World) (base : Nat) (v : Value) (p : LeftL) : Prop := ∃ fv xv svs slv stv prv, v = .agg #[.int .i64 (p.set.size : Int), fv, xv, slv, stv, prv, .int .i64 (p.lost : Int), .int .i64 (p.extra : Int)] ∧
  w.ownsRow base 101 4 fv p.set.files.length (B8 p.set.files svs) ∧ DescRows w base p.set.files svs ∧ w.ownsRow base 9 1 xv p.set.extra.length (AM p.set.extra) ∧
  w.ownsRow base 9 1 slv p.slices.length (AM p.slices) ∧ w.ownsRow base 3 1 stv p.states.length (Kj p.states) ∧ w.ownsRow base 4 1 prv p.flags.length (FL p.flags)
def Fh (r : LeftL ⊕ Nat) (w : World) (e : Ending) (w' : World) : Prop := Below w.heap.size w w' ∧ match r with
  | .inr n => e = .returned (.tuple #[Gq, .int .i64 (n : Int)])
  | .inl p => ∃ v, e = .returned (.tuple #[v, .int .i64 0]) ∧ Sz w' (w.heap.size + 1) v p
theorem IU {α : Type} (l : List α) (g : α → Nat) (M : Nat) : l.all (fun x => decide (g x ≤ M)) = !l.any (fun x => decide (M < g x)) := by
  rw [List.all_eq_not_any_not]
  congr 2
  funext x
  rw [← decide_not]
  congr 1
  rw [Nat.not_le]
theorem ND {l : List FoundL} {n : Nat} (h : EH l = .inr n) : n = 3 ∨ n = 4 := by
  unfold EH at h
  split at h
  · cases h; exact Or.inl rfl
  · split at h
    · cases h
    · cases h; exact Or.inr rfl
theorem Gk {l : List FoundL} {s : SetL} (h : EH l = .inl s) : 2 ≤ s.size ∧ s.size ≤ 32 ∧ s.files.length ≤ 6 ∧ (AF s.files).length ≤ 60 ∧ s.extra.length = 20 := by
  unfold EH at h
  split at h
  · cases h
  · rename_i f hc
    split at h
    · rename_i hl
      cases h
      obtain ⟨_, h1, h2, _, h3, h4⟩ := FV hc
      unfold GZ at hl
      simp only [Bool.and_eq_true, decide_eq_true_eq] at hl
      exact ⟨h3, h4, by rw [GP]; exact h2, hl.2, J0 _ _⟩
    · cases h
theorem NF {α : Type} (l : List α) (k : Nat) (h : k < l.length) (p : α → Bool) : (l.take (k + 1)).any p = ((l.take k).any p || p l[k]) := by
  rw [List.take_add_one, List.getElem?_eq_getElem h, List.any_append]
  simp
theorem LL (fs : List Ak) (vs : List (List UInt8)) (a b : Option Addr) (ca cb : Nat) (c1 : fs.length ≤ 12) (c2 : vs.length ≤ 40) (w : World) (hfa : Rd w a (As fs)) (hvb : Rd w b (AM vs)) :
    Calls Tryz.prog 14 #[.slice a fs.length ca, .slice b vs.length cb] w fun e w' => Fh (AH fs vs) w e w' := by
  obtain ⟨ib, hib, hbz0, hbz1, hbz2⟩ := info_parts Tryz.infoBo
  obtain ⟨ii0, hii, hiz0, hiz1, hiz2⟩ := info_parts Tryz.infoIn
  obtain ⟨it, hit, htz0, htz1, htz2⟩ := info_parts Tryz.infoTx
  obtain ⟨R, hR⟩ : ∃ R, R = AH fs vs := ⟨_, rfl⟩
  rw [← hR]
  have HR := Aa hR
  have HFA := Aa hfa
  have HVB := Aa hvb
  clear hR hfa hvb
  have e1 : ¬ (12 : Int) < (fs.length : Int) := by omega
  have e2 : ¬ (40 : Int) < (vs.length : Int) := by omega
  go_enter Tryz.func14, Tryz.ntmps14
  go_wp2_with fail
  go_loopw [6, 7] (fun bd i W => ∃ (k : Nat) (B : Bool), k ≤ fs.length ∧ bd = .bool B ∧ i = .int .i64 (k : Int) ∧ Hid (B = (fs.take k).any fun f => decide (400 < f.2.length)) ∧ Hid (Res8 w W))
    (fun _ i _ => fs.length - (intOf i).toNat)
  case atStart => exact ⟨0, false, by omega, rfl, rfl, Aa rfl, Aa (Res8.start w)⟩
  case round =>
    obtain ⟨k, B, hk, rfl, rfl, HB, H8⟩ := hrel
    by_cases hlt : k < fs.length
    · have hsn := NF fs k hlt (fun f => decide (400 < f.2.length))
      rw [← HB.out] at hsn
      cases B with
      | true =>
        have HN : Hid (true = (fs.take (k + 1)).any fun f => decide (400 < f.2.length)) := Aa (by rw [hsn]; rfl)
        clear hsn HB
        go_wp2_with fail
        exact ⟨⟨k + 1, true, by omega, rfl, by go_num, HN, H8⟩, by simp [intOf]; omega⟩
      | false =>
        obtain ⟨bb, off, rfl, d0, d1⟩ := Bk HFA.out (Nat.le_refl _) H8.out.2 k hlt
        obtain ⟨f, hf⟩ : ∃ f, f = fs[k] := ⟨_, rfl⟩
        rw [← hf] at d0 d1 hsn
        have hs1 := Ae f.2
        clear hf
        by_cases q : 400 < f.2.length
        · have g1 : (400 : Int) < (f.2.length : Int) := by omega
          have HN : Hid (true = (fs.take (k + 1)).any fun f => decide (400 < f.2.length)) := Aa (by rw [hsn, decide_eq_true q]; rfl)
          clear hsn HB q
          go_wp2_with fail
          exact ⟨⟨k + 1, true, by omega, rfl, by go_num, HN, H8⟩, by simp [intOf]; omega⟩
        · have g1 : ¬ (400 : Int) < (f.2.length : Int) := by omega
          have HN : Hid (false = (fs.take (k + 1)).any fun f => decide (400 < f.2.length)) := Aa (by rw [hsn, decide_eq_false q]; rfl)
          clear hsn HB q
          go_wp2_with fail
          exact ⟨⟨k + 1, false, by omega, rfl, by go_num, HN, H8⟩, by simp [intOf]; omega⟩
    · obtain rfl : fs.length = k := by omega
      have hB := HB.out
      rw [List.take_length] at hB
      have HB1 := Aa hB
      clear hB HB
      go_wp2_with fail
      go_loopw [6, 8] (fun bd i W => ∃ (k : Nat) (B : Bool), k ≤ vs.length ∧ bd = .bool B ∧ i = .int .i64 (k : Int) ∧ Hid (B = ((fs.any fun f => decide (400 < f.2.length)) || (vs.take k).any fun v => decide (4000 < v.length))) ∧ Hid (Res8 w W))
        (fun _ i _ => vs.length - (intOf i).toNat)
      case atStart => exact ⟨0, B, by omega, rfl, rfl, Aa (by rw [← HB1.out]; simp), H8⟩
      case round =>
        clear HB1 H8 hlt hk
        obtain ⟨k, B, hk, rfl, rfl, HB, H8⟩ := hrel
        by_cases hlt : k < vs.length
        · have hsn := NF vs k hlt (fun v => decide (4000 < v.length))
          have hor : ((fs.any fun f => decide (400 < f.2.length)) || (vs.take (k + 1)).any fun v => decide (4000 < v.length)) = (B || decide (4000 < (vs[k]).length)) := by rw [hsn, ← Bool.or_assoc, ← HB.out]
          cases B with
          | true =>
            have HN : Hid (true = ((fs.any fun f => decide (400 < f.2.length)) || (vs.take (k + 1)).any fun v => decide (4000 < v.length))) := Aa (by rw [hor]; rfl)
            clear hsn hor HB
            go_wp2_with fail
            exact ⟨⟨k + 1, true, by omega, rfl, by go_num, HN, H8⟩, by simp [intOf]; omega⟩
          | false =>
            obtain ⟨bb, off, rfl, hc0⟩ := HVB.out k (.string (str vs[k])) (by simp [AM, hlt])
            have d0 : wr.cell? ⟨bb, off + k, none⟩ = some (.string (str vs[k])) := by rw [H8.out.2.cell (World.block_lt_of_cell? w _ hc0)]; exact hc0
            obtain ⟨v, hve⟩ : ∃ v, v = vs[k] := ⟨_, rfl⟩
            rw [← hve] at d0 hor
            have hs1 := Ae v
            clear hve hsn hc0
            by_cases q : 4000 < v.length
            · have g1 : (4000 : Int) < (v.length : Int) := by omega
              have HN : Hid (true = ((fs.any fun f => decide (400 < f.2.length)) || (vs.take (k + 1)).any fun v => decide (4000 < v.length))) := Aa (by rw [hor, decide_eq_true q]; rfl)
              clear hor HB q
              go_wp2_with fail
              exact ⟨⟨k + 1, true, by omega, rfl, by go_num, HN, H8⟩, by simp [intOf]; omega⟩
            · have g1 : ¬ (4000 : Int) < (v.length : Int) := by omega
              have HN : Hid (false = ((fs.any fun f => decide (400 < f.2.length)) || (vs.take (k + 1)).any fun v => decide (4000 < v.length))) := Aa (by rw [hor, decide_eq_false q]; rfl)
              clear hor HB q
              go_wp2_with fail
              exact ⟨⟨k + 1, false, by omega, rfl, by go_num, HN, H8⟩, by simp [intOf]; omega⟩
        · obtain rfl : vs.length = k := by omega
          have hB := HB.out
          rw [List.take_length] at hB
          have hH : DZ fs vs = !B := by
            unfold DZ
            rw [decide_eq_true c1, decide_eq_true c2, IU fs (fun f => f.2.length) 400, IU vs List.length 4000, hB, Bool.not_or]
            rfl
          have HH := Aa hH
          have q0 := (H8.out.1 0 _ rfl).1
          have q1 := (H8.out.1 1 _ rfl).1
          have q2 := (H8.out.1 2 _ rfl).1
          have q3 := (H8.out.1 3 _ rfl).1
          have q4 := (H8.out.1 4 _ rfl).1
          have q5 := (H8.out.1 5 _ rfl).1
          have q6 := (H8.out.1 6 _ rfl).1
          have q7 := (H8.out.1 7 _ rfl).1
          have z0 := (H8.out.1 0 _ rfl).2
          have z1 := (H8.out.1 1 _ rfl).2
          have z2 := (H8.out.1 2 _ rfl).2
          have z3 := (H8.out.1 3 _ rfl).2
          have z4 := (H8.out.1 4 _ rfl).2
          have z5 := (H8.out.1 5 _ rfl).2
          have z6 := (H8.out.1 6 _ rfl).2
          have z7 := (H8.out.1 7 _ rfl).2
          clear hB hH HB hlt
          cases B with
          | true =>
            have HR1 : Hid (R = .inr 1) := Aa (by rw [HR.out]; unfold AH; rw [HH.out]; rfl)
            clear HR HH
            go_wp2_with fail
            refine bodyPost_ret (v := .tuple #[Gq, .int .i64 1]) (by simp [results, Tryz.results14, go_sem, Gq, q0, q1, q2, q3, q4, q5, q6, q7]) rfl ?_
            unfold Fh
            rw [HR1.out]
            exact ⟨Hw H8.out.2 _ _ _ _ _ _ _ _, rfl⟩
          | false =>
            have hH := HH.out
            have hh2 : (∀ f ∈ fs, f.2.length ≤ 400) ∧ (∀ v ∈ vs, v.length ≤ 4000) := by
              unfold DZ at hH
              simp only [Bool.not_false, Bool.and_eq_true, List.all_eq_true, decide_eq_true_eq] at hH
              exact ⟨hH.1.2, hH.2⟩
            have hRe := N7 vs b cb (by omega) (fun v hv => Nat.le_trans (hh2.2 v hv) (by omega)) wr (HVB.out.later (Nat.le_refl _) H8.out.2)
            have HFS := Aa hh2.1
            have hR1 : R = match EH (At vs) with | .inr n => .inr n | .inl s => .inl (Ct fs s) := by rw [HR.out]; unfold AH; rw [hH]; rfl
            clear q0 q1 q2 q3 q4 q5 q6 q7 z0 z1 z2 z3 z4 z5 z6 z7 hH hh2 HH HR
            unfold EO at hRe
            cases hrl : EH (At vs) with
            | inr n =>
              rw [hrl] at hRe hR1
              have HRE := Aa hRe
              have HR1 := Aa hR1
              have hn34 := ND hrl
              have en : ((n : Int) != 0) = true := by simp; omega
              clear hRe hR1 hrl hn34
              go_wp2_with fail
              refine HRE.out.mono ?_
              rintro e w2 ⟨hb2, rfl⟩
              unfold GJ
              have h8 := H8.out.later hb2
              have q0 := (h8.1 0 _ rfl).1
              have q1 := (h8.1 1 _ rfl).1
              have q2 := (h8.1 2 _ rfl).1
              have q3 := (h8.1 3 _ rfl).1
              have q4 := (h8.1 4 _ rfl).1
              have q5 := (h8.1 5 _ rfl).1
              have q6 := (h8.1 6 _ rfl).1
              have q7 := (h8.1 7 _ rfl).1
              have z0 := (h8.1 0 _ rfl).2
              have z1 := (h8.1 1 _ rfl).2
              have z2 := (h8.1 2 _ rfl).2
              have z3 := (h8.1 3 _ rfl).2
              have z4 := (h8.1 4 _ rfl).2
              have z5 := (h8.1 5 _ rfl).2
              have z6 := (h8.1 6 _ rfl).2
              have z7 := (h8.1 7 _ rfl).2
              have HB2 := Aa h8.2
              have hsz2 : w.heap.size < w2.heap.size := h8.1.lt (by simp)
              clear h8 hb2 H8 HRE
              go_wp2_with fail
              refine bodyPost_ret (v := .tuple #[Gq, .int .i64 (n : Int)]) (by simp [results, Tryz.results14, go_sem, Gq, q0, q1, q2, q3, q4, q5, q6, q7, hsz2]) rfl ?_
              unfold Fh
              rw [HR1.out]
              have h9 := Hw HB2.out (.int .i64 0) (.slice none 0 0) (.slice none 0 0) (.slice none 0 0) (.slice none 0 0) (.slice none 0 0) (.int .i64 0) (.int .i64 0)
              exact ⟨h9.alloc h9.size _, rfl⟩
            | inl s =>
              rw [hrl] at hRe hR1
              have HRE := Aa hRe
              have HR1 := Aa hR1
              have HRL := Aa hrl
              clear hRe hR1 hrl
              go_wp2_with fail
              refine HRE.out.mono ?_
              rintro e w2 ⟨hb2, v2, rfl, fv, xv, svs, rfl, hf2, hd2, hx2⟩
              have h8 := H8.out.later hb2
              obtain ⟨fa, fc, rfl, _⟩ := AE hf2
              obtain ⟨xa, xc, rfl, _⟩ := AE hx2
              obtain ⟨hs2, hs32, hs6, hs60, hs20⟩ := Gk HRL.out
              have hold := OldSet.start hf2 hd2 hx2
              have hsz2 : w.heap.size < w2.heap.size := h8.1.lt (by simp)
              obtain ⟨rb, hrb⟩ : ∃ x, x = wr.heap.size + 1 := ⟨_, rfl⟩
              have hrb1 : w.heap.size + 1 ≤ rb := by have := H8.out.2.size; omega
              rw [← hrb] at hold
              have hne : LNe w w2.heap.size (w2.heap.size + 1) (w2.heap.size + 2) := ⟨hsz2, by omega, by omega⟩
              have hw0 : Touch [] w2 ((w2.alloc (.cells #[.int .i64 (s.size : Int), .slice fa s.files.length fc, .slice xa s.extra.length xc] 40)).alloc (.cells #[.int .i64 (s.size : Int), .slice fa s.files.length fc, .slice xa s.extra.length xc, .slice none 0 0, .slice none 0 0, .slice none 0 0, .int .i64 0, .int .i64 0] 42)) := ((Touch.refl _ _).alloc _).alloc _
              have hb0 : LBase w ((w2.alloc (.cells #[.int .i64 (s.size : Int), .slice fa s.files.length fc, .slice xa s.extra.length xc] 40)).alloc (.cells #[.int .i64 (s.size : Int), .slice fa s.files.length fc, .slice xa s.extra.length xc, .slice none 0 0, .slice none 0 0, .slice none 0 0, .int .i64 0, .int .i64 0] 42)) rb w2.heap.size (w2.heap.size + 1) (w2.heap.size + 2) s (.slice fa s.files.length fc) (.slice xa s.extra.length xc) svs [.int .i64 (s.size : Int), .slice fa s.files.length fc, .slice xa s.extra.length xc, .slice none 0 0, .slice none 0 0, .slice none 0 0, .int .i64 (EY fs s.size (AF (s.files.take 0)) : Int), .int .i64 0] := by
                refine ⟨h8.touch hw0 (by simp), (Blk.new w2 _ _).alloc _, ?_, hold.touch hw0 (by simp), by simp⟩
                have hn := Blk.new (w2.alloc (.cells #[.int .i64 (s.size : Int), .slice fa s.files.length fc, .slice xa s.extra.length xc] 40)) #[.int .i64 (s.size : Int), .slice fa s.files.length fc, .slice xa s.extra.length xc, .slice none 0 0, .slice none 0 0, .slice none 0 0, .int .i64 0, .int .i64 0] 42
                rw [show (w2.alloc (.cells #[.int .i64 (s.size : Int), .slice fa s.files.length fc, .slice xa s.extra.length xc] 40)).heap.size = w2.heap.size + 1 from by simp] at hn
                exact hn
              rw [hs20] at hb0 ⊢
              have HB0 := Aa hb0
              have HNE0 := Aa hne
              clear h8 hb2 hf2 hd2 hx2 H8 HRE HRL hold hrb hne hw0 hb0
              go_wp2_with fail
              obtain ⟨W0, hW0⟩ : ∃ W, W = (w2.alloc (.cells #[.int .i64 (s.size : Int), .slice fa s.files.length fc, .slice xa 20 xc] 40)).alloc (.cells #[.int .i64 (s.size : Int), .slice fa s.files.length fc, .slice xa 20 xc, .slice none 0 0, .slice none 0 0, .slice none 0 0, .int .i64 0, .int .i64 0] 42) := ⟨_, rfl⟩
              rw [← hW0] at HB0 ⊢
              obtain ⟨b1, hb1⟩ : ∃ x, x = w2.heap.size + 2 := ⟨_, rfl⟩
              obtain ⟨LB, hLB⟩ : ∃ x, x = w2.heap.size + 1 := ⟨_, rfl⟩
              rw [← hb1, ← hLB] at HB0 HNE0
              rw [← hLB]
              obtain ⟨SB, hSB⟩ : ∃ x, x = w2.heap.size := ⟨_, rfl⟩
              rw [← hSB] at HB0 HNE0 ⊢
              clear hW0 hb1 hLB hSB hsz2
              have ne1 := HNE0.out.h1
              have ne2 := HNE0.out.h2
              have ne3 := HNE0.out.h3
              go_loopw [12, 13, 14, 15, 16] (fun ii _ _ _ _ W => ∃ (i : Nat) (slv stv prv : Value), i ≤ s.files.length ∧ ii = .int .i64 (i : Int) ∧
                  Hid (LBase w W rb SB LB b1 s (.slice fa s.files.length fc) (.slice xa 20 xc) svs [.int .i64 (s.size : Int), .slice fa s.files.length fc, .slice xa 20 xc, slv, stv, prv, .int .i64 (EY fs s.size (AF (s.files.take i)) : Int), .int .i64 0]) ∧
                  Hid (LNew W b1 slv stv prv (CI fs s.size (AF (s.files.take i))) ((s.files.take i).map (BU fs)) (CW fs s.size (AF (s.files.take i)))))
                (fun ii _ _ _ _ _ => s.files.length - (intOf ii).toNat)
              case atStart => exact ⟨0, .slice none 0 0, .slice none 0 0, .slice none 0 0, by omega, rfl, HB0, Aa ⟨World.ownsRow_nil _ _ _ _, World.ownsRow_nil _ _ _ _, World.ownsRow_nil _ _ _ _⟩⟩
              case round =>
                clear HB0
                obtain ⟨i, slv, stv, prv, hi, rfl, HB, HW⟩ := hrel
                by_cases hlt : i < s.files.length
                · obtain ⟨bb, off, sa, sc, rfl, c0, c1', c2', c3, hrd⟩ := HB.out.old.file i hlt
                  have hst := Mt s.files[i].name s.files[i].long s.files[i].hash sa s.files[i].slices.length sc fs a ca (by omega) (fun f hf => Nat.le_trans (HFS.out f hf) (by omega)) wr (HFA.out.later (Nat.le_refl _) HB.out.res.2)
                  have htk : s.files.take (i + 1) = s.files.take i ++ [s.files[i]] := by rw [List.take_add_one, List.getElem?_eq_getElem hlt]; rfl
                  have hsl60 : s.files[i].slices.length ≤ 60 := by
                    have h1 : (AF (s.files.take (i + 1))).length ≤ (AF s.files).length := by
                      unfold AF
                      rw [← List.take_append_drop (i + 1) s.files, List.flatMap_append, List.length_append, List.take_append_drop]
                      omega
                    rw [htk, Ee, List.length_append] at h1
                    omega
                  have cs1 := (HB.out.sb 1 _ rfl).1
                  have cl4 := (HB.out.lb 4 _ rfl).1
                  obtain ⟨d, hd⟩ : ∃ d, d = s.files[i] := ⟨_, rfl⟩
                  rw [← hd] at c0 c1' c2' c3 hrd hst htk hsl60
                  have hsd : D6 d.name d.long d.hash fs = BU fs d := rfl
                  rw [hsd] at hst
                  have HST := Aa hst
                  have HTK := Aa htk
                  have HRD := Aa hrd
                  clear hst htk hrd hd hsd
                  go_wp2_with fail
                  refine HST.out.mono ?_
                  rintro e w3 ⟨rfl, hb3⟩
                  have HB3 := Aa (HB.out.touch HNE0.out (Touch.of_below hb3 []) (by simp))
                  have HW3 := Aa (HW.out.touch (Touch.of_below hb3 []) (by simp))
                  have cl4 := (HB3.out.lb 4 _ rfl).1
                  have hsz3 : b1 ≤ w3.heap.size := HB3.out.size
                  obtain ⟨sts, hsts⟩ : ∃ x, x = (s.files.take i).map (BU fs) := ⟨_, rfl⟩
                  have hlen4 : sts.length = i := by rw [hsts, List.length_map, List.length_take]; omega
                  rw [← hsts] at HW3
                  have HSTS := Aa hsts
                  clear hsts
                  clear hb3 HB HW HST c0 c1' c2' c3 cs1
                  go_wp2_with (at_builtin; refine wpList_append_own _ rfl (.tmp 86) (.tmp 88) 31 rfl b1 3 ii0 (.int .i64 0) 1 8 Tryz.underlying31 hii hiz0 hiz1 hiz2 rfl (by decide) _ _ _ rfl (HW3.out.st.alloc _) ⟨w3.heap.size, 0, none⟩ 1 1 [.int .i64 (BU fs d : Int)] rfl rfl ?c1 ?c2 ?c3 ?c4 ?c5 ?_)
                  case c1 => exact Fb w3 _ _
                  case c2 => exact El rfl
                  case c3 => unfold maxLen; omega
                  case c4 => omega
                  case c5 => simp; omega
                  intro v6 w6 hown6 hg6 _
                  obtain ⟨va, vc, rfl, _⟩ := AE hown6
                  obtain ⟨⟨s1, z1⟩, hb7, hw7⟩ := RM (x := BU fs d) (HB3.out.touch HNE0.out ((Touch.refl [] _).alloc _) (by simp)) HNE0.out (HW3.out.touch ((Touch.refl [] _).alloc _) (by simp)) hg6 (by rw [hlen4]; exact hown6)
                  have hst7 : sts ++ [BU fs d] = (s.files.take (i + 1)).map (BU fs) := by rw [HTK.out, List.map_append, HSTS.out]; rfl
                  rw [hst7] at hw7
                  have HB7 := Aa hb7
                  have HW7 := Aa hw7
                  clear hb7 hw7 hst7 hown6 hg6 HB3 HW3 cl4
                  go_wp2_with fail
                  go_loopw [14, 15, 16] (fun kk _ _ W => ∃ (k : Nat) (slv prv : Value), k ≤ d.slices.length ∧ kk = .int .i64 (k : Int) ∧
                      Hid (LBase w W rb SB LB b1 s (.slice (some ⟨bb, off, none⟩) s.files.length fc) (.slice xa 20 xc) svs [.int .i64 (s.size : Int), .slice (some ⟨bb, off, none⟩) s.files.length fc, .slice xa 20 xc, slv, .slice va (i + 1) vc, prv, .int .i64 (EY fs s.size (AF (s.files.take i) ++ d.slices.take k) : Int), .int .i64 0]) ∧
                      Hid (LNew W b1 slv (.slice va (i + 1) vc) prv (CI fs s.size (AF (s.files.take i) ++ d.slices.take k)) ((s.files.take (i + 1)).map (BU fs)) (CW fs s.size (AF (s.files.take i) ++ d.slices.take k))))
                    (fun kk _ _ _ => d.slices.length - (intOf kk).toNat)
                  case atStart => exact ⟨0, _, _, by omega, rfl, Aa (by rw [List.take_zero, List.append_nil]; exact HB7.out), Aa (by rw [List.take_zero, List.append_nil]; exact HW7.out)⟩
                  case round =>
                    clear HB7 HW7 s1 z1
                    obtain ⟨k, slv, prv, hk, rfl, HB, HW⟩ := hrel
                    have cs0 := (HB.out.sb 0 _ rfl).1
                    have cs1 := (HB.out.sb 1 _ rfl).1
                    obtain ⟨bb', off', sa', sc', ee, -, -, -, c3, hrd⟩ := HB.out.old.file i hlt
                    cases ee
                    have hdi : s.files[i] = d := by
                      have := congrArg (fun l => l[i]?) HTK.out
                      simp only [List.getElem?_take_of_lt (Nat.lt_succ_self i), List.getElem?_eq_getElem hlt] at this
                      rw [List.getElem?_append_right (by rw [List.length_take]; omega), List.length_take, Nat.min_eq_left (by omega), Nat.sub_self] at this
                      simpa using this
                    rw [hdi] at c3 hrd
                    by_cases hkl : k < d.slices.length
                    · obtain ⟨sb, so, rfl, hc⟩ := hrd k (.int .u64 (d.slices[k] : Int)) (by simp [Cz, hkl])
                      have htk2 : d.slices.take (k + 1) = d.slices.take k ++ [d.slices[k]] := by rw [List.take_add_one, List.getElem?_eq_getElem hkl]; rfl
                      have hpc := fun W' (hW : Touch [] wr W') => Mv fs s.size d.slices[k] a ca hs2 hs32 (by omega) HFS.out W' (HFA.out.later (Nat.le_refl _) (HB.out.res.2.trans (hW.below HB.out.res.2.size (by simp))))
                      obtain ⟨h, hh⟩ : ∃ x, x = d.slices[k] := ⟨_, rfl⟩
                      rw [← hh] at hc htk2 hpc
                      obtain ⟨hs, hhs⟩ : ∃ x, x = AF (s.files.take i) ++ d.slices.take k := ⟨_, rfl⟩
                      have hsn : AF (s.files.take i) ++ d.slices.take (k + 1) = hs ++ [h] := by rw [htk2, hhs, List.append_assoc]
                      have hl60 : hs.length ≤ 60 := by
                        have h1 : (AF (s.files.take (i + 1))).length ≤ (AF s.files).length := by
                          unfold AF
                          rw [← List.take_append_drop (i + 1) s.files, List.flatMap_append, List.length_append, List.take_append_drop]
                          omega
                        rw [HTK.out, Ee, List.length_append] at h1
                        rw [hhs, List.length_append, List.length_take]
                        omega
                      rw [← hhs] at HB HW
                      obtain ⟨ps, hps⟩ : ∃ x, x = CI fs s.size hs := ⟨_, rfl⟩
                      obtain ⟨fl, hfl⟩ : ∃ x, x = CW fs s.size hs := ⟨_, rfl⟩
                      obtain ⟨lo, hlo⟩ : ∃ x, x = EY fs s.size hs := ⟨_, rfl⟩
                      have hpl : ps.length = hs.length := by rw [hps]; simp [CI]
                      have hfl' : fl.length = hs.length := by rw [hfl]; simp [CW]
                      have hlo1 := Ng fs s.size hs
                      have hlo2 := NM fs s.size hs h
                      have hps2 : CI fs s.size (hs ++ [h]) = ps ++ [(AL fs s.size h).getD []] := by rw [hps]; simp [CI]
                      have hfl2 : CW fs s.size (hs ++ [h]) = fl ++ [(AL fs s.size h).isSome] := by rw [hfl]; simp [CW]
                      rw [← hps, ← hfl] at HW
                      rw [← hlo] at HB hlo1 hlo2
                      have HSN := Aa hsn
                      have HPS := Aa hps2
                      have HFL := Aa hfl2
                      have HLO := Aa hlo2
                      obtain ⟨hln, hhln⟩ : ∃ x, x = hs.length := ⟨_, rfl⟩
                      rw [← hhln] at hl60 hpl hfl' hlo1
                      clear hrd hh htk2 hhs hsn hps hfl hlo hps2 hfl2 hlo2 hdi hhln
                      unfold RJ at hpc
                      have hCM : Hid (∀ W', Touch [] wr W' → Touch [] wr W' ∧ W'.cell? ⟨SB, 0, none⟩ = some (.int .i64 (s.size : Int)) ∧ W'.cell? ⟨SB, 1, none⟩ = some (.slice (some ⟨bb, off, none⟩) s.files.length fc) ∧ W'.cell? ⟨bb, off + i * 4 + 3, none⟩ = some (.slice (some ⟨sb, so, none⟩) d.slices.length sc') ∧ W'.cell? ⟨sb, so + k, none⟩ = some (.int .u64 (h : Int))) := Aa (fun W' hW => by
                        refine ⟨hW, ?_, ?_, ?_, ?_⟩
                        · rw [hW.cell (World.block_lt_of_cell? wr _ cs0) (by simp)]; exact cs0
                        · rw [hW.cell (World.block_lt_of_cell? wr _ cs1) (by simp)]; exact cs1
                        · rw [hW.cell (World.block_lt_of_cell? wr _ c3) (by simp)]; exact c3
                        · rw [hW.cell (World.block_lt_of_cell? wr _ hc) (by simp)]; exact hc)
                      cases hfp : AL fs s.size h with
                      | some t =>
                        have hpc' : ∀ W', Touch [] wr W' → Calls Tryz.prog 45 #[.slice a fs.length ca, .int .i64 (s.size : Int), .int .u64 (h : Int)] W' fun e w' => e = .returned (.tuple #[(.string (str t)), .bool true]) ∧ Below W'.heap.size W' w' := fun W' hW => by
                          have := hpc W' hW
                          rw [hfp] at this
                          exact this
                        rw [hfp] at HPS HFL HLO
                        have HPC := Aa hpc'
                        clear hpc hpc' hfp
                        go_wp2_with fail
                        go_region_held3 (fun W' => Touch [] wr W' ∧ W'.cell? ⟨SB, 0, none⟩ = some (.int .i64 (s.size : Int)) ∧ W'.cell? ⟨SB, 1, none⟩ = some (.slice (some ⟨bb, off, none⟩) s.files.length fc) ∧ W'.cell? ⟨bb, off + i * 4 + 3, none⟩ = some (.slice (some ⟨sb, so, none⟩) d.slices.length sc') ∧ W'.cell? ⟨sb, so + k, none⟩ = some (.int .u64 (h : Int)))
                          (first | assumption | (refine hCM.out _ ?_ ; first | exact Touch.refl _ _ | exact (Touch.refl _ _).drew | exact (Touch.refl _ _).drew.trans (Touch.of_below hb4 [])))
                          (first | (go_at_call 45; refine (HPC.out _ (by first | exact (Touch.refl _ _).drew | exact Touch.refl _ _)).mono ?_; rintro e w4 ⟨rfl, hb4⟩))
                        have ht4 : Touch [] wr w4 := (Touch.refl [] wr).drew.trans (Touch.of_below hb4 [])
                        have HB4 := Aa (HB.out.touch HNE0.out ht4 (by simp))
                        have HW4 := Aa (HW.out.touch ht4 (by simp))
                        have cl3 := (HB4.out.lb 3 _ rfl).1
                        have hsz4 : b1 ≤ w4.heap.size := HB4.out.size
                        clear hb4 ht4 HB HW HPC hCM c3 hc cs0 cs1
                        go_wp2_with (at_builtin; refine wpList_append_own _ rfl (.tmp 120) (.tmp 122) 23 rfl b1 9 it (.string ByteArray.empty) 1 16 Tryz.underlying23 hit htz0 htz1 htz2 rfl (by decide) _ _ _ rfl (HW4.out.sl.alloc _) ⟨w4.heap.size, 0, none⟩ 1 1 [(.string (str t))] rfl rfl ?c1 ?c2 ?c3 ?c4 ?c5 ?_)
                        case c1 => exact Fb w4 _ _
                        case c2 => exact El rfl
                        case c3 => unfold maxLen; omega
                        case c4 => omega
                        case c5 => simp; omega
                        intro v6 w6 hown6 hg6 _
                        obtain ⟨ua, uc, rfl, _⟩ := AE hown6
                        obtain ⟨⟨s1, z1⟩, hb7, hw7⟩ := Qj (x := t) (HB4.out.touch HNE0.out ((Touch.refl [] _).alloc _) (by simp)) HNE0.out (HW4.out.touch ((Touch.refl [] _).alloc _) (by simp)) hg6 (by rw [hpl]; exact hown6)
                        have cl5 := (hb7.lb 5 _ rfl).1
                        rw [World.cell?_setCell_other _ _ _ _ (by simp)] at cl5
                        have hsz6 : b1 ≤ w6.heap.size := by simpa using hb7.size
                        have HB7 := Aa hb7
                        have HW7 := Aa hw7
                        clear hb7 hw7 hown6 hg6 HB4 HW4 cl3
                        go_wp2_with (at_builtin; refine wpList_append_own _ rfl (.tmp 127) (.tmp 129) 32 rfl b1 4 ib (.bool false) 1 1 Tryz.underlying32 hib hbz0 hbz1 hbz2 rfl (by decide) _ _ _ rfl (HW7.out.pr.alloc _) ⟨w6.heap.size, 0, none⟩ 1 1 [.bool true] rfl rfl ?d1 ?d2 ?d3 ?d4 ?d5 ?_)
                        case d1 =>
                          have := Fb (w6.setCell ⟨LB, 3, none⟩ (.slice ua (hln + 1) uc)) (.bool true) 4
                          simpa using this
                        case d2 => exact El rfl
                        case d3 => unfold maxLen; omega
                        case d4 => omega
                        case d5 => simp; omega
                        intro v8 w8 hown8 hg8 _
                        obtain ⟨xa8, xc8, rfl, _⟩ := AE hown8
                        obtain ⟨⟨s2, z2⟩, hb9, hw9⟩ := PJ (x := true) (HB7.out.touch HNE0.out ((Touch.refl [] _).alloc _) (by simp)) HNE0.out (HW7.out.touch ((Touch.refl [] _).alloc _) (by simp)) hg8 (by rw [hfl']; exact hown8)
                        have HB9 : Hid (LBase w (w8.setCell ⟨LB, 5, none⟩ (.slice xa8 (hln + 1) xc8)) rb SB LB b1 s (.slice (some ⟨bb, off, none⟩) s.files.length fc) (.slice xa 20 xc) svs [.int .i64 (s.size : Int), .slice (some ⟨bb, off, none⟩) s.files.length fc, .slice xa 20 xc, .slice ua (hln + 1) uc, .slice va (i + 1) vc, .slice xa8 (hln + 1) xc8, .int .i64 (EY fs s.size (AF (s.files.take i) ++ d.slices.take (k + 1)) : Int), .int .i64 0]) := Aa (by
                          rw [HSN.out, HLO.out]
                          exact hb9)
                        have HW9 : Hid (LNew (w8.setCell ⟨LB, 5, none⟩ (.slice xa8 (hln + 1) xc8)) b1 (.slice ua (hln + 1) uc) (.slice va (i + 1) vc) (.slice xa8 (hln + 1) xc8) (CI fs s.size (AF (s.files.take i) ++ d.slices.take (k + 1))) ((s.files.take (i + 1)).map (BU fs)) (CW fs s.size (AF (s.files.take i) ++ d.slices.take (k + 1)))) := Aa (by
                          rw [HSN.out, HPS.out, HFL.out]
                          exact hw9)
                        clear hb9 hw9 hown8 hg8 HB7 HW7 cl5 s1 z1
                        go_wp2_with fail
                        exact ⟨⟨k + 1, _, _, by omega, by go_num, HB9, HW9⟩, by simp [intOf]; omega⟩
                      | none =>
                        have hpc' : ∀ W', Touch [] wr W' → Calls Tryz.prog 45 #[.slice a fs.length ca, .int .i64 (s.size : Int), .int .u64 (h : Int)] W' fun e w' => e = .returned (.tuple #[(.string ⟨#[]⟩), .bool false]) ∧ Below W'.heap.size W' w' := fun W' hW => by
                          have := hpc W' hW
                          rw [hfp] at this
                          exact this
                        rw [hfp] at HPS HFL HLO
                        have HPC := Aa hpc'
                        clear hpc hpc' hfp
                        go_wp2_with fail
                        go_region_held3 (fun W' => Touch [] wr W' ∧ W'.cell? ⟨SB, 0, none⟩ = some (.int .i64 (s.size : Int)) ∧ W'.cell? ⟨SB, 1, none⟩ = some (.slice (some ⟨bb, off, none⟩) s.files.length fc) ∧ W'.cell? ⟨bb, off + i * 4 + 3, none⟩ = some (.slice (some ⟨sb, so, none⟩) d.slices.length sc') ∧ W'.cell? ⟨sb, so + k, none⟩ = some (.int .u64 (h : Int)))
                          (first | assumption | (refine hCM.out _ ?_ ; first | exact Touch.refl _ _ | exact (Touch.refl _ _).drew | exact (Touch.refl _ _).drew.trans (Touch.of_below hb4 [])))
                          (first | (go_at_call 45; refine (HPC.out _ (by first | exact (Touch.refl _ _).drew | exact Touch.refl _ _)).mono ?_; rintro e w4 ⟨rfl, hb4⟩))
                        have ht4 : Touch [] wr w4 := (Touch.refl [] wr).drew.trans (Touch.of_below hb4 [])
                        have HB4 := Aa (HB.out.touch HNE0.out ht4 (by simp))
                        have HW4 := Aa (HW.out.touch ht4 (by simp))
                        have cl3 := (HB4.out.lb 3 _ rfl).1
                        have hsz4 : b1 ≤ w4.heap.size := HB4.out.size
                        clear hb4 ht4 HB HW HPC hCM c3 hc cs0 cs1
                        go_wp2_with (at_builtin; refine wpList_append_own _ rfl (.tmp 120) (.tmp 122) 23 rfl b1 9 it (.string ByteArray.empty) 1 16 Tryz.underlying23 hit htz0 htz1 htz2 rfl (by decide) _ _ _ rfl (HW4.out.sl.alloc _) ⟨w4.heap.size, 0, none⟩ 1 1 [(.string ⟨#[]⟩)] rfl rfl ?c1 ?c2 ?c3 ?c4 ?c5 ?_)
                        case c1 => exact Fb w4 _ _
                        case c2 => exact El rfl
                        case c3 => unfold maxLen; omega
                        case c4 => omega
                        case c5 => simp; omega
                        intro v6 w6 hown6 hg6 _
                        obtain ⟨ua, uc, rfl, _⟩ := AE hown6
                        obtain ⟨⟨s1, z1⟩, hb7, hw7⟩ := Qj (x := []) (HB4.out.touch HNE0.out ((Touch.refl [] _).alloc _) (by simp)) HNE0.out (HW4.out.touch ((Touch.refl [] _).alloc _) (by simp)) hg6 (by rw [hpl]; exact hown6)
                        have cl5 := (hb7.lb 5 _ rfl).1
                        rw [World.cell?_setCell_other _ _ _ _ (by simp)] at cl5
                        have hsz6 : b1 ≤ w6.heap.size := by simpa using hb7.size
                        have HB7 := Aa hb7
                        have HW7 := Aa hw7
                        clear hb7 hw7 hown6 hg6 HB4 HW4 cl3
                        go_wp2_with (at_builtin; refine wpList_append_own _ rfl (.tmp 127) (.tmp 129) 32 rfl b1 4 ib (.bool false) 1 1 Tryz.underlying32 hib hbz0 hbz1 hbz2 rfl (by decide) _ _ _ rfl (HW7.out.pr.alloc _) ⟨w6.heap.size, 0, none⟩ 1 1 [.bool false] rfl rfl ?d1 ?d2 ?d3 ?d4 ?d5 ?_)
                        case d1 =>
                          have := Fb (w6.setCell ⟨LB, 3, none⟩ (.slice ua (hln + 1) uc)) (.bool false) 4
                          simpa using this
                        case d2 => exact El rfl
                        case d3 => unfold maxLen; omega
                        case d4 => omega
                        case d5 => simp; omega
                        intro v8 w8 hown8 hg8 _
                        obtain ⟨xa8, xc8, rfl, _⟩ := AE hown8
                        obtain ⟨⟨s2, z2⟩, hb9, hw9⟩ := PJ (x := false) (HB7.out.touch HNE0.out ((Touch.refl [] _).alloc _) (by simp)) HNE0.out (HW7.out.touch ((Touch.refl [] _).alloc _) (by simp)) hg8 (by rw [hfl']; exact hown8)
                        have s6 := (hb9.lb 6 _ rfl).1
                        have z6 := (hb9.lb 6 _ rfl).2
                        rw [World.cell?_setCell_other _ _ _ _ (by simp)] at s6
                        rw [World.frozen?_setCell] at z6
                        have HB9 : Hid (LBase w ((w8.setCell ⟨LB, 5, none⟩ (.slice xa8 (hln + 1) xc8)).setCell ⟨LB, 6, none⟩ (.int .i64 ((lo : Int) + 1))) rb SB LB b1 s (.slice (some ⟨bb, off, none⟩) s.files.length fc) (.slice xa 20 xc) svs [.int .i64 (s.size : Int), .slice (some ⟨bb, off, none⟩) s.files.length fc, .slice xa 20 xc, .slice ua (hln + 1) uc, .slice va (i + 1) vc, .slice xa8 (hln + 1) xc8, .int .i64 (EY fs s.size (AF (s.files.take i) ++ d.slices.take (k + 1)) : Int), .int .i64 0]) := Aa (by
                          have hlo3 : EY fs s.size (hs ++ [h]) = lo + 1 := by rw [HLO.out]; rfl
                          rw [HSN.out, hlo3]
                          exact hb9.set HNE0.out 6 _)
                        have HW9 : Hid (LNew ((w8.setCell ⟨LB, 5, none⟩ (.slice xa8 (hln + 1) xc8)).setCell ⟨LB, 6, none⟩ (.int .i64 ((lo : Int) + 1))) b1 (.slice ua (hln + 1) uc) (.slice va (i + 1) vc) (.slice xa8 (hln + 1) xc8) (CI fs s.size (AF (s.files.take i) ++ d.slices.take (k + 1))) ((s.files.take (i + 1)).map (BU fs)) (CW fs s.size (AF (s.files.take i) ++ d.slices.take (k + 1)))) := Aa (by
                          rw [HSN.out, HPS.out, HFL.out]
                          exact hw9.set ne3 6 _)
                        have wlo : IntKind.i64.wrap ((lo : Int) + 1) = (lo : Int) + 1 := by rw [IntKind.wrap_i64]; omega
                        clear hb9 hw9 hown8 hg8 HB7 HW7 cl5 s1 z1
                        go_wp2_with fail
                        exact ⟨⟨k + 1, _, _, by omega, by go_num, HB9, HW9⟩, by simp [intOf]; omega⟩
                    · obtain rfl : d.slices.length = k := by omega
                      have h1 := HB.out
                      have h2 := HW.out
                      rw [List.take_length] at h1 h2
                      have HB1 : Hid (LBase w wr rb SB LB b1 s (.slice (some ⟨bb, off, none⟩) s.files.length fc) (.slice xa 20 xc) svs [.int .i64 (s.size : Int), .slice (some ⟨bb, off, none⟩) s.files.length fc, .slice xa 20 xc, slv, .slice va (i + 1) vc, prv, .int .i64 (EY fs s.size (AF (s.files.take (i + 1))) : Int), .int .i64 0]) := Aa (by rw [HTK.out, Ee]; exact h1)
                      have HW1 : Hid (LNew wr b1 slv (.slice va (i + 1) vc) prv (CI fs s.size (AF (s.files.take (i + 1)))) ((s.files.take (i + 1)).map (BU fs)) (CW fs s.size (AF (s.files.take (i + 1))))) := Aa (by rw [HTK.out, Ee, ← HTK.out]; exact h2)
                      clear h1 h2 HB HW hrd hdi
                      go_wp2_with fail
                      exact ⟨⟨i + 1, slv, _, prv, by omega, by go_num, HB1, HW1⟩, by simp [intOf]; omega⟩
                · obtain rfl : s.files.length = i := by omega
                  have cs1 := (HB.out.sb 1 _ rfl).1
                  have h1 := HB.out
                  have h2 := HW.out
                  rw [List.take_length] at h1 h2
                  obtain ⟨lo, hlo⟩ : ∃ x, x = EY fs s.size (AF s.files) := ⟨_, rfl⟩
                  rw [← hlo] at h1
                  have HLO := Aa hlo
                  have HB1 : Hid (LBase w wr rb SB LB b1 s (.slice fa s.files.length fc) (.slice xa 20 xc) svs [.int .i64 (s.size : Int), .slice fa s.files.length fc, .slice xa 20 xc, slv, stv, prv, .int .i64 (lo : Int), .int .i64 (exN (s.extra.take 0) : Int)]) := Aa h1
                  have HW1 := Aa h2
                  clear h1 h2 HB HW hlo
                  go_wp2_with fail
                  go_loopw [17] (fun jj W => ∃ j : Nat, j ≤ 20 ∧ jj = .int .i64 (j : Int) ∧
                      Hid (LBase w W rb SB LB b1 s (.slice fa s.files.length fc) (.slice xa 20 xc) svs [.int .i64 (s.size : Int), .slice fa s.files.length fc, .slice xa 20 xc, slv, stv, prv, .int .i64 (lo : Int), .int .i64 (exN (s.extra.take j) : Int)]) ∧
                      Hid (LNew W b1 slv stv prv (CI fs s.size (AF s.files)) (s.files.map (BU fs)) (CW fs s.size (AF s.files))))
                    (fun jj _ => 20 - (intOf jj).toNat)
                  case atStart => exact ⟨0, by omega, rfl, HB1, HW1⟩
                  case round =>
                    clear HB1 HW1 hlt hi
                    obtain ⟨j, hj, rfl, HB, HW⟩ := hrel
                    have cs2 := (HB.out.sb 2 _ rfl).1
                    by_cases hjl : j < 20
                    · obtain ⟨xa', xc', ee, hrd⟩ := AE HB.out.old.ex
                      simp only [Value.slice.injEq] at ee
                      obtain ⟨rfl, -, -⟩ := ee
                      have hje : j < s.extra.length := by omega
                      obtain ⟨xb, xo, rfl, hc⟩ := hrd j (.string (str s.extra[j])) (by simp [AM, hje])
                      have htk : s.extra.take (j + 1) = s.extra.take j ++ [s.extra[j]] := by rw [List.take_add_one, List.getElem?_eq_getElem hje]; rfl
                      obtain ⟨e, he⟩ : ∃ e, e = s.extra[j] := ⟨_, rfl⟩
                      rw [← he] at hc htk
                      have hex := Rb (s.extra.take j) e
                      rw [← htk] at hex
                      obtain ⟨x, hx⟩ : ∃ x, x = exN (s.extra.take j) := ⟨_, rfl⟩
                      have hxl := Pk (s.extra.take j)
                      rw [List.length_take] at hxl
                      rw [← hx] at HB hex hxl
                      clear hrd he htk hx
                      by_cases q : e = []
                      · rw [if_pos q, Nat.add_zero] at hex
                        have et : (str e).toList.isEmpty = true := by rw [Au, q]; rfl
                        have HEX := Aa hex
                        clear q hex
                        go_wp2_with fail
                        exact ⟨⟨j + 1, by omega, by go_num, Aa (by rw [HEX.out]; exact HB.out), HW⟩, by simp [intOf]; omega⟩
                      · rw [if_neg q] at hex
                        have et : (str e).toList.isEmpty = false := by rw [Au, List.isEmpty_eq_false_iff]; exact q
                        have HEX := Aa hex
                        have s7 := (HB.out.lb 7 _ rfl).1
                        have z7 := (HB.out.lb 7 _ rfl).2
                        have wx : IntKind.i64.wrap ((x : Int) + 1) = (x : Int) + 1 := by rw [IntKind.wrap_i64]; omega
                        have HB2 : Hid (LBase w (wr.setCell ⟨LB, 7, none⟩ (.int .i64 ((x : Int) + 1))) rb SB LB b1 s (.slice fa s.files.length fc) (.slice (some ⟨xb, xo, none⟩) 20 xc) svs [.int .i64 (s.size : Int), .slice fa s.files.length fc, .slice (some ⟨xb, xo, none⟩) 20 xc, slv, stv, prv, .int .i64 (lo : Int), .int .i64 (exN (s.extra.take (j + 1)) : Int)]) := Aa (by
                          rw [HEX.out]
                          exact HB.out.set HNE0.out 7 _)
                        have HW2 := Aa (HW.out.set ne3 7 (.int .i64 ((x : Int) + 1)))
                        clear q hex HB HW
                        go_wp2_with fail
                        exact ⟨⟨j + 1, by omega, by go_num, HB2, HW2⟩, by simp [intOf]; omega⟩
                    · obtain rfl : 20 = j := by omega
                      have h1 := HB.out
                      rw [List.take_of_length_le (by omega : s.extra.length ≤ 20)] at h1
                      obtain ⟨sla, slc, rfl, _⟩ := AE HW.out.sl
                      obtain ⟨sta, stc, rfl, _⟩ := AE HW.out.st
                      obtain ⟨pra, prc, rfl, _⟩ := AE HW.out.pr
                      obtain ⟨n1, hn1⟩ : ∃ x, x = (CI fs s.size (AF s.files)).length := ⟨_, rfl⟩
                      obtain ⟨n2, hn2⟩ : ∃ x, x = (s.files.map (BU fs)).length := ⟨_, rfl⟩
                      obtain ⟨n3, hn3⟩ : ∃ x, x = (CW fs s.size (AF s.files)).length := ⟨_, rfl⟩
                      have h2 := HW.out
                      rw [← hn1, ← hn2, ← hn3] at h1 h2
                      obtain ⟨x, hx⟩ : ∃ x, x = exN s.extra := ⟨_, rfl⟩
                      rw [← hx] at h1
                      have l0 := (h1.lb 0 _ rfl).1
                      have l1 := (h1.lb 1 _ rfl).1
                      have l2 := (h1.lb 2 _ rfl).1
                      have l3 := (h1.lb 3 _ rfl).1
                      have l4 := (h1.lb 4 _ rfl).1
                      have l5 := (h1.lb 5 _ rfl).1
                      have l6 := (h1.lb 6 _ rfl).1
                      have l7 := (h1.lb 7 _ rfl).1
                      have q0 := (h1.res.1 0 _ rfl).1
                      have q1 := (h1.res.1 1 _ rfl).1
                      have q2 := (h1.res.1 2 _ rfl).1
                      have q3 := (h1.res.1 3 _ rfl).1
                      have q4 := (h1.res.1 4 _ rfl).1
                      have q5 := (h1.res.1 5 _ rfl).1
                      have q6 := (h1.res.1 6 _ rfl).1
                      have q7 := (h1.res.1 7 _ rfl).1
                      have z0 := (h1.res.1 0 _ rfl).2
                      have z1 := (h1.res.1 1 _ rfl).2
                      have z2 := (h1.res.1 2 _ rfl).2
                      have z3 := (h1.res.1 3 _ rfl).2
                      have z4 := (h1.res.1 4 _ rfl).2
                      have z5 := (h1.res.1 5 _ rfl).2
                      have z6 := (h1.res.1 6 _ rfl).2
                      have z7 := (h1.res.1 7 _ rfl).2
                      have H1 := Aa h1
                      have H2 := Aa h2
                      have HN1 := Aa hn1
                      have HN2 := Aa hn2
                      have HN3 := Aa hn3
                      have HX := Aa hx
                      clear h1 h2 HB HW hn1 hn2 hn3 hx
                      go_wp2_with fail
                      refine bodyPost_ret (v := .tuple #[.agg #[.int .i64 (s.size : Int), .slice fa s.files.length fc, .slice xa 20 xc, .slice sla n1 slc, .slice sta n2 stc, .slice pra n3 prc, .int .i64 (lo : Int), .int .i64 (x : Int)], .int .i64 0]) (by simp [results, Tryz.results14, go_sem, q0, q1, q2, q3, q4, q5, q6, q7]) rfl ?_
                      unfold Fh
                      rw [HR1.out]
                      have t1 : Touch [w.heap.size] wr ((((((((wr.setCell ⟨w.heap.size, 0, none⟩ (.int .i64 (s.size : Int))).setCell ⟨w.heap.size, 1, none⟩ (.slice fa s.files.length fc)).setCell ⟨w.heap.size, 2, none⟩ (.slice xa 20 xc)).setCell ⟨w.heap.size, 3, none⟩ (.slice sla n1 slc)).setCell ⟨w.heap.size, 4, none⟩ (.slice sta n2 stc)).setCell ⟨w.heap.size, 5, none⟩ (.slice pra n3 prc)).setCell ⟨w.heap.size, 6, none⟩ (.int .i64 (lo : Int))).setCell ⟨w.heap.size, 7, none⟩ (.int .i64 (x : Int))) :=
                        ((((((((Touch.refl _ _).setCell (by simp) _).setCell (by simp) _).setCell (by simp) _).setCell (by simp) _).setCell (by simp) _).setCell (by simp) _).setCell (by simp) _).setCell (by simp) _
                      have hb1w : w.heap.size + 1 ≤ b1 := by omega
                      have hx20 := H1.out.old.ex
                      rw [hs20] at hx20
                      refine ⟨Hw H1.out.res.2 _ _ _ _ _ _ _ _, _, rfl, .slice fa s.files.length fc, .slice xa 20 xc, svs, .slice sla n1 slc, .slice sta n2 stc, .slice pra n3 prc, ?_, ?_, ?_, ?_, ?_, ?_, ?_⟩
                      · unfold Ct
                        rw [HLO.out, HX.out]
                      · exact Ad hrb1 (Ac H1.out.old.files t1 (by simp; omega))
                      · exact ⟨H1.out.old.rows.1, fun k d v k1 k2 => Ad hrb1 ((H1.out.old.rows.touch t1 (by simp; omega)).2 k d v k1 k2)⟩
                      · unfold Ct
                        simp only
                        rw [hs20]
                        exact Ad hrb1 (Ac hx20 t1 (by simp; omega))
                      · unfold Ct
                        simp only
                        rw [← HN1.out]
                        exact Ad hb1w (Ac (by have := H2.out.sl; rwa [← HN1.out] at this) t1 (by simp; omega))
                      · unfold Ct
                        simp only
                        rw [← HN2.out]
                        exact Ad hb1w (Ac (by have := H2.out.st; rwa [← HN2.out] at this) t1 (by simp; omega))
                      · unfold Ct
                        simp only
                        rw [← HN3.out]
                        exact Ad hb1w (Ac (by have := H2.out.pr; rwa [← HN3.out] at this) t1 (by simp; omega))
theorem Hd (fs : List Ak) (vs : List (List UInt8)) (a b : Option Addr) (ca cb : Nat) (hn : fs.length ≤ 4398046511104) (hv : vs.length ≤ 8796093022208) (w : World) (hfa : Rd w a (As fs)) (hvb : Rd w b (AM vs)) :
    Calls Tryz.prog 14 #[.slice a fs.length ca, .slice b vs.length cb] w fun e w' => Fh (AH fs vs) w e w' := by
  by_cases c : fs.length ≤ 12 ∧ vs.length ≤ 40
  · exact LL fs vs a b ca cb c.1 c.2 w hfa hvb
  · refine (Mw fs vs a b ca cb hn hv (by omega) w).mono ?_
    rintro e w' ⟨rfl, hb⟩
    have h0 : DZ fs vs = false := by
      unfold DZ
      by_cases c1 : fs.length ≤ 12
      · rw [decide_eq_false (by omega : ¬ vs.length ≤ 40), Bool.and_false]
        rfl
      · rw [decide_eq_false c1]
        rfl
    unfold Fh AH
    rw [h0]
    exact ⟨hb, rfl⟩
end Go.Proofs.YtonjphollmdicaaGreatDoor
