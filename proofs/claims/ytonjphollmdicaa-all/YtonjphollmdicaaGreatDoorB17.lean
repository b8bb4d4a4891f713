import Derived.Test.YtonjphollmdicaaGreatDoorB01
import Derived.Test.YtonjphollmdicaaGreatDoorB03
import Derived.Test.YtonjphollmdicaaGreatDoorB05
import Derived.Test.YtonjphollmdicaaGreatDoorB09
import Derived.Test.YtonjphollmdicaaGreatDoorB16
set_option maxRecDepth 100000
set_option maxHeartbeats 4000000
set_option linter.unusedSimpArgs false
namespace Go.Proofs.YtonjphollmdicaaGreatDoor
open Go.ChangeShapes Go.WideShapes Go.ChangeAt Go.RowKit
theorem Ox (fs : List Ak) (b x : Int) (a : Option Addr) (cap : Nat) (w : World) (hh : Handed w fs a cap) :
  Calls Tryz.prog 37 #[.slice a fs.length cap, .int .i64 b, .int .i64 x] w fun e w' => ∃ al cl, e = .returned (.tuple #[.slice al (IY fs b x).1.length cl, .int .i64 (IY fs b x).2]) ∧ w'.ownsRow w.heap.size 9 1 (.slice al (IY fs b x).1.length cl) (IY fs b x).1.length (AM (IY fs b x).1) ∧ Below w.heap.size w w' := by
 unfold IY
 by_cases h1 : Fg b x = true
 ·rw [if_pos h1]
  refine (OJ fs b x a cap h1 w).mono ?_
  rintro e w' ⟨rfl, hb⟩
  exact ⟨none, 0, rfl, World.ownsRow_nil _ _ _ _, hb⟩
 ·rw [if_neg h1]
  obtain ⟨size, extra, hb, hx, h0, h32, hev, hex, hss⟩ := Hr (by simpa using h1)
  have e1 : b.toNat = size := by omega
  have e2 : x.toNat = extra := by omega
  rw [e1, e2]
  by_cases h2 : CO fs size = true
  ·rw [if_pos h2]
   refine (Lw fs b x size extra a cap hb hx h0 h32 hev hex hss h2 w hh).mono ?_
   rintro e w' ⟨v, rfl, hown, hbl⟩
   obtain ⟨al, cl, rfl, _, _, _⟩ := Aw hown
   exact ⟨al, cl, by rw [Da], by rw [Da]; exact hown, hbl⟩
  ·rw [if_neg h2]
   refine (Mj fs b x size extra a cap hb hx h0 h32 hex hss (by simpa using h2) w hh).mono ?_
   rintro e w' ⟨rfl, hbl⟩
   exact ⟨none, 0, rfl, World.ownsRow_nil _ _ _ _, hbl⟩
theorem Mx {base B : Nat} {rs : Nat → Value} {T : Nat → List Value} {M : Nat → List Int} (a b : Nat) (fs : List Ak) (bx ex : Int) (sa : Option Addr) (sc : Nat) (u6 u7 u8 : Value) (ha : sa = none → sc = 0) (hn : fs.length + 8 ≤ 4398046511104) (w : World) (hbk : BookI w base B (· < w.heap.size) rs T M) (hMs : ∀ j, j < 4 → (M j).length + 4 ≤ 4398046511104) (hh : Handed w fs sa sc) :
  Calls Tryz.prog 34 #[.pointer (some ⟨B, 0, none⟩), .agg #[.int .i64 2, .int .u16 (a : Int), .int .u16 (b : Int), .slice sa fs.length sc, .int .i64 bx, .int .i64 ex, u6, u7, u8]] w (Es w base B M) := by
 have HH := Aa hh
 have HL := Aa (fun W (hW : Below w.heap.size w W) => Ep fs sa sc ha hn W (hh.rd.later (Nat.le_refl _) hW))
 have hC := fun W a' c' (hW : Handed W fs a' c') => Ox fs bx ex a' c' W hW
 have hR := fun W a' c' (hW : Handed W fs a' c') => Ih fs bx ex a' c' W hW
 have hlen := Nv fs bx ex
 have HW := Aa (fun v W (h1 : Below w.heap.size w W) (h2 : Lent W w.heap.size v fs) => D7 fs sa sc v w W hn hh.short hh.rd h1 h2)
 have HLH : Hid (∀ W base v, Lent W base v fs → ∃ a c, v = .slice a fs.length c ∧ Handed W fs a c) := Aa (fun W base v h => h.handed hh.short)
 have HBK := Aa (fun W (hW : Below w.heap.size w W) => hbk.later (fun _ hk => hk) hW)
 have hbs := hbk.bas
 have hM0 := hMs 0 (by omega)
 have HLK := Aa (fun W (hW : Below w.heap.size w W) => Du (hbk.later (fun _ hk => hk) hW) (fun j hj => by have := hMs j hj; omega))
 obtain ⟨L, hLe⟩ : ∃ y, y = (IY fs bx ex).1 := ⟨_, rfl⟩
 obtain ⟨er, her⟩ : ∃ y, y = (IY fs bx ex).2 := ⟨_, rfl⟩
 rw [← hLe, ← her] at hC hR
 rw [← hLe] at hlen
 obtain ⟨nL, hnL⟩ : ∃ y, y = L.length := ⟨_, rfl⟩
 have HNL := Aa hnL
 rw [← hnL] at hC hR hlen
 have HC := Aa hC
 have HR := Aa hR
 obtain ⟨n, hN⟩ : ∃ n, n = fs.length := ⟨_, rfl⟩
 rw [← hN] at HL HC HR HW HLH ⊢
 clear hC hR hLe her hh hn ha hbk hMs hN hnL
 go_enter Tryz.func34, Tryz.ntmps34
 go_wp2_with fail
 obtain ⟨w1, hw1⟩ : ∃ X, X = w.alloc (.cells #[.int .i64 2, .int .u16 (a : Int), .int .u16 (b : Int), .slice sa n sc, .int .i64 bx, .int .i64 ex, u6, u7, u8] 82) := ⟨_, rfl⟩
 rw [← hw1]
 have hb1 : Below w.heap.size w w1 := by rw [hw1]; exact (Below.refl _ _).alloc (Nat.le_refl _) _
 have hp1 : Blk w1 w.heap.size [.int .i64 2, .int .u16 (a : Int), .int .u16 (b : Int), .slice sa n sc, .int .i64 bx, .int .i64 ex, u6, u7, u8] := by rw [hw1]; exact Blk.new w _ _
 have A1 := Aa hb1
 have P1 := Aa hp1
 clear hb1 hp1 hw1
 refine (HL.out w1 A1.out).mono ?_
 rintro e w2 ⟨v2, rfl, hl2, hb2⟩
 have hsz1 := A1.out.size
 obtain ⟨ag, cg, rfl, hh2⟩ := HLH.out w2 _ _ hl2
 have B1 := Aa (Below.next A1.out hb2)
 have B2 := Aa (hl2.base hsz1)
 have B3 := Aa hh2
 have P2 := Aa (P1.out.touch (Touch.of_below hb2 []) (by simp))
 have hgl : ∀ k, (Value.slice ag n cg).ownBlock = some k → w.heap.size ≤ k ∧ k < w2.heap.size := fun k hk => by
  obtain ⟨gg, c, e, _, ho⟩ := hl2
  have := ho.lt k (by rw [e] at hk; exact hk)
  omega
 have GL := Aa hgl
 clear hgl
 have p4 := (P2.out 4 _ rfl).1
 have p5 := (P2.out 5 _ rfl).1
 clear hl2 hb2 hh2 A1 P1
 go_wp2_with fail
 refine (HC.out w2 ag cg B3.out).mono ?_
 rintro e w3 ⟨al, cl, rfl, hr3, hb3⟩
 have C1 := Aa (Below.next B1.out hb3)
 have C2 := Aa (B2.out.later hb3)
 have C3 := Aa hr3
 have P3 := Aa (P2.out.touch (Touch.of_below hb3 []) (by simp))
 have p3 := (P3.out 3 _ rfl).1
 have p4 := (P3.out 4 _ rfl).1
 have p5 := (P3.out 5 _ rfl).1
 have z23 : w2.heap.size ≤ w3.heap.size := hb3.size
 have z02 : w.heap.size ≤ w2.heap.size := B1.out.size
 clear hr3 hb3 B1 B2 B3 P2
 go_wp2_with fail
 refine (HR.out w3 sa sc (HH.out.later C1.out)).mono ?_
 rintro e w4 ⟨am, cm, rfl, hr4, hb4⟩
 have D1 := Aa (Below.next C1.out hb4)
 have D2 := Aa (C2.out.later hb4)
 have D3 := Aa (Ab C3.out (Nat.le_refl _) hb4)
 have D4 := Aa hr4
 have P4 := Aa (P3.out.touch (Touch.of_below hb4 []) (by simp))
 have z34 : w3.heap.size ≤ w4.heap.size := hb4.size
 clear hr4 hb4 C1 C2 C3 P3
 go_wp2_with fail
 refine (HLK.out w4 D1.out).mono ?_
 rintro e wk ⟨rfl, hbk⟩
 have D1 := Aa (Below.next D1.out hbk)
 have D2 := Aa (D2.out.later hbk)
 have D3 := Aa (Ab D3.out (Nat.le_refl _) hbk)
 have D4 := Aa (Ab D4.out (Nat.le_refl _) hbk)
 have p3 := ((P4.out.touch (Touch.of_below hbk []) (by simp)) 3 _ rfl).1
 have z4k : w4.heap.size ≤ wk.heap.size := hbk.size
 clear hbk P4
 go_wp2_with fail
 refine (HW.out _ wk D1.out D2.out).mono ?_
 rintro e w5 ⟨rfl, hg5⟩
 have t5 : Touch (Ed (.slice ag n cg)) wk w5 := Touch.of_row hg5
 have m5 : ∀ x ∈ Ed (.slice ag n cg), w.heap.size ≤ x ∧ x < w2.heap.size := fun x hx => GL.out x (blkL_mem.1 hx)
 have hb5 : Below w.heap.size w w5 := D1.out.trans (t5.below (by omega) (fun x hx => (m5 x hx).1))
 have e3 := Ac D3.out t5 (fun x hx => (m5 x hx).2)
 have e4 := Ac D4.out t5 (fun x hx => by have := (m5 x hx).2; omega)
 obtain ⟨al', cl', ee3, hr3⟩ := AE e3
 cases ee3
 obtain ⟨am', cm', ee4, hr4⟩ := AE e4
 cases ee4
 have hST := Iw L L al am cl cm (by rw [← HNL.out]; omega) (by rw [← HNL.out]; omega) w5 hr3 hr4
 rw [show (L == L) = true from by simp, ← HNL.out] at hST
 have E1 := Aa hb5
 have E2 := Aa hST
 have E3 := Aa e3
 clear hb5 hST e3 e4 hr3 hr4 hg5 t5 m5 D1 D2 D3 D4 GL
 go_wp2_with fail
 refine E2.out.mono ?_
 rintro e wA ⟨rfl, hbA⟩
 have HBWA := Aa (Below.next E1.out hbA)
 have HKT := Aa (Jg (HBK.out wA HBWA.out) al nL cl (AM L) hlen hM0 (Ad (by omega) (Ab E3.out (Nat.le_refl _) hbA)) (fun k hk => by have := (E3.out.lt k hk).1; omega))
 clear hbA E1 E2 E3
 go_wp2_with fail
 refine HKT.out.mono ?_
 rintro e wK hres
 obtain ⟨rfl, hkb, -, rs', T', M', hbook, hlen'⟩ := hres
 have HFIN : Hid (Es w base B M (.returned (.bool true)) wK) := Aa ⟨rfl, (HBWA.out.mono hbs).trans hkb, rs', T', M', hbook.mono (fun k hk => hbook.le k hk) (fun _ hk => hk), fun j => by rw [hlen']; split <;> omega⟩
 clear hkb hbook hlen' HKT HBWA
 go_wp2_with fail
 refine (EB er wK).mono ?_
 rintro e wB ⟨rfl, hwB⟩
 have hwB := hwB.symm
 subst hwB
 go_wp2_with fail
 refine (EB er wK).mono ?_
 rintro e wB ⟨rfl, hwB⟩
 have hwB := hwB.symm
 subst hwB
 go_wp2_with fail
 go_ret
 exact HFIN.out
def rdT (s : List UInt8 × Bool) (n : Nat) : List UInt8 := if n ≤ s.1.length then s.1.take n else []
def rdS (s : List UInt8 × Bool) (n : Nat) : List UInt8 × Bool := if n ≤ s.1.length then (s.1.drop n, s.2) else ([], true)
def KW (r : List UInt8) : List Nat := (List.range ((r.length + 7) / 8)).map fun i => C0 (rdT (r.drop (8 * i), false) 8)
def IZ (s : List UInt8 × Bool) : List UInt8 × Bool := ([], s.2 || decide (s.1.length % 8 ≠ 0))
theorem Dl (s : List UInt8 × Bool) (n : Nat) : (rdT s n).length ≤ n := by
 unfold rdT; split
 ·rw [List.length_take]; omega
 ·simp
theorem Cj (s : List UInt8 × Bool) (n : Nat) : (rdS s n).1.length ≤ s.1.length := by
 unfold rdS; split
 ·simp
 ·simp
theorem QJ (s : List UInt8 × Bool) (n : Nat) : (rdT s n).length ≤ s.1.length := by
 unfold rdT; split
 ·rw [List.length_take]; omega
 ·simp
theorem Bf {s : List UInt8 × Bool} (h : s.2 = true) (n : Nat) : (rdS s n).2 = true := by
 unfold rdS; split
 ·exact h
 ·rfl
theorem CM {s : List UInt8 × Bool} {n : Nat} (h : n ≤ s.1.length) : rdT s n = s.1.take n := if_pos h
theorem BL {s : List UInt8 × Bool} {n : Nat} (h : n ≤ s.1.length) : rdS s n = (s.1.drop n, s.2) := if_pos h
theorem SK {s : List UInt8 × Bool} {n : Nat} (h : s.1.length < n) : rdT s n = [] := if_neg (by omega)
theorem DC {s : List UInt8 × Bool} {n : Nat} (h : s.1.length < n) : rdS s n = ([], true) := if_neg (by omega)
theorem Rw : KW [] = [] := rfl
theorem Dp (r : List UInt8) : (KW r).length = (r.length + 7) / 8 := by simp [KW]
theorem Qo (s : List UInt8 × Bool) (h : s.1 ≠ []) : KW s.1 = C0 (rdT s 8) :: KW (rdS s 8).1 := by
 obtain ⟨r, sh⟩ := s
 have h0 : 0 < r.length := List.length_pos_iff.2 h
 unfold KW rdS
 simp only
 by_cases h8 : 8 ≤ r.length
 ·rw [if_pos h8]
  simp only [List.length_drop]
  rw [show (r.length + 7) / 8 = (r.length - 8 + 7) / 8 + 1 from by omega, List.range_succ_eq_map, List.map_cons, List.map_map]
  congr 1
  apply List.map_congr_left
  intro i _
  simp only [Function.comp, List.drop_drop]
  rw [show 8 * i.succ = 8 + 8 * i from by omega]
 ·rw [if_neg h8]
  rw [show (r.length + 7) / 8 = 1 from by omega]
  simp [List.range_succ, rdT]
theorem Qv (s : List UInt8 × Bool) (h : s.1 ≠ []) : IZ (rdS s 8) = IZ s := by
 obtain ⟨r, sh⟩ := s
 have h0 : 0 < r.length := List.length_pos_iff.2 h
 unfold IZ rdS
 simp only
 by_cases h8 : 8 ≤ r.length
 ·rw [if_pos h8]
  simp only [List.length_drop]
  rw [show (r.length - 8) % 8 = r.length % 8 from by omega]
 ·rw [if_neg h8]
  simp only [Prod.mk.injEq, true_and, Bool.true_or]
  rw [decide_eq_true (by omega : r.length % 8 ≠ 0), Bool.or_true]
theorem Gg (l : List UInt8) (k : Nat) (h : k < l.length) : (l.drop k).take 1 = [l.getD k 0] := by
 rw [List.drop_eq_getElem_cons h, List.take_succ_cons, List.take_zero]
 simp [h]
def Al (b : List UInt8) : Nat := C0 (rdT (b, false) 2)
def CR (b : List UInt8) : Nat := C0 (rdT (rdS (b, false) 2) 1)
def EU (b : List UInt8) : List UInt8 × Bool := rdS (rdS (b, false) 2) 1
def Ax (b : List UInt8) : List Nat := KW (EU b).1
def Cn (b : List UInt8) : Bool := !(IZ (EU b)).2 && Ay (Al b : Int) && decide (1 ≤ CR b) && decide (CR b ≤ 6) && decide (CR b = (Ax b).length)
theorem Ha (b : List UInt8) : Cn b = (decide (3 ≤ b.length) && (Ay ((C0 (b.take 2) : Nat) : Int) && decide (1 ≤ (b.getD 2 0).toNat) && decide ((b.getD 2 0).toNat ≤ 6) && decide (b.length = 3 + 8 * (b.getD 2 0).toNat))) := by
 by_cases h : 3 ≤ b.length
 ·have e1 : rdT (b, false) 2 = b.take 2 := CM (by simp; omega)
  have e2 : rdS (b, false) 2 = (b.drop 2, false) := BL (by simp; omega)
  have e3 : rdT (b.drop 2, false) 1 = [b.getD 2 0] := by rw [CM (by simp; omega)]; exact Gg b 2 (by omega)
  have e4 : rdS (b.drop 2, false) 1 = (b.drop 3, false) := by rw [BL (by simp; omega), List.drop_drop]
  unfold Cn Ax Al CR EU
  rw [e1, e2, e3, e4, FH, Dp, decide_eq_true h, Bool.true_and]
  unfold IZ
  simp only [List.length_drop, Bool.false_or]
  cases Ay ((C0 (b.take 2) : Nat) : Int)
  ·simp
  ·simp only [Bool.and_true, Bool.true_and]
   generalize (b.getD 2 0).toNat = x
   by_cases h2 : b.length = 3 + 8 * x
   ·rw [decide_eq_true h2, decide_eq_false (by omega : ¬ ((b.length - 3) % 8 ≠ 0)), decide_eq_true (by omega : x = (b.length - 3 + 7) / 8)]
    simp
   ·rw [decide_eq_false h2, Bool.and_false]
    by_cases h3 : (b.length - 3) % 8 = 0
    ·rw [decide_eq_false (by omega : ¬ (x = (b.length - 3 + 7) / 8)), Bool.and_false]
    ·rw [decide_eq_true (show (b.length - 3) % 8 ≠ 0 from h3)]
     simp
 ·rw [decide_eq_false h, Bool.false_and]
  have hs : (EU b).2 = true := by
   unfold EU
   by_cases h2 : 2 ≤ b.length
   ·rw [BL (s := (b, false)) (by simpa using h2), DC (by simp; omega)]
   ·exact Bf (by rw [DC (by simp; omega)]) _
  unfold Cn IZ
  rw [hs]
  simp
theorem Jy (f : FoundL) : BW f = (f.kind == 77 && Cn f.body && (AC f.body == f.set)) := by
 rw [Ha]
 unfold BW
 cases f.kind == 77 <;> cases AC f.body == f.set <;> cases Ay ((C0 (f.body.take 2) : Nat) : Int) <;> simp
theorem Eg {b : List UInt8} (h : Cn b = true) : Al b = C0 (b.take 2) ∧ Ax b = (List.range (b.getD 2 0).toNat).map (fun i => C0 ((b.drop (3 + 8 * i)).take 8)) ∧ 1 ≤ (b.getD 2 0).toNat ∧ (b.getD 2 0).toNat ≤ 6 ∧ b.length = 3 + 8 * (b.getD 2 0).toNat ∧ Ay ((Al b : Nat) : Int) = true := by
 rw [Ha] at h
 simp only [Bool.and_eq_true, decide_eq_true_eq] at h
 obtain ⟨h0, ⟨⟨h1, h2⟩, h3⟩, h4⟩ := h
 have e1 : Al b = C0 (b.take 2) := by unfold Al; rw [CM (by simp; omega)]
 refine ⟨e1, ?_, h2, h3, h4, by rw [e1]; exact h1⟩
 have e4 : EU b = (b.drop 3, false) := by
  unfold EU
  rw [BL (s := (b, false)) (by simp; omega), BL (by simp; omega), List.drop_drop]
 unfold Ax
 rw [e4]
 unfold KW
 simp only [List.length_drop]
 rw [show (b.length - 3 + 7) / 8 = (b.getD 2 0).toNat from by omega]
 apply List.map_congr_left
 intro i hi
 rw [List.mem_range] at hi
 rw [CM (by simp; omega), List.drop_drop]
def Av (b : List UInt8) : Nat := C0 (rdT (b, false) 1)
def fS1 (b : List UInt8) : List UInt8 × Bool := rdS (b, false) 1
def fN (b : List UInt8) : Nat := C0 (rdT (fS1 b) 1)
def fS2 (b : List UInt8) : List UInt8 × Bool := rdS (fS1 b) 1
def AW (b : List UInt8) : List UInt8 := rdT (fS2 b) (fN b)
def fS3 (b : List UInt8) : List UInt8 × Bool := rdS (fS2 b) (fN b)
def Bh (b : List UInt8) : Nat := C0 (rdT (fS3 b) 2)
def fS4 (b : List UInt8) : List UInt8 × Bool := rdS (fS3 b) 2
def BQ (b : List UInt8) : Nat := C0 (rdT (fS4 b) 8)
def fS5 (b : List UInt8) : List UInt8 × Bool := rdS (fS4 b) 8
def Ai (b : List UInt8) : List Nat := KW (fS5 b).1
def D9 (b : List UInt8) (size : Nat) : Bool := !(IZ (fS5 b)).2 && decide (1 ≤ (AW b).length) && decide ((AW b).length ≤ 20) && decide (Bh b ≤ 400) && decide ((Ai b).length = Aj (Bh b) size)
theorem Tf {b : List UInt8} (h : 2 ≤ b.length) (h2 : 12 + Bp b ≤ b.length) : Av b = (b.getD 0 0).toNat ∧ fN b = Bp b ∧ AW b = (b.drop 2).take (Bp b) ∧ Bh b = BA b ∧ BQ b = EG b ∧ fS5 b = (b.drop (12 + Bp b), false) := by
 have a1 : fS1 b = (b.drop 1, false) := BL (by simp; omega)
 have a2 : Av b = (b.getD 0 0).toNat := by
  unfold Av
  rw [CM (by simp; omega)]
  have := Gg b 0 (by omega)
  rw [List.drop_zero] at this
  rw [this, FH]
 have a3 : fN b = Bp b := by
  unfold fN
  rw [a1, CM (by simp; omega), Gg b 1 (by omega), FH]
  rfl
 have a4 : fS2 b = (b.drop 2, false) := by unfold fS2; rw [a1, BL (by simp; omega), List.drop_drop]
 have a5 : AW b = (b.drop 2).take (Bp b) := by unfold AW; rw [a4, a3, CM (by simp; omega)]
 have a6 : fS3 b = (b.drop (2 + Bp b), false) := by unfold fS3; rw [a4, a3, BL (by simp; omega), List.drop_drop]
 have a7 : Bh b = BA b := by unfold Bh BA; rw [a6, CM (by simp; omega)]
 have a8 : fS4 b = (b.drop (4 + Bp b), false) := by unfold fS4; rw [a6, BL (by simp; omega), List.drop_drop, show 2 + Bp b + 2 = 4 + Bp b from by omega]
 have a9 : BQ b = EG b := by unfold BQ EG; rw [a8, CM (by simp; omega)]
 have a10 : fS5 b = (b.drop (12 + Bp b), false) := by unfold fS5; rw [a8, BL (by simp; omega), List.drop_drop, show 4 + Bp b + 8 = 12 + Bp b from by omega]
 exact ⟨a2, a3, a5, a7, a9, a10⟩
theorem Pu {b : List UInt8} (h : b.length < 2 ∨ b.length < 12 + Bp b) : (fS5 b).2 = true := by
 unfold fS5 fS4 fS3 fS2
 by_cases c1 : 1 ≤ b.length
 ·have a1 : fS1 b = (b.drop 1, false) := BL (by simpa using c1)
  by_cases c2 : 2 ≤ b.length
  ·have a3 : fN b = Bp b := by
    unfold fN
    rw [a1, CM (by simp; omega), Gg b 1 (by omega), FH]
    rfl
   rw [a1, a3, BL (s := (b.drop 1, false)) (n := 1) (by simp; omega), List.drop_drop]
   by_cases c3 : 2 + Bp b ≤ b.length
   ·rw [BL (n := Bp b) (by simp; omega), List.drop_drop]
    by_cases c4 : 4 + Bp b ≤ b.length
    ·rw [BL (n := 2) (by simp; omega), List.drop_drop, DC (by simp; omega)]
    ·exact Bf (by rw [DC (by simp; omega)]) _
   ·exact Bf (Bf (by rw [DC (by simp; omega)]) _) _
  ·exact Bf (Bf (Bf (by rw [a1, DC (by simp; omega)]) _) _) _
 ·exact Bf (Bf (Bf (Bf (by unfold fS1; rw [DC (show b.length < 1 by omega)]) _) _) _) _
theorem La (b : List UInt8) (size : Nat) : D9 b size = Dj b size := by
 by_cases h : 2 ≤ b.length ∧ 12 + Bp b ≤ b.length
 ·obtain ⟨h1, h2⟩ := h
  obtain ⟨_, _, a3, a4, _, a6⟩ := Tf h1 h2
  unfold D9 Dj Ai
  rw [a3, a4, a6, Dp, decide_eq_true h1, decide_eq_true h2]
  have e : ((b.drop 2).take (Bp b)).length = Bp b := by rw [List.length_take, List.length_drop]; omega
  rw [e]
  unfold IZ
  simp only [List.length_drop, Bool.false_or, Bool.true_and, Bool.and_true]
  generalize Aj (BA b) size = k
  generalize Bp b = n at *
  by_cases c : b.length = 12 + n + 8 * k
  ·rw [decide_eq_true c, decide_eq_false (by omega : ¬ ((b.length - (12 + n)) % 8 ≠ 0)), decide_eq_true (by omega : (b.length - (12 + n) + 7) / 8 = k)]
   simp
  ·rw [decide_eq_false c, Bool.and_false]
   by_cases h3 : (b.length - (12 + n)) % 8 = 0
   ·rw [decide_eq_false (by omega : ¬ ((b.length - (12 + n) + 7) / 8 = k)), Bool.and_false]
   ·rw [decide_eq_true (show (b.length - (12 + n)) % 8 ≠ 0 from h3)]
    simp
 ·have hs := Pu (b := b) (by omega)
  unfold D9 IZ Dj
  rw [hs]
  by_cases h1 : 2 ≤ b.length
  ·rw [decide_eq_false (by omega : ¬ 12 + Bp b ≤ b.length)]; simp
  ·rw [decide_eq_false h1]; simp
theorem Kf {b : List UInt8} {size : Nat} (h : Dj b size = true) : Hh b size = ⟨AW b, Bh b, BQ b, Ai b⟩ ∧ Av b = (b.getD 0 0).toNat := by
 unfold Dj at h
 simp only [Bool.and_eq_true, decide_eq_true_eq] at h
 obtain ⟨⟨⟨⟨⟨h1, _⟩, _⟩, h2⟩, _⟩, h3⟩ := h
 obtain ⟨a1, _, a3, a4, a5, a6⟩ := Tf h1 h2
 refine ⟨?_, a1⟩
 unfold Hh Ai
 rw [a3, a4, a5, a6]
 unfold KW
 simp only [List.length_drop]
 rw [show (b.length - (12 + Bp b) + 7) / 8 = Aj (BA b) size from by omega]
 congr 1
 apply List.map_congr_left
 intro i hi
 rw [List.mem_range] at hi
 unfold Is
 rw [CM (by simp; omega), List.drop_drop]
def AY (b : List UInt8) : Nat := C0 (rdT (b, false) 2)
def eS1 (b : List UInt8) : List UInt8 × Bool := rdS (b, false) 2
def Ce (b : List UInt8) (size : Nat) : List UInt8 := rdT (eS1 b) size
def eS2 (b : List UInt8) (size : Nat) : List UInt8 × Bool := rdS (eS1 b) size
def FP (b : List UInt8) (size : Nat) : Bool := !(eS2 b size).2 && decide ((eS2 b size).1 = []) && decide (AY b < 20)
theorem LQ (b : List UInt8) (size : Nat) : FP b size = (decide (b.length = 2 + size) && decide (C0 (b.take 2) < 20)) := by
 unfold FP eS2 eS1 AY
 by_cases h2 : 2 ≤ b.length
 ·rw [BL (s := (b, false)) (by simpa using h2), CM (s := (b, false)) (by simpa using h2)]
  by_cases h3 : 2 + size ≤ b.length
  ·rw [BL (by simp; omega)]
   simp only [List.drop_drop, Bool.not_false, Bool.true_and, List.drop_eq_nil_iff]
   congr 1
   by_cases c : b.length = 2 + size
   ·rw [decide_eq_true c, decide_eq_true (by omega)]
   ·rw [decide_eq_false c, decide_eq_false (by omega)]
  ·rw [DC (by simp; omega), decide_eq_false (by omega : ¬ b.length = 2 + size)]
   simp
 ·rw [decide_eq_false (by omega : ¬ b.length = 2 + size), Bf (by rw [DC (by simp; omega)])]
  simp
theorem Kk {b : List UInt8} {size : Nat} (h : b.length = 2 + size) : AY b = C0 (b.take 2) ∧ Ce b size = b.drop 2 := by
 unfold AY Ce eS1
 rw [CM (s := (b, false)) (by simp; omega), BL (s := (b, false)) (by simp; omega), CM (by simp; omega)]
 refine ⟨rfl, ?_⟩
 simp only
 rw [List.take_of_length_le (by simp; omega)]
def oS1 (t : List UInt8) : List UInt8 × Bool := rdS (t, false) 3
def Ft (t : List UInt8) : Nat := C0 (rdT (oS1 t) 1)
def oS2 (t : List UInt8) : List UInt8 × Bool := rdS (oS1 t) 1
def Ny (t : List UInt8) : Nat := C0 (rdT (oS2 t) 8)
def oS3 (t : List UInt8) : List UInt8 × Bool := rdS (oS2 t) 8
def NI (t : List UInt8) : Nat := C0 (rdT (oS3 t) 2)
def oS4 (t : List UInt8) : List UInt8 × Bool := rdS (oS3 t) 2
def GS (t : List UInt8) : List UInt8 := rdT (oS4 t) (NI t)
def oS5 (t : List UInt8) : List UInt8 × Bool := rdS (oS4 t) (NI t)
def CS (t : List UInt8) : List UInt8 := t.take (t.length - (oS5 t).1.length)
def NN (t : List UInt8) : Nat := C0 (rdT (oS5 t) 8)
def oS6 (t : List UInt8) : List UInt8 × Bool := rdS (oS5 t) 8
def FM (t : List UInt8) : Bool := (rdT (t, false) 3 == [83, 65, 76]) && !(oS6 t).2 && (NN t == AC (CS t))
def Fz (s : List UInt8) : Bool := decide (22 ≤ s.length) && (s.take 3 == [83, 65, 76]) && decide (22 + Bq s ≤ s.length) && (AC (s.take (14 + Bq s)) == C0 ((s.drop (14 + Bq s)).take 8))
theorem Jw (s : List UInt8) : Cv s = (Fz s && Gu (s.getD 3 0)) := by
 unfold Cv Fz
 cases decide (22 ≤ s.length) <;> cases s.take 3 == [83, 65, 76] <;> cases Gu (s.getD 3 0) <;> simp
theorem SX {t : List UInt8} (h : 14 ≤ t.length) (h2 : 14 + Bq t ≤ t.length) : Ft t = (t.getD 3 0).toNat ∧ Ny t = C0 ((t.drop 4).take 8) ∧ NI t = Bq t ∧ GS t = (t.drop 14).take (Bq t) ∧ oS5 t = (t.drop (14 + Bq t), false) ∧ CS t = t.take (14 + Bq t) := by
 have a1 : oS1 t = (t.drop 3, false) := BL (by simp; omega)
 have a2 : Ft t = (t.getD 3 0).toNat := by unfold Ft; rw [a1, CM (by simp; omega), Gg t 3 (by omega), FH]
 have a3 : oS2 t = (t.drop 4, false) := by unfold oS2; rw [a1, BL (by simp; omega), List.drop_drop]
 have a4 : Ny t = C0 ((t.drop 4).take 8) := by unfold Ny; rw [a3, CM (by simp; omega)]
 have a5 : oS3 t = (t.drop 12, false) := by unfold oS3; rw [a3, BL (by simp; omega), List.drop_drop]
 have a6 : NI t = Bq t := by unfold NI Bq; rw [a5, CM (by simp; omega)]
 have a7 : oS4 t = (t.drop 14, false) := by unfold oS4; rw [a5, BL (by simp; omega), List.drop_drop]
 have a8 : GS t = (t.drop 14).take (Bq t) := by unfold GS; rw [a7, a6, CM (by simp; omega)]
 have a9 : oS5 t = (t.drop (14 + Bq t), false) := by unfold oS5; rw [a7, a6, BL (by simp; omega), List.drop_drop]
 refine ⟨a2, a4, a6, a8, a9, ?_⟩
 unfold CS
 rw [a9]
 simp only [List.length_drop]
 rw [show t.length - (t.length - (14 + Bq t)) = 14 + Bq t from by omega]
theorem OW {t : List UInt8} (h : t.length < 22 ∨ t.length < 22 + Bq t) : (oS6 t).2 = true := by
 by_cases h14 : 14 ≤ t.length ∧ 14 + Bq t ≤ t.length
 ·obtain ⟨_, _, _, _, a5, _⟩ := SX h14.1 h14.2
  unfold oS6
  rw [a5, DC (by simp; omega)]
 ·unfold oS6
  apply Bf
  unfold oS5
  by_cases c : 14 ≤ t.length
  ·have a1 : oS1 t = (t.drop 3, false) := BL (by simp; omega)
   have a3 : oS2 t = (t.drop 4, false) := by unfold oS2; rw [a1, BL (by simp; omega), List.drop_drop]
   have a5 : oS3 t = (t.drop 12, false) := by unfold oS3; rw [a3, BL (by simp; omega), List.drop_drop]
   have a6 : NI t = Bq t := by unfold NI Bq; rw [a5, CM (by simp; omega)]
   have a7 : oS4 t = (t.drop 14, false) := by unfold oS4; rw [a5, BL (by simp; omega), List.drop_drop]
   rw [a7, a6, DC (by simp; omega)]
  ·apply Bf
   unfold oS4
   by_cases c3 : 3 ≤ t.length
   ·have a1 : oS1 t = (t.drop 3, false) := BL (by simpa using c3)
    unfold oS3 oS2
    rw [a1]
    by_cases c4 : 4 ≤ t.length
    ·rw [BL (s := (t.drop 3, false)) (n := 1) (by simp; omega), List.drop_drop]
     by_cases c12 : 12 ≤ t.length
     ·rw [BL (n := 8) (by simp; omega), List.drop_drop, DC (by simp; omega)]
     ·exact Bf (by rw [DC (by simp; omega)]) _
    ·exact Bf (Bf (by rw [DC (by simp; omega)]) _) _
   ·unfold oS3 oS2 oS1
    exact Bf (Bf (Bf (by rw [DC (by simp; omega)]) _) _) _
theorem Il (t : List UInt8) : FM t = Fz t := by
 by_cases h : 22 ≤ t.length ∧ 22 + Bq t ≤ t.length
 ·obtain ⟨h1, h2⟩ := h
  obtain ⟨_, _, _, _, a5, a6⟩ := SX (t := t) (by omega) (by omega)
  unfold FM Fz NN oS6
  rw [a5, a6, CM (s := (t, false)) (by simp; omega), BL (by simp; omega), CM (by simp; omega), decide_eq_true h1, decide_eq_true h2]
  simp only [Bool.not_false, Bool.and_true, Bool.true_and]
  rw [BEq.comm (a := C0 _)]
 ·have hs := OW (t := t) (by omega)
  unfold FM Fz
  rw [hs]
  by_cases h1 : 22 ≤ t.length
  ·rw [decide_eq_false (by omega : ¬ 22 + Bq t ≤ t.length)]; simp
  ·rw [decide_eq_false h1]; simp
theorem Oo {t : List UInt8} (h : FM t = true) : Ft t = (Er t).kind.toNat ∧ Ny t = (Er t).set ∧ GS t = (Er t).body ∧ (CS t).length + 8 = 22 + Bq t ∧ 22 + Bq t ≤ t.length := by
 rw [Il] at h
 unfold Fz at h
 simp only [Bool.and_eq_true, decide_eq_true_eq] at h
 obtain ⟨⟨⟨h1, _⟩, h2⟩, _⟩ := h
 obtain ⟨a1, a2, _, a4, _, a6⟩ := SX (t := t) (by omega) (by omega)
 refine ⟨a1, a2, a4, ?_, h2⟩
 rw [a6, List.length_take]
 omega
structure MainL where
 size : Nat
 files : List Nat
 set : Nat
def Ag (f : FoundL) : MainL := ⟨Al f.body, Ax f.body, f.set⟩
def AZ (m : MainL) (f : FoundL) : Option Nat := if f.set = m.set ∧ D9 f.body m.size = true ∧ Av f.body < m.files.length ∧ AC f.body = m.files.getD (Av f.body) 0 then some (Av f.body) else none
def A7 (m : MainL) (f : FoundL) : Option Nat := if f.set = m.set ∧ FP f.body m.size = true then some (AY f.body) else none
def AN (g : FoundL → Option Nat) (l : List FoundL) (i : Nat) : Option FoundL := l.find? (fun f => g f == some i)
def Ba (g : FoundL → Option Nat) (l : List FoundL) (N : Nat) : List Nat := (List.range N).filter fun i => (AN g l i).isSome
theorem Hf (g : FoundL → Option Nat) (l : List FoundL) (f : FoundL) (i : Nat) : AN g (l ++ [f]) i = (AN g l i).or (if g f = some i then some f else none) := by
 unfold AN
 rw [List.find?_append, List.find?_cons, List.find?_nil]
 by_cases h : g f = some i
 ·rw [if_pos h, beq_iff_eq.2 h]
 ·rw [if_neg h, beq_eq_false_iff_ne.2 h]
theorem Fe {g : FoundL → Option Nat} {l : List FoundL} {f : FoundL} (h : ∀ i, g f = some i → (AN g l i).isSome = true) (i : Nat) : AN g (l ++ [f]) i = AN g l i := by
 rw [Hf]
 by_cases c : g f = some i
 ·have := h i c
  cases hh : AN g l i with
  | none => rw [hh] at this; simp at this
  | some x => rfl
 ·rw [if_neg c, Option.or_none]
theorem Ge {g : FoundL → Option Nat} {l : List FoundL} {f : FoundL} {j : Nat} (hf : g f = some j) (h : AN g l j = none) (i : Nat) : AN g (l ++ [f]) i = if i = j then some f else AN g l i := by
 rw [Hf, hf]
 by_cases c : i = j
 ·subst c
  rw [h, if_pos rfl, if_pos rfl]
  rfl
 ·rw [if_neg c, if_neg (fun e => c (Option.some.inj e).symm), Option.or_none]
theorem Og (N : Nat) (p q : Nat → Bool) (j : Nat) (hj : j < N) (hp : p j = false) (hq : ∀ i, q i = (decide (i = j) || p i)) : ((List.range N).filter q).length = ((List.range N).filter p).length + 1 := by
 induction N with
 | zero => omega
 | succ N ih =>
  rw [List.range_succ, List.filter_append, List.filter_append, List.length_append, List.length_append]
  by_cases c : j = N
  ·subst c
   have e : (List.range j).filter q = (List.range j).filter p := List.filter_congr (fun i hi => by
    rw [List.mem_range] at hi
    rw [hq, decide_eq_false (by omega), Bool.false_or])
   have q1 : q j = true := by rw [hq]; simp
   rw [e, List.filter_cons, q1, List.filter_cons, hp]
   simp
  ·have h1 := ih (by omega)
   have e : q N = p N := by rw [hq, decide_eq_false (by omega), Bool.false_or]
   rw [h1, List.filter_cons, List.filter_cons, e]
   cases p N <;> simp
theorem QS {g : FoundL → Option Nat} {l : List FoundL} {f : FoundL} {j N : Nat} (hf : g f = some j) (h : AN g l j = none) (hj : j < N) : (Ba g (l ++ [f]) N).length = (Ba g l N).length + 1 :=
 Og N _ _ j hj (by rw [h]; rfl) (fun i => by
  rw [Ge hf h]
  by_cases c : i = j
  ·rw [if_pos c, decide_eq_true c]; rfl
  ·rw [if_neg c, decide_eq_false c, Bool.false_or])
theorem PR {g : FoundL → Option Nat} {l : List FoundL} {f : FoundL} (h : ∀ i, g f = some i → (AN g l i).isSome = true) (N : Nat) : Ba g (l ++ [f]) N = Ba g l N :=
 List.filter_congr (fun i _ => by rw [Fe h])
def Cs (f : FoundL) : Bool := Cn f.body && (AC f.body == f.set)
theorem F0 (p q : FoundL → Bool) (l : List FoundL) : (l.filter p).find? q = l.find? (fun f => p f && q f) := by
 induction l with
 | nil => rfl
 | cons f r ih =>
  rw [List.filter_cons, List.find?_cons]
  cases hp : p f with
  | true => simp [List.find?_cons, ih]
  | false => simp
theorem Gi (l : List FoundL) : (l.filter (·.kind == 77)).find? Cs = AV l := by
 rw [F0]
 unfold AV
 congr 1
 funext f
 rw [Jy]
 unfold Cs
 rw [Bool.and_assoc]
theorem NY (m : MainL) (f : FoundL) (i : Nat) (hi : i < m.files.length) (hk : f.kind = 70) : (AZ m f = some i) ↔ (Cf m.set i (m.files.getD i 0) f = true ∧ Dj f.body m.size = true) := by
 unfold AZ Cf
 rw [La, hk]
 constructor
 ·intro h
  split at h
  ·rename_i hc
   obtain ⟨h1, h2, h3, h4⟩ := hc
   have hn := (Kf h2).2
   cases h
   refine ⟨?_, h2⟩
   have hl : 1 ≤ f.body.length := by
    unfold Dj at h2
    simp only [Bool.and_eq_true, decide_eq_true_eq] at h2
    omega
   rw [hn] at h4
   simp [h1, hl, hn, h4]
  ·cases h
 ·rintro ⟨h1, h2⟩
  simp only [Bool.and_eq_true, decide_eq_true_eq, beq_iff_eq] at h1
  obtain ⟨⟨⟨⟨_, h3⟩, _⟩, h5⟩, h6⟩ := h1
  have hn := (Kf h2).2
  rw [h5] at hn
  rw [hn, if_pos ⟨h3, h2, hi, h6⟩]
theorem GU (m : MainL) (i : Nat) (hi : i < m.files.length) (l : List FoundL) : (AN (AZ m) (l.filter (·.kind == 70)) i).map (fun f => Hh f.body m.size) = Bl l m.set i (m.files.getD i 0) m.size := by
 unfold AN
 rw [F0]
 unfold Bl
 induction l with
 | nil => rfl
 | cons f r ih =>
  rw [List.find?_cons, List.findSome?_cons]
  by_cases hk : f.kind = 70
  ·rw [hk]
   have hiff := NY m f i hi hk
   by_cases h : AZ m f = some i
   ·obtain ⟨h1, h2⟩ := hiff.1 h
    rw [h, h1]
    unfold Hn
    simp [h2]
   ·rw [beq_eq_false_iff_ne.2 h]
    simp only [Bool.and_false]
    by_cases h1 : Cf m.set i (m.files.getD i 0) f = true
    ·have h2 : Dj f.body m.size = false := by
      cases c : Dj f.body m.size
      ·rfl
      ·exact absurd (hiff.2 ⟨h1, c⟩) h
     rw [h1]
     unfold Hn
     simp only [h2]
     exact ih
    ·rw [if_neg h1]
     exact ih
  ·have h1 : Cf m.set i (m.files.getD i 0) f = false := by
    unfold Cf
    rw [beq_eq_false_iff_ne.2 hk]
    rfl
   rw [h1, beq_eq_false_iff_ne.2 hk]
   exact ih
def Cb (set b j : Nat) (f : FoundL) : Bool := f.kind == 82 && (f.set == set) && decide (f.body.length = 2 + b) && (C0 (f.body.take 2) == j)
def exL (l : List FoundL) (set b j : Nat) : Option (List UInt8) := (l.find? (Cb set b j)).map fun f => f.body.drop 2
theorem Oe (m : MainL) (f : FoundL) (j : Nat) (hj : j < 20) : (f.kind == 82 && A7 m f == some j) = Cb m.set m.size j f := by
 unfold A7 Cb
 rw [LQ]
 cases f.kind == 82
 ·rfl
 ·simp only [Bool.true_and]
  by_cases h1 : f.set = m.set
  ·by_cases h2 : f.body.length = 2 + m.size
   ·have he := (Kk h2).1
    by_cases h3 : C0 (f.body.take 2) < 20
    ·rw [if_pos ⟨h1, by simp [h2, h3]⟩, he]
     simp [h1, h2]
    ·rw [if_neg (by simp [h3])]
     have : ¬ C0 (f.body.take 2) = j := by omega
     simp [this]
   ·rw [if_neg (by simp [h2])]
    simp [h2]
  ·rw [if_neg (by simp [h1])]
   simp [h1]
theorem Gs (m : MainL) (j : Nat) (hj : j < 20) (l : List FoundL) : (AN (A7 m) (l.filter (·.kind == 82)) j).map (fun f => Ce f.body m.size) = exL l m.set m.size j := by
 unfold AN exL
 rw [F0]
 have e : (fun f : FoundL => f.kind == 82 && A7 m f == some j) = Cb m.set m.size j := funext fun f => Oe m f j hj
 rw [e]
 cases h : l.find? (Cb m.set m.size j) with
 | none => rfl
 | some f =>
  have hf := List.find?_some h
  unfold Cb at hf
  simp only [Bool.and_eq_true, decide_eq_true_eq] at hf
  simp only [Option.map_some, Option.some.injEq]
  exact (Kk hf.1.2).2
theorem OZ {m : MainL} {f : FoundL} {j : Nat} (h : A7 m f = some j) : j < 20 := by
 unfold A7 at h
 split at h
 ·rename_i hc
  cases h
  have := hc.2
  unfold FP at this
  simp only [Bool.and_eq_true, decide_eq_true_eq] at this
  exact this.2
 ·cases h
theorem Ph {m : MainL} {f : FoundL} {j : Nat} (h : AZ m f = some j) : j < m.files.length := by
 unfold AZ at h
 split at h
 ·rename_i hc
  cases h
  exact hc.2.2.1
 ·cases h
end Go.Proofs.YtonjphollmdicaaGreatDoor
