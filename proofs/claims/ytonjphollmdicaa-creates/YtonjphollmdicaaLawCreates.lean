import Derived.Test.YtonjphollmdicaaLawBegun
import Derived.Test.YtonjphollmdicaaLawSame
namespace Go.Proofs.Ytonjphollmdicaa
open Go.ChangeShapes Go.WideShapes Go.ChangeAt Go.RowKit

/-- what Create answers -/
def resL (fs : List FileL) (b x : Int) : List (List UInt8) × Int :=
  if badArg b x then ([], 1) else if goodSet fs b.toNat then (packetsL b.toNat fs x.toNat, 0) else ([], 2)

theorem packets_count (size : Nat) (fs : List FileL) (extra : Nat) : (packetsL size fs extra).length = 1 + fs.length + extra := by
  simp [packetsL, fPacketsL, rPacketsL, bodiesL]; omega

theorem resL_len (fs : List FileL) (b x : Int) : (resL fs b x).1.length ≤ 1000 := by
  unfold resL
  by_cases h1 : badArg b x = true
  · rw [if_pos h1]; simp
  · rw [if_neg h1]
    by_cases h2 : goodSet fs b.toNat = true
    · rw [if_pos h2, packets_count]
      obtain ⟨size, extra, _, hx, _, _, _, hex, _⟩ := good_arg (by simpa using h1)
      unfold goodSet at h2
      rw [Bool.and_eq_true, Bool.and_eq_true] at h2
      have := set_facts h2.1.1
      omega
    · rw [if_neg h2]; simp

theorem Create_any (fs : List FileL) (b x : Int) (a : Option Addr) (cap : Nat) (w : World) (hh : Handed w fs a cap) :
    Calls Try.prog 10 #[.slice a fs.length cap, .int .i64 b, .int .i64 x] w fun e w' => ∃ al cl, e = .returned (.tuple #[.slice al (resL fs b x).1.length cl, .int .i64 (resL fs b x).2]) ∧ w'.ownsRow w.heap.size 9 1 (.slice al (resL fs b x).1.length cl) (resL fs b x).1.length (strV (resL fs b x).1) ∧ Below w.heap.size w w' := by
  unfold resL
  by_cases h1 : badArg b x = true
  · rw [if_pos h1]
    refine (Create_arg fs b x a cap h1 w).mono ?_
    rintro e w' ⟨rfl, hb⟩
    exact ⟨none, 0, rfl, World.ownsRow_nil _ _ _ _, hb⟩
  · rw [if_neg h1]
    obtain ⟨size, extra, hb, hx, h0, h32, hev, hex, hss⟩ := good_arg (by simpa using h1)
    have e1 : b.toNat = size := by omega
    have e2 : x.toNat = extra := by omega
    rw [e1, e2]
    by_cases h2 : goodSet fs size = true
    · rw [if_pos h2]
      refine (Create_ok fs b x size extra a cap hb hx h0 h32 hev hex hss h2 w hh).mono ?_
      rintro e w' ⟨v, rfl, hown, hbl⟩
      obtain ⟨al, cl, rfl, _, _, _⟩ := ownsRow_rd hown
      exact ⟨al, cl, by rw [packets_count], by rw [packets_count]; exact hown, hbl⟩
    · rw [if_neg h2]
      refine (Create_file fs b x size extra a cap hb hx h0 h32 hex hss (by simpa using h2) w hh).mono ?_
      rintro e w' ⟨rfl, hbl⟩
      exact ⟨none, 0, rfl, World.ownsRow_nil _ _ _ _, hbl⟩

theorem rCreate_any (fs : List FileL) (b x : Int) (a : Option Addr) (cap : Nat) (w : World) (hh : Handed w fs a cap) :
    Calls Try.prog 11 #[.slice a fs.length cap, .int .i64 b, .int .i64 x] w fun e w' => ∃ al cl, e = .returned (.tuple #[.slice al (resL fs b x).1.length cl, .int .i64 (resL fs b x).2]) ∧ w'.ownsRow w.heap.size 9 1 (.slice al (resL fs b x).1.length cl) (resL fs b x).1.length (strV (resL fs b x).1) ∧ Below w.heap.size w w' := by
  unfold resL
  by_cases h1 : badArg b x = true
  · rw [if_pos h1]
    refine (rCreate_arg fs b x a cap h1 w).mono ?_
    rintro e w' ⟨rfl, hb⟩
    exact ⟨none, 0, rfl, World.ownsRow_nil _ _ _ _, hb⟩
  · rw [if_neg h1]
    obtain ⟨size, extra, hb, hx, h0, h32, hev, hex, hss⟩ := good_arg (by simpa using h1)
    have e1 : b.toNat = size := by omega
    have e2 : x.toNat = extra := by omega
    rw [e1, e2]
    by_cases h2 : goodSet fs size = true
    · rw [if_pos h2]
      refine (rCreate_ok fs b x size extra a cap hb hx h0 h32 hev hex hss h2 w hh).mono ?_
      rintro e w' ⟨v, rfl, hown, hbl⟩
      obtain ⟨al, cl, rfl, _, _, _⟩ := ownsRow_rd hown
      exact ⟨al, cl, by rw [packets_count], by rw [packets_count]; exact hown, hbl⟩
    · rw [if_neg h2]
      refine (rCreate_file fs b x size extra a cap hb hx h0 h32 hex hss (by simpa using h2) w hh).mono ?_
      rintro e w' ⟨rfl, hbl⟩
      exact ⟨none, 0, rfl, World.ownsRow_nil _ _ _ _, hbl⟩

theorem Lent.later {w w' : World} {base : Nat} {v : Value} {fs : List FileL} (h : Lent w base v fs) (hb : Below w.heap.size w w') : Lent w' base v fs := by
  obtain ⟨g, c, hv, hc, ho⟩ := h
  exact ⟨g, c, hv, hc, ownsRow_later ho (Nat.le_refl _) hb⟩
theorem Lent.base {w : World} {base base' : Nat} {v : Value} {fs : List FileL} (h : Lent w base v fs) (hb : base' ≤ base) : Lent w base' v fs := by
  obtain ⟨g, c, hv, hc, ho⟩ := h
  exact ⟨g, c, hv, hc, ownsRow_base hb ho⟩
theorem Lent.handed {w : World} {base : Nat} {v : Value} {fs : List FileL} (h : Lent w base v fs) (hs : ∀ f ∈ fs, f.1.length < 140737488355328 ∧ f.2.length < 140737488355328) : ∃ a c, v = .slice a fs.length c ∧ Handed w fs a c := by
  obtain ⟨g, c, hv, hc, ho⟩ := h
  refine ⟨some ⟨g, 0, none⟩, c, hv, ⟨?_, by omega, hs⟩⟩
  intro k u hk
  have hkl : k < (filesV fs).length := (List.getElem?_eq_some_iff.1 hk).1
  have := ho.cells (g := g) rfl k u (by
    unfold lentL
    rw [filesV_append, List.getElem?_append_left hkl]
    exact hk)
  have hadd : (⟨g, 0, none⟩ : Addr).add k = ⟨g, 0 + k, none⟩ := by unfold Addr.add; split <;> simp_all
  rw [hadd] at this
  exact ⟨g, 0, rfl, this⟩
theorem Handed.later {w w' : World} {fs : List FileL} {a : Option Addr} {cap : Nat} (h : Handed w fs a cap) (hb : Below w.heap.size w w') : Handed w' fs a cap := ⟨h.rd.later (Nat.le_refl _) hb, h.cap1, h.short⟩

set_option maxRecDepth 100000 in
theorem creates_walk (fs : List FileL) (b x : Int) (a : Option Addr) (cap : Nat) (ha : a = none → cap = 0) (hn : fs.length + 8 ≤ 4398046511104) (w : World) (hh : Handed w fs a cap) :
    Calls Try.prog 4 #[.slice a fs.length cap, .int .i64 b, .int .i64 x] w fun e w' => e = .returned (.bool true) ∧ Below w.heap.size w w' := by
  have HH := hid_of hh
  have hL := fun W (hW : Below w.heap.size w W) => lentFiles_walk fs a cap ha hn W (hh.rd.later (Nat.le_refl _) hW)
  have HL := hid_of hL
  have hC := fun W a' c' (hW : Handed W fs a' c') => Create_any fs b x a' c' W hW
  have hR := fun W a' c' (hW : Handed W fs a' c') => rCreate_any fs b x a' c' W hW
  have hlen := resL_len fs b x
  have hW := fun v W (h1 : Below w.heap.size w W) (h2 : Lent W w.heap.size v fs) => wholeFiles_walk fs a cap v w W hn hh.short hh.rd h1 h2
  have HW := hid_of hW
  have HLH : Hid (∀ W base v, Lent W base v fs → ∃ a c, v = .slice a fs.length c ∧ Handed W fs a c) := hid_of (fun W base v h => h.handed hh.short)
  obtain ⟨L, hLe⟩ : ∃ y, y = (resL fs b x).1 := ⟨_, rfl⟩
  obtain ⟨er, her⟩ : ∃ y, y = (resL fs b x).2 := ⟨_, rfl⟩
  rw [← hLe, ← her] at hC hR
  rw [← hLe] at hlen
  have HC := hid_of hC
  have HR := hid_of hR
  clear hL hC hR hW hLe her hh hn ha
  obtain ⟨n, hN⟩ : ∃ n, n = fs.length := ⟨_, rfl⟩
  rw [← hN] at HL HC HR HW HLH ⊢
  clear hN
  go_enter Try.func4, Try.ntmps4
  go_wp2_with fail
  refine (begun_walk w).mono ?_
  rintro e w1 ⟨rfl, hb1⟩
  have A1 := hid_of hb1
  clear hb1
  go_wp2_with fail
  refine (HL.out w1 A1.out).mono ?_
  rintro e w2 ⟨v2, rfl, hl2, hb2⟩
  have hsz1 := A1.out.size
  obtain ⟨ag, cg, rfl, hh2⟩ := HLH.out w2 _ _ hl2
  have B1 := hid_of (Below.next A1.out hb2)
  have B2 := hid_of (hl2.base hsz1)
  have B3 := hid_of hh2
  clear hl2 hb2 hh2 A1
  go_wp2_with fail
  refine (HC.out w2 ag cg B3.out).mono ?_
  rintro e w3 ⟨al, cl, rfl, hr3, hb3⟩
  have C1 := hid_of (Below.next B1.out hb3)
  have C2 := hid_of (B2.out.later hb3)
  have C3 := hid_of hr3
  clear hr3 hb3 B1 B2 B3
  go_wp2_with fail
  refine (HR.out w3 a cap (HH.out.later C1.out)).mono ?_
  rintro e w4 ⟨am, cm, rfl, hr4, hb4⟩
  have D1 := hid_of (Below.next C1.out hb4)
  have D2 := hid_of (C2.out.later hb4)
  have D3 := hid_of (ownsRow_later C3.out (Nat.le_refl _) hb4)
  have D4 := hid_of hr4
  clear hr4 hb4 C1 C2 C3
  go_wp2_with fail
  refine (HW.out _ w4 D1.out D2.out).mono ?_
  rintro e w5 ⟨rfl, hg5⟩
  obtain ⟨gg, gc, ge, _, hgo⟩ := D2.out
  have hle : w.heap.size ≤ w4.heap.size := D1.out.size
  have hb5 : Below w.heap.size w w5 := D1.out.grown hg5 hle (by
    intro kk hkk
    rw [ge] at hkk
    exact (hgo.lt kk (by simpa [Value.ownBlock] using hkk)).1)
  have e3 := D3.out.kept hg5 (by
    have := own_ne D3.out hgo (by decide)
    rw [ge]
    simpa [Value.ownBlock] using this)
  have e4 := D4.out.kept hg5 (by
    have := own_ne D4.out hgo (by decide)
    rw [ge]
    simpa [Value.ownBlock] using this)
  obtain ⟨al', cl', ee3, _, _, hr3⟩ := ownsRow_rd e3
  cases ee3
  obtain ⟨am', cm', ee4, _, _, hr4⟩ := ownsRow_rd e4
  cases ee4
  have hST := lsameTexts_walk L L al am cl cm (by omega) (by omega) w5 hr3 hr4
  rw [show (L == L) = true from by simp] at hST
  have E1 := hid_of hb5
  have E2 := hid_of hST
  have hsz5 : w.heap.size ≤ w5.heap.size := hb5.size
  clear hb5 hST e3 e4 hr3 hr4 hg5 hgo ge D1 D2 D3 D4
  go_wp2_with fail
  refine E2.out.mono ?_
  rintro e w6 ⟨rfl, hb6⟩
  have F1 := hid_of (E1.out.trans (hb6.mono hsz5))
  clear hb6 E1 E2
  go_wp2_with fail
  refine (lnum_walk er w6).mono ?_
  rintro e w7 ⟨rfl, hw7⟩
  have hw7 := hw7.symm
  subst hw7
  go_wp2_with fail
  refine (lnum_walk er w6).mono ?_
  rintro e w7 ⟨rfl, hw7⟩
  have hw7 := hw7.symm
  subst hw7
  go_wp2_with fail
  go_ret
  exact ⟨rfl, F1.out⟩
end Go.Proofs.Ytonjphollmdicaa
