import Derived.Test.YtonjphollmdicaaGreatDoorB03
set_option maxRecDepth 100000
set_option maxHeartbeats 4000000
set_option linter.unusedSimpArgs false
namespace Go.Proofs.YtonjphollmdicaaGreatDoor
open Go.ChangeShapes Go.WideShapes Go.ChangeAt Go.RowKit
theorem Fe (m : Nat) (w : World) :
  Calls Tryz.prog 59 #[.int .i64 (m : Int)] w fun e w' => e = .returned (.string (str (Bj (m : Int)))) ∧ Below w.heap.size w w' := by
 have hc := run_convert_bytes_back (P := Tryz.prog) (w.alloc (.cells #[.int .u8 ((m : Int) / 65536 % 256), .int .u8 ((m : Int) / 256 % 256), .int .u8 ((m : Int) % 256)] 5)) 67 9 5 ⟨w.heap.size, 0, none⟩ 3 [UInt8.ofNat (m / 65536), UInt8.ofNat (m / 256), UInt8.ofNat m]
  Tryz.underlying67 Tryz.underlying5 Tryz.underlying9 (by
   intro j hj
   have hj : j < 3 := hj
   rcases j with _ | _ | _ | j
   ·simp [Addr.add]
   ·simp [Addr.add]
   ·simp [Addr.add]
   ·omega)
 have hb : Below w.heap.size w (w.alloc (.cells #[.int .u8 ((m : Int) / 65536 % 256), .int .u8 ((m : Int) / 256 % 256), .int .u8 ((m : Int) % 256)] 5)) := (Below.refl _ _).alloc (Nat.le_refl _) _
 have HB := Aa hb
 clear hb
 simp only [List.length_cons, List.length_nil, Nat.zero_add, Nat.reduceAdd] at hc
 go_enter Tryz.func59, Tryz.ntmps59
 go_wp2_with fail
 go_ret
 refine ⟨?_, HB.out⟩
 rw [show (⟨#[109, 97, 114, 107]⟩ : ByteArray) ++ ⟨#[UInt8.ofNat (m / 65536), UInt8.ofNat (m / 256), UInt8.ofNat m]⟩ = str (Bj (m : Int)) from ByteArray.ext (by simp [Bj, str])]
 rfl
def Copy (w : World) (p : List Value) (N : Nat) (v u : Value) (n : Nat) : Prop := ∃ g c, u = .slice (some ⟨g, 0, none⟩) n c ∧ Rd w (some ⟨g, 0, none⟩) (rep n p) ∧ (v.ownBlock = some g ∨ N ≤ g) ∧ g < w.heap.size
section
variable {base N n m k : Nat} {e : TypeId} {p : List Value} {W W' : World} {v v' u : Value}
theorem Copy.alloc (h : Copy W p N v u k) (o : Obj) : Copy (W.alloc o) p N v u k := by
 obtain ⟨g, c, rfl, hr, h1, h2⟩ := h
 exact ⟨g, c, rfl, hr.later (Nat.le_refl _) ((Below.refl _ _).alloc (Nat.le_refl _) _), h1, by simp; omega⟩
theorem Grew.copy (hg : Grew base e p W v n m v' W') (hm : 0 < m) (hN : N ≤ W.heap.size) : Copy W' p N v v' (n + m) := by
 obtain ⟨h1, _, _, h4, _⟩ := hg
 obtain ⟨a, c, rfl, hr, ha, hn⟩ := AZ h1
 cases a with
 | none => rcases h1.2 with ⟨_, h0⟩ | ⟨g, cap, cur, h0, _⟩
      ·omega
      ·cases h0
 | some ad =>
  obtain ⟨g, rfl, hg⟩ := ha ad rfl
  exact ⟨g, c, rfl, hr, (h4 g hg).imp id (fun h => by omega), (h1.lt g hg).2⟩
theorem Copy.next (h : Copy W p N v u k) (hg : Grew base e p W v n m v' W') (hk : k ≤ n + m) : Copy W' p N v u k := by
 obtain ⟨g, c, rfl, hr, h1, h2⟩ := h
 exact ⟨g, c, rfl, hg.2.2.2.2 g k hk hr, h1, by have := hg.2.2.1.size; omega⟩
theorem PF {v1 v2 v3 : Value} (hv : W.ownsRow base e p.length v n (rep n p)) (h1 : Copy W p N v v1 (n + 1)) (h2 : Copy W p N v v2 (n + 2)) (h3 : Copy W p N v v3 (n + 3)) (hn : n ≤ 1000) :
  ∀ u ∈ [v, v1, v2, v3], ∃ g n c, u = .slice g n c ∧ n ≤ 1003 ∧ Rd W g (rep n p) ∧ ∀ ad, g = some ad → (v.ownBlock = some ad.block ∨ N ≤ ad.block) ∧ ad.block < W.heap.size := by
 have key : ∀ u k, k ≤ 1003 → Copy W p N v u k → ∃ g n c, u = .slice g n c ∧ n ≤ 1003 ∧ Rd W g (rep n p) ∧ ∀ ad, g = some ad → (v.ownBlock = some ad.block ∨ N ≤ ad.block) ∧ ad.block < W.heap.size := by
  rintro u k hk ⟨g, c, rfl, hr, h1, h2⟩
  exact ⟨some ⟨g, 0, none⟩, k, c, rfl, hk, hr, fun ad ha => by cases ha; exact ⟨h1, h2⟩⟩
 intro u hu
 simp only [List.mem_cons, List.not_mem_nil, or_false] at hu
 rcases hu with rfl | rfl | rfl | rfl
 ·obtain ⟨a, c, rfl, hr, ha, _⟩ := AZ hv
  refine ⟨a, n, c, rfl, by omega, hr, fun ad he => ?_⟩
  obtain ⟨g, rfl, hg⟩ := ha ad he
  exact ⟨.inl hg, (hv.lt g hg).2⟩
 ·exact key _ _ (by omega) h1
 ·exact key _ _ (by omega) h2
 ·exact key _ _ (by omega) h3
end
theorem Gt {n : Nat} {p ys : List Value} (hl : ys.length = n * p.length) (h0 : 0 < p.length) (h : ∀ i q, i < n → q < p.length → ys[i * p.length + q]? = p[q]?) : ys = rep n p := by
 refine List.ext_getElem? fun k => ?_
 by_cases hk : k < n * p.length
 ·have hi : k / p.length < n := Nat.div_lt_of_lt_mul (by rw [Nat.mul_comm]; exact hk)
  have hq : k % p.length < p.length := Nat.mod_lt _ h0
  have e : k / p.length * p.length + k % p.length = k := by rw [Nat.mul_comm]; exact Nat.div_add_mod k p.length
  have h1 := h _ _ hi hq
  have h2 := O9 n p _ _ hi hq
  rw [e] at h1 h2
  rw [h1, h2]
 ·rw [List.getElem?_eq_none (by omega), List.getElem?_eq_none (by rw [GC]; omega)]
theorem CT {W : World} {g : Nat} {cs : List Value} {p : List Value} {m : Nat} (hb : Rd W (some ⟨g, 0, none⟩) cs) (e : rep m p = cs) : ∀ j u, (rep m p)[j]? = some u → W.cell? ((⟨g, 0, none⟩ : Addr).add j) = some u := by
 intro j u hj
 rw [e] at hj
 obtain ⟨b, off, e', hc⟩ := hb j u hj
 cases e'
 have hadd : (⟨g, 0, none⟩ : Addr).add j = ⟨g, 0 + j, none⟩ := by unfold Addr.add; split <;> simp_all
 rw [hadd]
 exact hc
theorem EQ (w : World) (cs : Array Value) (t : TypeId) : Rd (w.alloc (.cells cs t)) (some ⟨w.heap.size, 0, none⟩) cs.toList := fun k u hk => ⟨w.heap.size, 0, rfl, by rw [Nat.zero_add]; exact (Blk.new w cs t k u hk).1⟩
theorem CS (w : World) (cs : List Value) (t : TypeId) : ∀ j u, cs[j]? = some u → (w.alloc (.cells cs.toArray t)).cell? ((⟨w.heap.size, 0, none⟩ : Addr).add j) = some u := fun j u hj => by
 have hadd : (⟨w.heap.size, 0, none⟩ : Addr).add j = ⟨w.heap.size, j, none⟩ := by unfold Addr.add; split <;> simp_all
 rw [hadd]
 exact (Blk.new w cs.toArray t j u (by simpa using hj)).1
section
variable {w w3 w4 : World} {base B : Nat} {F : Nat → Prop} {rs : Nat → Value} {T : Nat → List Value} {M : Nat → List Int} {j q n mk nc mc : Nat} {na ma : Option Addr} {l v1 v2 v3 tv : Value} {e : TypeId} {m : Int}
theorem Gm (h : BookI w base B F rs T M) (hj : j < 4) (hq : q = 4 + j) (hnv : rs j = .slice na mk nc) (hmv : rs q = .slice ma mk mc) (hmk : mk = (M j).length) (hF : ∀ k ∈ Ea l, ¬ F k) (hn : n ≤ 1000)
  (hm : -4398046511104 ≤ m ∧ m ≤ 4398046511104 ∧ (j ≠ 2 → 0 ≤ m)) (t3 : Touch (Ea l) w w3) (o3 : w3.ownsRow base e (Me j m).length l n (rep n (Me j m))) (k1 : Copy w3 (Me j m) w.heap.size l v1 (n + 1)) (k2 : Copy w3 (Me j m) w.heap.size l v2 (n + 2)) (k3 : Copy w3 (Me j m) w.heap.size l v3 (n + 3))
  (hT4 : w4.ownsRow base (RO j) 1 tv (mk + 4) (T j ++ [l, v1, v2, v3])) (g4 : (w3.alloc (.cells #[l, v1, v2, v3] (RO j))).grownBy w4 (Value.slice na mk nc).ownBlock) (at4 : tv.ownBlock = (Value.slice na mk nc).ownBlock ∨ tv.ownBlock = some (w3.heap.size + 1)) :
  (w4.cell? ⟨B, j, none⟩ = some (.slice na mk nc) ∧ w4.frozen? ⟨B, j, none⟩ = false) ∧ ∀ W5, W5 = w4.setCell ⟨B, j, none⟩ tv → W5.cell? ⟨B, q, none⟩ = some (.slice ma mk mc) ∧ W5.ownsRow base 3 1 (.slice ma mk mc) mk ((M j).map (Value.int .i64)) ∧ B < W5.heap.size ∧ base ≤ W5.heap.size ∧
   ∀ A w6, (W5.drew.alloc A).grownBy w6 (Value.slice ma mk mc).ownBlock → (w6.cell? ⟨B, q, none⟩ = some (.slice ma mk mc) ∧ w6.frozen? ⟨B, q, none⟩ = false) ∧
    ∀ mv, w6.ownsRow base 3 1 mv (mk + 4) ((M j).map (Value.int .i64) ++ [.int .i64 m, .int .i64 m, .int .i64 m, .int .i64 m]) → (mv.ownBlock = (Value.slice ma mk mc).ownBlock ∨ mv.ownBlock = some (W5.heap.size + 1)) → GF w base B F M j l (.returned (.tuple #[])) (w6.setCell ⟨B, q, none⟩ mv) := by
 subst hq hmk
 have h3 := (h.touch t3 hF).touch ((Touch.refl [] w3).alloc (.cells #[l, v1, v2, v3] (RO j))) (by simp)
 rw [← hnv] at g4 at4
 obtain ⟨m1, m2, m3⟩ := h3.mid (tv := tv) hj g4
 have cj : ∀ r, (cellsB r)[j]? = some (r j) := by
  intro r
  match j, hj with
  | 0, _ | 1, _ | 2, _ | 3, _ => rfl
 have cq : ∀ r, (cellsB r)[4 + j]? = some (r (4 + j)) := by
  intro r
  match j, hj with
  | 0, _ | 1, _ | 2, _ | 3, _ => rfl
 have a1 := m1 j _ (cj rs)
 rw [hnv] at a1
 refine ⟨a1, fun W5 hW5 => ?_⟩
 subst hW5
 have a2 := m3 (4 + j) _ (cq _)
 rw [CC _ _ (by omega), hmv] at a2
 have hlt := World.block_lt_of_cell? _ _ a2.1
 have hlo := h.lo
 have hlt' : B < (w4.setCell ⟨B, j, none⟩ tv).heap.size := hlt
 rw [hmv] at m2
 refine ⟨a2.1, m2, hlt, by omega, fun A w6 hg => ⟨?_, fun mv h1 h2 => ?_⟩⟩
 ·have hB : B ∉ Ea (.slice ma (M j).length mc) := fun e => (h.off (4 + j) B (by omega) (by rw [hmv]; exact blkL_mem.1 e)).2 rfl
  have t := (Touch.refl [] (w4.setCell ⟨B, j, none⟩ tv)).drew.alloc A
  have hl : B < ((w4.setCell ⟨B, j, none⟩ tv).drew.alloc A).heap.size := Nat.lt_of_lt_of_le hlt t.size
  exact ⟨by rw [(Touch.of_row hg).cell (x := ⟨B, 4 + j, none⟩) hl hB, t.cell (x := ⟨B, 4 + j, none⟩) hlt (by simp)]; exact a2.1, by rw [(Touch.of_row hg).frozen (x := ⟨B, 4 + j, none⟩) hl hB, t.frozen (x := ⟨B, 4 + j, none⟩) hlt (by simp)]; exact a2.2⟩
 ·refine Rc (m := m) h3 hj (fun q hq => ⟨hF q (blkL_mem.2 hq), (o3.lt q hq).1, Nat.lt_of_lt_of_le (o3.lt q hq).2 (by simp)⟩) (t3.alloc _) h.bas hm rfl h.le (fun u hu => ?_) (by rw [h.len j hj]; exact hT4) g4 (at4.imp id (fun e => by rw [e]; simp)) (w5 := (w4.setCell ⟨B, j, none⟩ tv).drew.alloc A) (((Touch.refl [] (w4.setCell ⟨B, j, none⟩ tv)).drew.alloc A).below (Nat.le_refl _) (by simp)) h1 (by rw [hmv]; exact hg) (by rw [hmv]; exact h2.imp id (fun e => by rw [e]; simp))
  obtain ⟨g, n', c', e, h4, h5, h6⟩ := PF o3 k1 k2 k3 hn u hu
  exact ⟨g, n', c', e, h4, h5.later (Nat.le_refl _) ((Below.refl _ _).alloc (Nat.le_refl _) _), fun ad ha => ⟨(h6 ad ha).1, Nat.lt_of_lt_of_le (h6 ad ha).2 (by simp)⟩⟩
end
end Go.Proofs.YtonjphollmdicaaGreatDoor
