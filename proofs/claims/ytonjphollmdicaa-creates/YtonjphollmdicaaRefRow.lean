import Derived.Test.YtonjphollmdicaaRefBody
namespace Go.Proofs.Ytonjphollmdicaa
open Go.ChangeShapes Go.WideShapes Go.ChangeAt Go.RowKit

/-- append to a row of the call's own, as one step of a region that draws its order -/
theorem step_append_own {P : Program} {ops : Array Oper} {o : Oper} {a : Act} {w : World} {K : Act → World → Prop} {Q : Exit → Act → World → Prop} {E : Prop}
    (hg : o.guard = none) (s x : Operand) (t : TypeId) (hop : o.op = Op.call { callee := Callee.builtin Builtin.append, args := #[s, x], argTypes := #[t, t] })
    (base : Nat) (e : TypeId) (i : TypeInfo) (z : Value) (size bytes : Nat) (h1 : P.underlying t = some (.slice e)) (h2 : P.info? e = some i) (h3 : i.zero = some z) (h4 : i.size = size) (h5 : i.bytes = bytes) (h6 : z.cells.size = size) (h7 : 0 < size)
    (v : Value) (n : Nat) (xs : List Value) (hs : a.eval s = v) (hown : w.ownsRow base e size v n xs)
    (ad : Addr) (m c : Nat) (news : List Value) (hx : a.eval x = .slice (some ad) m c) (hl : news.length = m * size) (hnews : ∀ j u, news[j]? = some u → w.cell? (ad.add j) = some u) (h1c : ∀ u ∈ news, u.oneCell' = true)
    (h63 : n + m ≤ maxLen) (hbytes : (n + m) * bytes ≤ 140737488355328) (hbase : base ≤ w.heap.size)
    (hK : ∀ v' w', w'.ownsRow base e size v' (n + m) (xs ++ news) → w.grownBy w' v.ownBlock → K (a.put o.dst v') w') :
    if Region.wanted o (yielded ops a.tmps) = true then Oper.wp P o a w K Q else E := by
  have hw : Region.wanted o (yielded ops a.tmps) = true := by simp [Region.wanted, hg]
  rw [if_pos hw]
  exact wp_append_own w s x t hop base e i z size bytes h1 h2 h3 h4 h5 h6 h7 v n xs hs hown ad m c news hx hl hnews h1c h63 hbytes hbase (fun v' w' a b _ => hK v' w' a b)

theorem numAt_ref (l : List UInt8) (k : Nat) :
    IntKind.u16.wrap (IntKind.u16.wrap (IntKind.u16.wrap ((l[2 * k]?.getD 0).toNat : Int) * 256) + IntKind.u16.wrap ((l[2 * k + 1]?.getD 0).toNat : Int)) = ((numAt l k : Nat) : Int) := by
  have h1 := (l[2 * k]?.getD 0).toNat_lt
  have h2 := (l[2 * k + 1]?.getD 0).toNat_lt
  unfold numAt
  generalize (l[2 * k]?.getD 0).toNat = a at *
  generalize (l[2 * k + 1]?.getD 0).toNat = b at *
  rw [IntKind.wrap_u16, IntKind.wrap_u16, IntKind.wrap_u16, IntKind.wrap_u16]
  omega

theorem one_after (W : World) (x : Value) (t : TypeId) : ∀ (j : Nat) (u : Value), [x][j]? = some u → (W.alloc (.cells #[x] t)).drew.cell? ((⟨W.heap.size, 0, none⟩ : Addr).add j) = some u := by
  intro j u h
  exact cell_one_new W x t j u h

set_option maxRecDepth 100000 in
set_option maxHeartbeats 2000000 in
theorem rrow_walk (l : List UInt8) (hl : l.length ≤ 1000) (w : World) :
    Calls Try.prog 32 #[.string (str l)] w fun e w' => ∃ v', e = .returned v' ∧ w'.ownsRow w.heap.size 22 1 v' (l.length / 2) (u16V (rowL l)) ∧ Below w.heap.size w w' := by
  obtain ⟨i0, hi, hz0, hz1, hz2⟩ := info_parts Try.info16
  have hss : (str l).size = l.length := str_size l
  obtain ⟨n, hn⟩ : ∃ n, n = l.length / 2 := ⟨_, rfl⟩
  have hn2 : 2 * n ≤ l.length := by omega
  have hn3 : l.length < 2 * n + 2 := by omega
  rw [← hn]
  have hrl : (rowL l).length = n := by rw [rowL_length, hn]
  clear hn
  go_enter Try.func32, Try.ntmps32
  go_wp2_with fail
  go_loopw [3, 4] (fun v i wr => ∃ k : Nat, k ≤ n ∧ i = .int .i64 ((2 * k : Nat) : Int) ∧ wr.ownsRow w.heap.size 22 1 v k (u16V ((rowL l).take k)) ∧ Below w.heap.size w wr)
    (fun _ i _ => l.length - (intOf i).toNat)
  case atStart => exact ⟨0, by omega, rfl, World.ownsRow_nil _ _ _ _, Below.refl _ _⟩
  case round =>
    obtain ⟨k, hk, rfl, hownr, hbl⟩ := hrel
    have hsz := hbl.size
    by_cases hlt : k < n
    · have ix1 := index_str l (2 * k) ((2 * k : Nat) : Int) rfl (by omega)
      have ix2 := index_str l (2 * k + 1) (((2 * k : Nat) : Int) + 1) (by omega) (by omega)
      have wi : IntKind.i64.wrap (((2 * k : Nat) : Int) + 1) = ((2 * k : Nat) : Int) + 1 := by rw [IntKind.wrap_i64]; omega
      have hnum := numAt_ref l k
      have htk : u16V ((rowL l).take (k + 1)) = u16V ((rowL l).take k) ++ [.int .u16 ((numAt l k : Nat) : Int)] := by
        rw [take_snoc _ k (by omega)]
        simp [u16V, rowL]
      obtain ⟨x, hx⟩ : ∃ x, x = numAt l k := ⟨_, rfl⟩
      rw [← hx] at hnum htk
      obtain ⟨i', hi'⟩ : ∃ i', i' = 2 * k := ⟨_, rfl⟩
      rw [← hi'] at ix1 ix2 wi hnum ⊢
      have hil : i' + 1 < l.length := by omega
      have HI := hid_of hi'
      obtain ⟨b1, hb1⟩ : ∃ b, b = (l[i']?.getD 0) := ⟨_, rfl⟩
      obtain ⟨b2, hb2⟩ : ∃ b, b = (l[i' + 1]?.getD 0) := ⟨_, rfl⟩
      rw [← hb1] at ix1
      rw [← hb1, ← hb2] at hnum
      rw [← hb2] at ix2
      have HT := hid_of htk
      have HO := hid_of hownr
      have HB := hid_of hbl
      clear hb1 hb2 hi' hx htk hownr hbl
      go_wp2_with fail
      go_region_law (refine step_append_own rfl (.tmp 12) (.tmp 24) 59 rfl w.heap.size 22 i0 (.int .u16 0) 1 2 Try.underlying59 hi hz0 hz1 hz2 rfl (by decide) _ _ _ rfl (HO.out.alloc _) ⟨wr.heap.size, 0, none⟩ 1 1 [.int .u16 (x : Int)] (by simp [Act.eval]) rfl (one_after _ _ _) (by intro u hu; simp at hu; subst hu; rfl) (by unfold maxLen; omega) (by omega) (by simp; omega) ?_; intro v2 w2 hown2 hg2)
      all_goals go_wp2_with fail
      all_goals
        have hbl2 : Below w.heap.size w w2 := Below.grown (by first | exact (HB.out.alloc hsz _).drew | exact HB.out.drew.alloc hsz _) hg2 (by simp; omega) (fun k hk => (HO.out.lt k hk).1)
        refine ⟨⟨k + 1, by omega, by rw [HI.out]; go_num, ?_, hbl2⟩, by simp [intOf]; omega⟩
        rw [HT.out]
        exact hown2
    · obtain rfl : k = n := by omega
      rw [List.take_of_length_le (by omega)] at hownr
      go_wp2_with fail
      go_ret
      exact ⟨_, rfl, hownr, hbl⟩
end Go.Proofs.Ytonjphollmdicaa
