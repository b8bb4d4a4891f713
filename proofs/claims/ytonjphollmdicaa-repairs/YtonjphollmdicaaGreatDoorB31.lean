import Derived.Test.YtonjphollmdicaaGreatDoorB22
import Derived.Test.YtonjphollmdicaaGreatDoorB30
namespace Go.Proofs.YtonjphollmdicaaGreatDoor
open Go.ChangeShapes Go.WideShapes Go.ChangeAt Go.RowKit
theorem step_append_own {P : Program} {ops : Array Oper} {o : Oper} {a : Act} {w : World} {K : Act → World → Prop} {Q : Exit → Act → World → Prop} {E : Prop}
  (hg : o.guard = none) (s x : Operand) (t : TypeId) (hop : o.op = Op.call { callee := Callee.builtin Builtin.append, args := #[s, x], argTypes := #[t, t] })
  (base : Nat) (e : TypeId) (i : TypeInfo) (z : Value) (size bytes : Nat) (h1 : P.underlying t = some (.slice e)) (h2 : P.info? e = some i) (h3 : i.zero = some z) (h4 : i.size = size) (h5 : i.bytes = bytes) (h6 : z.cells.size = size) (h7 : 0 < size)
  (v : Value) (n : Nat) (xs : List Value) (hs : a.eval s = v) (hown : w.ownsRow base e size v n xs)
  (ad : Addr) (m c : Nat) (news : List Value) (hx : a.eval x = .slice (some ad) m c) (hl : news.length = m * size) (hnews : ∀ j u, news[j]? = some u → w.cell? (ad.add j) = some u) (h1c : ∀ u ∈ news, u.oneCell' = true)
  (h63 : n + m ≤ maxLen) (hbytes : (n + m) * bytes ≤ 140737488355328) (hbase : base ≤ w.heap.size)
  (hK : ∀ v' w', w'.ownsRow base e size v' (n + m) (xs ++ news) → w.grownBy w' v.ownBlock → K (a.put o.dst v') w') :
  if Region.wanted o (yielded ops a.tmps) = true then Oper.wp P o a w K Q else E := by
 have hw : Region.wanted o (yielded ops a.tmps) = true := by simp [Region.wanted, hg]
 rw [if_pos hw]
 exact wp_append_own w s x t hop base e i z size bytes h1 h2 h3 h4 h5 h6 h7 v n xs hs hown ad m c news hx hl hnews h1c h63 hbytes hbase (fun v' w' a b _ => hK v' w' a b)
theorem numAt_ref (l : List UInt8) (k : Nat) :
  IntKind.u16.wrap (IntKind.u16.wrap (IntKind.u16.wrap ((l[2 * k]?.getD 0).toNat : Int) * 256) + IntKind.u16.wrap ((l[2 * k + 1]?.getD 0).toNat : Int)) = ((numAt l k : Nat) : Int) := by
 have h1 := (l[2 * k]?.getD 0).toNat_lt
 have h2 := (l[2 * k + 1]?.getD 0).toNat_lt
 unfold numAt
 generalize (l[2 * k]?.getD 0).toNat = a at *
 generalize (l[2 * k + 1]?.getD 0).toNat = b at *
 rw [IntKind.wrap_u16, IntKind.wrap_u16, IntKind.wrap_u16, IntKind.wrap_u16]
 omega
theorem one_after (W : World) (x : Value) (t : TypeId) : ∀ (j : Nat) (u : Value), [x][j]? = some u → (W.alloc (.cells #[x] t)).drew.cell? ((⟨W.heap.size, 0, none⟩ : Addr).add j) = some u := by
 intro j u h
 exact cell_one_new W x t j u h
set_option maxRecDepth 100000 in
set_option maxHeartbeats 2000000 in
theorem rrow_walk (l : List UInt8) (hl : l.length ≤ 1000) (w : World) :
  Calls Tryz.prog 71 #[.string (str l)] w fun e w' => ∃ v', e = .returned v' ∧ w'.ownsRow w.heap.size 80 1 v' (l.length / 2) (u16V (rowL l)) ∧ Below w.heap.size w w' := by
 obtain ⟨i0, hi, hz0, hz1, hz2⟩ := info_parts Tryz.info16
 have hss : (str l).size = l.length := str_size l
 obtain ⟨n, hn⟩ : ∃ n, n = l.length / 2 := ⟨_, rfl⟩
 have hn2 : 2 * n ≤ l.length := by omega
 have hn3 : l.length < 2 * n + 2 := by omega
 rw [← hn]
 have hrl : (rowL l).length = n := by rw [rowL_length, hn]
 clear hn
 go_enter Tryz.func71, Tryz.ntmps71
 go_wp2_with fail
 go_loopw [3, 4] (fun v i wr => ∃ k : Nat, k ≤ n ∧ i = .int .i64 ((2 * k : Nat) : Int) ∧ wr.ownsRow w.heap.size 80 1 v k (u16V ((rowL l).take k)) ∧ Below w.heap.size w wr)
  (fun _ i _ => l.length - (intOf i).toNat)
 case atStart => exact ⟨0, by omega, rfl, World.ownsRow_nil _ _ _ _, Below.refl _ _⟩
 case round =>
  obtain ⟨k, hk, rfl, hownr, hbl⟩ := hrel
  have hsz := hbl.size
  by_cases hlt : k < n
  ·have ix1 := index_str l (2 * k) ((2 * k : Nat) : Int) rfl (by omega)
   have ix2 := index_str l (2 * k + 1) (((2 * k : Nat) : Int) + 1) (by omega) (by omega)
   have wi : IntKind.i64.wrap (((2 * k : Nat) : Int) + 1) = ((2 * k : Nat) : Int) + 1 := by rw [IntKind.wrap_i64]; omega
   have hnum := numAt_ref l k
   have htk : u16V ((rowL l).take (k + 1)) = u16V ((rowL l).take k) ++ [.int .u16 ((numAt l k : Nat) : Int)] := by
    rw [take_snoc _ k (by omega)]
    simp [u16V, rowL]
   obtain ⟨x, hx⟩ : ∃ x, x = numAt l k := ⟨_, rfl⟩
   rw [← hx] at hnum htk
   obtain ⟨i', hi'⟩ : ∃ i', i' = 2 * k := ⟨_, rfl⟩
   rw [← hi'] at ix1 ix2 wi hnum ⊢
   have hil : i' + 1 < l.length := by omega
   have HI := hid_of hi'
   obtain ⟨b1, hb1⟩ : ∃ b, b = (l[i']?.getD 0) := ⟨_, rfl⟩
   obtain ⟨b2, hb2⟩ : ∃ b, b = (l[i' + 1]?.getD 0) := ⟨_, rfl⟩
   rw [← hb1] at ix1
   rw [← hb1, ← hb2] at hnum
   rw [← hb2] at ix2
   have HT := hid_of htk
   have HO := hid_of hownr
   have HB := hid_of hbl
   clear hb1 hb2 hi' hx htk hownr hbl
   go_wp2_with fail
   go_region_law (refine step_append_own rfl (.tmp 12) (.tmp 24) 121 rfl w.heap.size 80 i0 (.int .u16 0) 1 2 Tryz.underlying121 hi hz0 hz1 hz2 rfl (by decide) _ _ _ rfl (HO.out.alloc _) ⟨wr.heap.size, 0, none⟩ 1 1 [.int .u16 (x : Int)] (by simp [Act.eval]) rfl (one_after _ _ _) (by intro u hu; simp at hu; subst hu; rfl) (by unfold maxLen; omega) (by omega) (by simp; omega) ?_; intro v2 w2 hown2 hg2)
   all_goals go_wp2_with fail
   all_goals
    have hbl2 : Below w.heap.size w w2 := Below.grown (by first | exact (HB.out.alloc hsz _).drew | exact HB.out.drew.alloc hsz _) hg2 (by simp; omega) (fun k hk => (HO.out.lt k hk).1)
    refine ⟨⟨k + 1, by omega, by rw [HI.out]; go_num, ?_, hbl2⟩, by simp [intOf]; omega⟩
    rw [HT.out]
    exact hown2
  ·obtain rfl : k = n := by omega
   rw [List.take_of_length_le (by omega)] at hownr
   go_wp2_with fail
   go_ret
   exact ⟨_, rfl, hownr, hbl⟩
end Go.Proofs.YtonjphollmdicaaGreatDoor
namespace Go.Proofs.YtonjphollmdicaaGreatDoor
open Go.ChangeShapes Go.WideShapes Go.ChangeAt Go.RowKit
def rscaleL (r : List Nat) (b : Nat) : List Nat := (List.range r.length).map fun j => Math.mul (r.getD j 0) b
def raddL (r m : List Nat) (b : Nat) : List Nat := (List.range r.length).map fun j => r.getD j 0 ^^^ Math.mul (m.getD j 0) b
theorem rrange_getD (r : List Nat) : (List.range r.length).map (fun j => r.getD j 0) = r := by
 apply List.ext_getElem
 ·simp
 ·intro j h1 h2
  simp at h1
  simp [h1]
theorem scaleL_length (r : List Nat) (b : Nat) : (rscaleL r b).length = r.length := by simp [rscaleL]
theorem raddL_length (r m : List Nat) (b : Nat) : (raddL r m b).length = r.length := by simp [raddL]
def Row (w : World) (base g cap : Nat) (r : List Nat) : Prop := w.ownsRow base 80 1 (.slice (some ⟨g, 0, none⟩) r.length cap) r.length (u16V r)
theorem grown_set (w : World) (a : Addr) (u : Value) : w.grownBy (w.setCell a u) (some a.block) :=
 ⟨rfl, rfl, rfl, Nat.le_of_eq (World.size_setCell _ _ _).symm, fun k hk hne => Below.heap_setCell w a u k (fun e => hne (by rw [e]))⟩
set_option maxRecDepth 100000 in
theorem rscale_walk (r : List Nat) (b : Nat) (base g cap : Nat) (w : World) (hown : Row w base g cap r) (hr : r.length ≤ 1000) (hx : ∀ x ∈ r, x < 65536) (hby : b < 65536) :
  Calls Tryz.prog 106 #[.slice (some ⟨g, 0, none⟩) r.length cap, .int .u16 (b : Int)] w fun e w' => e = .returned (.tuple #[]) ∧ Row w' base g cap (rscaleL r b) ∧ w.grownBy w' (some g) := by
 obtain ⟨n, hn⟩ : ∃ n, n = r.length := ⟨_, rfl⟩
 unfold Row at hown ⊢
 rw [scaleL_length, ← hn]
 rw [← hn] at hown hr
 have hr0 : r = partL n 0 (fun j => Math.mul (r.getD j 0) b) (fun j => r.getD j 0) := by rw [partL_zero, hn, rrange_getD]
 have hfull : rscaleL r b = partL n n (fun j => Math.mul (r.getD j 0) b) (fun j => r.getD j 0) := by rw [partL_full, rscaleL, hn]
 rw [hfull]
 have HX := hid_of (fun j => getD_lt hx j)
 obtain ⟨f, hf⟩ : ∃ f : Nat → Nat, f = fun j => r.getD j 0 := ⟨_, rfl⟩
 rw [show (fun j => Math.mul (r.getD j 0) b) = fun j => Math.mul (f j) b from by rw [hf], ← hf] at hr0 ⊢
 have HX2 : Hid (∀ j, f j < 65536) := hid_of (by rw [hf]; exact HX.out)
 rw [hr0] at hown
 clear hx HX hf hr0 hfull hn
 obtain ⟨h, hh⟩ : ∃ h : Nat → Nat, h = fun j => Math.mul (f j) b := ⟨_, rfl⟩
 rw [← hh] at hown ⊢
 have HH : Hid (∀ j, h j = Math.mul (f j) b) := hid_of (by intro j; rw [hh])
 clear hh
 go_enter Tryz.func106, Tryz.ntmps106
 go_wp2_with fail
 go_loopw [4] (fun i wr => ∃ k : Nat, k ≤ n ∧ i = .int .i64 (k : Int) ∧ wr.ownsRow base 80 1 (.slice (some ⟨g, 0, none⟩) n cap) n (u16V (partL n k h f)) ∧ w.grownBy wr (some g))
  (fun i _ => n - (intOf i).toNat)
 case atStart => exact ⟨0, by omega, rfl, hown, ⟨rfl, rfl, rfl, Nat.le_refl _, fun _ _ _ => rfl⟩⟩
 case round =>
  obtain ⟨k, hk, rfl, hownr, hgr⟩ := hrel
  by_cases hlt : k < n
  ·have hc : wr.cell? ⟨g, k, none⟩ = some (.int .u16 ((f k : Nat) : Int)) := by
    rw [hownr.cellAt k (by omega)]
    have := partL_getD n k h f k hlt
    rw [if_neg (by omega)] at this
    rw [← this]
    simp [u16V, partL_length, hlt]
   have hfz := hownr.frozenAt k
   have hst := (hownr.stored k (.int .u16 ((h k : Nat) : Int))).1
   have hown' : (wr.setCell ⟨g, k, none⟩ (.int .u16 ((h k : Nat) : Int))).ownsRow base 80 1 (.slice (some ⟨g, 0, none⟩) n cap) n (u16V (partL n (k + 1) h f)) := by
    rw [← partL_up]
    have e : u16V ((partL n k h f).set k (h k)) = (u16V (partL n k h f)).set k (.int .u16 ((h k : Nat) : Int)) := by simp [u16V, List.map_set]
    rw [e]; exact hst
   have hG := hgr.trans (grown_set wr ⟨g, k, none⟩ (.int .u16 ((h k : Nat) : Int)))
   have hfl := HX2.out k
   rw [HH.out k] at hG
   have HO := hid_of hown'
   have HG := hid_of hG
   rw [HH.out k] at HO
   obtain ⟨x, hxe⟩ : ∃ x, x = f k := ⟨_, rfl⟩
   rw [← hxe] at hc hfl HO HG
   have HO0 := hid_of hown
   clear hst hown' hG hownr hgr hxe hown
   go_wp2_with fail
   refine (refTimes_walk x b hfl hby wr).mono ?_
   rintro e w' ⟨rfl, rfl⟩
   go_wp2_with fail
   exact ⟨⟨k + 1, by omega, by go_num, HO.out, HG.out⟩, by simp [intOf]; omega⟩
  ·obtain rfl : k = n := by omega
   have HO := hid_of hownr
   have HG := hid_of hgr
   clear hownr hgr hown
   go_wp2_with fail
   go_end0
   exact ⟨rfl, HO.out, HG.out⟩
set_option maxRecDepth 100000 in
theorem radd_walk (r m : List Nat) (b : Nat) (base g cap : Nat) (a : Option Addr) (nm cap' : Nat) (w : World) (hown : Row w base g cap r) (hr : r.length ≤ 1000) (hx : ∀ x ∈ r, x < 65536) (hby : b < 65536)
  (hm : m.length = nm) (hlen : r.length ≤ nm) (hrd : Rd w a (u16V m)) (hap : ∀ c, a = some c → c.block ≠ g) (hmx : ∀ x ∈ m, x < 65536) :
  Calls Tryz.prog 107 #[.slice (some ⟨g, 0, none⟩) r.length cap, .slice a nm cap', .int .u16 (b : Int)] w fun e w' => e = .returned (.tuple #[]) ∧ Row w' base g cap (raddL r m b) ∧ w.grownBy w' (some g) := by
 obtain ⟨n, hn⟩ : ∃ n, n = r.length := ⟨_, rfl⟩
 unfold Row at hown ⊢
 rw [raddL_length, ← hn]
 rw [← hn] at hown hr hlen
 have hr0 : r = partL n 0 (fun j => r.getD j 0 ^^^ Math.mul (m.getD j 0) b) (fun j => r.getD j 0) := by rw [partL_zero, hn, rrange_getD]
 have hfull : raddL r m b = partL n n (fun j => r.getD j 0 ^^^ Math.mul (m.getD j 0) b) (fun j => r.getD j 0) := by rw [partL_full, raddL, hn]
 rw [hfull]
 have HX := hid_of (fun j => getD_lt hx j)
 have HMX := hid_of (fun j => getD_lt hmx j)
 obtain ⟨f, hf⟩ : ∃ f : Nat → Nat, f = fun j => r.getD j 0 := ⟨_, rfl⟩
 rw [show (fun j => r.getD j 0 ^^^ Math.mul (m.getD j 0) b) = fun j => f j ^^^ Math.mul (m.getD j 0) b from by rw [hf], ← hf] at hr0 ⊢
 have HX2 : Hid (∀ j, f j < 65536) := hid_of (by rw [hf]; exact HX.out)
 rw [hr0] at hown
 clear hx HX hf hr0 hfull hn hmx
 obtain ⟨h, hh⟩ : ∃ h : Nat → Nat, h = fun j => f j ^^^ Math.mul (m.getD j 0) b := ⟨_, rfl⟩
 rw [← hh] at hown ⊢
 have HH : Hid (∀ j, h j = f j ^^^ Math.mul (m.getD j 0) b) := hid_of (by intro j; rw [hh])
 have HRD := hid_of hrd
 have HAP := hid_of hap
 clear hh hrd hap
 go_enter Tryz.func107, Tryz.ntmps107
 go_wp2_with fail
 go_loopw [6, 7] (fun i _ wr => ∃ k : Nat, k ≤ n ∧ i = .int .i64 (k : Int) ∧ wr.ownsRow base 80 1 (.slice (some ⟨g, 0, none⟩) n cap) n (u16V (partL n k h f)) ∧ w.grownBy wr (some g))
  (fun i _ _ => n - (intOf i).toNat)
 case atStart => exact ⟨0, by omega, rfl, hown, ⟨rfl, rfl, rfl, Nat.le_refl _, fun _ _ _ => rfl⟩⟩
 case round =>
  obtain ⟨k, hk, rfl, hownr, hgr⟩ := hrel
  by_cases hlt : k < n
  ·have hc : wr.cell? ⟨g, k, none⟩ = some (.int .u16 ((f k : Nat) : Int)) := by
    rw [hownr.cellAt k (by omega)]
    have := partL_getD n k h f k hlt
    rw [if_neg (by omega)] at this
    rw [← this]
    simp [u16V, partL_length, hlt]
   have hkm : k < m.length := by omega
   obtain ⟨b2, off2, rfl, hcm0⟩ := u16_get HRD.out k hkm
   have hcm := hgr.cell hcm0 (by intro e; exact HAP.out _ rfl (by simpa using e))
   have hfz := hownr.frozenAt k
   have hst := (hownr.stored k (.int .u16 ((h k : Nat) : Int))).1
   have hown' : (wr.setCell ⟨g, k, none⟩ (.int .u16 ((h k : Nat) : Int))).ownsRow base 80 1 (.slice (some ⟨g, 0, none⟩) n cap) n (u16V (partL n (k + 1) h f)) := by
    rw [← partL_up]
    have e : u16V ((partL n k h f).set k (h k)) = (u16V (partL n k h f)).set k (.int .u16 ((h k : Nat) : Int)) := by simp [u16V, List.map_set]
    rw [e]; exact hst
   have hG := hgr.trans (grown_set wr ⟨g, k, none⟩ (.int .u16 ((h k : Nat) : Int)))
   have hfl := HX2.out k
   have hml := HMX.out k
   rw [HH.out k] at hG
   have HO := hid_of hown'
   have HG := hid_of hG
   rw [HH.out k] at HO
   obtain ⟨x, hxe⟩ : ∃ x, x = f k := ⟨_, rfl⟩
   obtain ⟨y, hye⟩ : ∃ x, x = m.getD k 0 := ⟨_, rfl⟩
   rw [← hxe] at hc hfl HO HG
   rw [← hye] at hcm hml HO HG
   have hmu : Math.mul y b < 65536 := Math.mul_lt hml b
   have hxo := xor16 x (Math.mul y b) hfl hmu
   have HO0 := hid_of hown
   clear hst hown' hG hownr hgr hxe hye hown hcm0
   go_wp2_with fail
   refine (refTimes_walk y b hml hby wr).mono ?_
   rintro e w' ⟨rfl, rfl⟩
   go_wp2_with fail
   exact ⟨⟨k + 1, by omega, by go_num, HO.out, HG.out⟩, by simp [intOf]; omega⟩
  ·obtain rfl : k = n := by omega
   have HO := hid_of hownr
   have HG := hid_of hgr
   clear hownr hgr hown
   go_wp2_with fail
   go_end0
   exact ⟨rfl, HO.out, HG.out⟩
theorem rscaleL_lt {r : List Nat} {b : Nat} (h : ∀ x ∈ r, x < 65536) : ∀ x ∈ rscaleL r b, x < 65536 := by
 intro x hx
 simp only [rscaleL, List.mem_map] at hx
 obtain ⟨j, _, rfl⟩ := hx
 exact Math.mul_lt (getD_lt h j) b
theorem raddL_lt {r m : List Nat} {b : Nat} (h : ∀ x ∈ r, x < 65536) (hm : ∀ x ∈ m, x < 65536) : ∀ x ∈ raddL r m b, x < 65536 := by
 intro x hx
 simp only [raddL, List.mem_map] at hx
 obtain ⟨j, _, rfl⟩ := hx
 exact Nat.xor_lt_two_pow (n := 16) (getD_lt h j) (Math.mul_lt (getD_lt hm j) b)
def valueGo (c : List (List Nat)) (at' : Nat) (width : Nat) : Nat → List Nat
 | 0 => List.replicate width 0
 | k + 1 => raddL (rscaleL (valueGo c at' width k) at') (c.getD (c.length - 1 - k) []) 1
def valueL (c : List (List Nat)) (at' : Nat) (width : Nat) : List Nat := valueGo c at' width c.length
theorem valueGo_length (c : List (List Nat)) (t width : Nat) : ∀ k, (valueGo c t width k).length = width
 | 0 => by simp [valueGo]
 | k + 1 => by rw [valueGo, raddL_length, scaleL_length, valueGo_length c t width k]
theorem valueGo_lt {c : List (List Nat)} (h : ∀ r ∈ c, ∀ x ∈ r, x < 65536) (t width : Nat) : ∀ k, ∀ x ∈ valueGo c t width k, x < 65536
 | 0 => by intro x hx; simp [valueGo] at hx; omega
 | k + 1 => raddL_lt (rscaleL_lt (valueGo_lt h t width k)) (rows_getD_lt h _)
theorem Rd.block_lt {w : World} {a : Option Addr} {r : List Nat} (h : Rd w a (u16V r)) (h0 : 0 < r.length) : ∀ c, a = some c → c.block < w.heap.size := by
 intro c hc
 obtain ⟨b, off, rfl, hcell⟩ := u16_get h 0 h0
 cases hc
 exact World.block_lt_of_cell? w _ hcell
set_option maxRecDepth 100000 in
set_option maxHeartbeats 1000000 in
theorem rvalue_walk (c : List (List Nat)) (at' width : Nat) (a : Option Addr) (cap : Nat) (hc : c.length ≤ 100) (h0 : 0 < c.length) (hw : ∀ r ∈ c, r.length = width ∧ ∀ x ∈ r, x < 65536) (hwd0 : 0 < width) (hwd : width ≤ 100) (hat : at' < 65536) (w : World) (hrd : RdRows w a c) :
  Calls Tryz.prog 74 #[.slice a c.length cap, .int .i64 (at' : Int)] w fun e w' => ∃ v, e = .returned v ∧ w'.ownsRow w.heap.size 80 1 v width (u16V (valueL c at' width)) ∧ Below w.heap.size w w' := by
 obtain ⟨i0, hi, hz0, hz1, hz2⟩ := info_parts Tryz.info16
 obtain ⟨b1, off1, a3, c3, rfl, hcr0, _⟩ := hrd 0 c[0] (List.getElem?_eq_getElem h0)
 rw [(hw c[0] (List.getElem_mem h0)).1, Nat.add_zero] at hcr0
 have HRD := hid_of hrd
 have hlt' : ∀ r ∈ c, ∀ x ∈ r, x < 65536 := fun r hr => (hw r hr).2
 have HLT := hid_of hlt'
 have HW := hid_of (fun r hr => (hw r hr).1)
 clear hrd hlt' hw
 go_enter Tryz.func74, Tryz.ntmps74
 go_wp2_with (at_make; refine wpList_make_full _ rfl _ _ 121 rfl w.heap.size 80 i0 (.int .u16 0) 1 Tryz.underlying121 hi hz0 hz1 .i64 .i64 _ _ width rfl rfl rfl rfl ?c1 ?c2 (Nat.le_refl _) ?_)
 case c1 => rw [hz2]; omega
 case c2 => unfold maxLen; omega
 intro w1 hown1 hg1
 have hb1 : Below w.heap.size w w1 := (Below.refl _ w).grown hg1 (Nat.le_refl _) (by simp)
 have hown1' : Row w1 w.heap.size w.heap.size width (valueGo c at' width 0) := by
  unfold Row
  rw [valueGo_length, valueGo]
  simpa [u16V, toList_madeCells_one] using hown1
 have HO1 := hid_of hown1'
 have HB1 := hid_of hb1
 obtain ⟨g, hg⟩ : ∃ g, g = w.heap.size := ⟨_, rfl⟩
 have HG := hid_of hg
 rw [← hg] at HO1 ⊢
 clear hown1 hown1' hb1 hg1 hg
 go_wp2_with fail
 go_loopw [6] (fun i wr => ∃ k : Nat, k ≤ c.length ∧ i = .int .i64 ((c.length : Int) - 1 - (k : Int)) ∧ Row wr g g width (valueGo c at' width k) ∧ Below g w wr)
  (fun i _ => (intOf i + 1).toNat)
 case atStart => exact ⟨0, by omega, by simp, HO1.out, by rw [HG.out]; exact HB1.out⟩
 case round =>
  clear HO1 HB1
  obtain ⟨k, hk, rfl, hownr, hbl⟩ := hrel
  by_cases hlt : k < c.length
  ·obtain ⟨j, hj⟩ : ∃ j, j = c.length - 1 - k := ⟨_, rfl⟩
   have hjl : j < c.length := by omega
   have ej : (c.length : Int) - 1 - (k : Int) = (j : Int) := by omega
   rw [ej]
   obtain ⟨b2, off2, a4, c4, e2, hcr, hrow⟩ := HRD.out j c[j] (List.getElem?_eq_getElem hjl)
   cases e2
   have hrl := HW.out c[j] (List.getElem_mem hjl)
   have hrx := HLT.out c[j] (List.getElem_mem hjl)
   rw [hrl] at hcr
   have hcr' : wr.cell? ⟨b1, off1 + j, none⟩ = some (.slice a4 width c4) := by
    rw [hbl.cell (by rw [HG.out]; exact World.block_lt_of_cell? w _ hcr)]; exact hcr
   have hap : ∀ c', a4 = some c' → c'.block ≠ g := by
    intro c' hc'
    have := Rd.block_lt hrow (by omega) c' hc'
    rw [HG.out]; omega
   have hrow' : Rd wr a4 (u16V c[j]) := hrow.later (by rw [HG.out]; exact Nat.le_refl _) hbl
   have hstep : raddL (rscaleL (valueGo c at' width k) at') c[j] 1 = valueGo c at' width (k + 1) := by
    rw [valueGo, ← hj]
    congr 1
    simp [hjl]
   have hvl := valueGo_lt HLT.out at' width k
   have hlen := valueGo_length c at' width k
   obtain ⟨v0, hv0⟩ : ∃ v, v = valueGo c at' width k := ⟨_, rfl⟩
   obtain ⟨cj, hcj⟩ : ∃ v, v = c[j] := ⟨_, rfl⟩
   rw [← hv0] at hownr hstep hvl hlen
   rw [← hcj] at hrow' hstep hrl hrx
   have HS := hid_of hstep
   have HO := hid_of hownr
   have HB := hid_of hbl
   have HR := hid_of hrow'
   have HAP := hid_of hap
   have HVL := hid_of hvl
   have HRX := hid_of hrx
   have HJ := hid_of hj
   have hcs : ∀ W, wr.grownBy W (some g) → W.cell? ⟨b1, off1 + j, none⟩ = some (.slice a4 width c4) := by
    intro W hW
    refine hW.cell hcr' ?_
    intro e
    have := World.block_lt_of_cell? w _ hcr
    simp at e this
    have := HG.out
    omega
   have HCS := hid_of hcs
   clear hv0 hcj hstep hownr hbl hrow hrow' hap hvl hrx hcr hj hcs ej
   have SC := hid_of (rscale_walk v0 at' g g width wr HO.out (by omega) HVL.out hat)
   rw [hlen] at SC
   have wat : IntKind.u16.wrap (at' : Int) = (at' : Int) := by rw [IntKind.wrap_u16]; omega
   go_wp2_with fail
   refine SC.out.mono ?_
   rintro e w2 ⟨rfl, hown2, hg2⟩
   have hc2 := HCS.out w2 hg2
   have hr2 : Rd w2 a4 (u16V cj) := by
    intro q u hq
    obtain ⟨b3, off3, e3, h3⟩ := HR.out q u hq
    refine ⟨b3, off3, e3, hg2.cell h3 ?_⟩
    intro e
    exact HAP.out _ e3 (by simpa using e)
   have AD := hid_of (radd_walk (rscaleL v0 at') cj 1 g g width a4 width c4 w2 hown2 (by rw [scaleL_length]; omega) (rscaleL_lt HVL.out) (by omega) hrl (by rw [scaleL_length]; omega) hr2 HAP.out HRX.out)
   rw [scaleL_length, hlen] at AD
   have HO2 := hid_of hown2
   have HG2 := hid_of hg2
   have HR2 := hid_of hr2
   clear hown2 hg2 hr2
   go_wp2_with fail
   refine AD.out.mono ?_
   rintro e w3 ⟨rfl, hown3, hg3⟩
   have hbl3 : Below g w w3 := (HB.out.grown (HG2.out.trans hg3) (by rw [HG.out]; exact HB.out.size) (by intro k hk; cases hk; exact Nat.le_refl _))
   rw [HS.out] at hown3
   have HO3 := hid_of hown3
   have HB3 := hid_of hbl3
   clear hown3 hbl3 hg3
   go_wp2_with fail
   refine ⟨⟨k + 1, by omega, ?_, HO3.out, HB3.out⟩, ?_⟩
   ·have := HJ.out
    congr 1
    omega
   ·have := HJ.out
    simp [intOf]
  ·obtain rfl : k = c.length := by omega
   have HO := hid_of hownr
   have HB := hid_of hbl
   clear hownr hbl
   go_wp2_with fail
   go_ret
   rw [← HG.out]
   refine ⟨_, rfl, ?_, HB.out⟩
   have := HO.out
   unfold Row at this
   rw [valueGo_length] at this
   exact this
end Go.Proofs.YtonjphollmdicaaGreatDoor
namespace Go.Proofs.YtonjphollmdicaaGreatDoor
open Math
def colF (c : List (List Nat)) (p : Nat) : List F := c.map fun r => F.ofNat (r.getD p 0)
theorem valueGo_ev (c : List (List Nat)) (t width p : Nat) (hp : p < width) (ht : t < 65536) (hc : ∀ r ∈ c, ∀ x ∈ r, x < 65536) (_hl : ∀ r ∈ c, r.length = width) :
  ∀ k, k ≤ c.length → F.ofNat ((valueGo c t width k).getD p 0) = ev ((colF c p).drop (c.length - k)) (F.ofNat t) := by
 intro k
 induction k with
 | zero =>
  intro _
  rw [Nat.sub_zero, List.drop_eq_nil_of_le (by simp [colF])]
  simp only [valueGo, ev]
  simp [hp]
  rfl
 | succ k ih =>
  intro hk
  have hv := valueGo_lt hc t width k
  have hvl := valueGo_length c t width k
  have h1 : (valueGo c t width (k + 1)).getD p 0 = (rscaleL (valueGo c t width k) t).getD p 0 ^^^ Math.mul ((c.getD (c.length - 1 - k) []).getD p 0) 1 := by
   simp only [valueGo, raddL]
   rw [List.getD_eq_getElem?_getD, List.getElem?_map, List.getElem?_range (by rw [scaleL_length, hvl]; exact hp)]
   rfl
  have h2 : (rscaleL (valueGo c t width k) t).getD p 0 = Math.mul ((valueGo c t width k).getD p 0) t := by
   simp only [rscaleL]
   rw [List.getD_eq_getElem?_getD, List.getElem?_map, List.getElem?_range (by rw [hvl]; exact hp)]
   rfl
  have hj : c.length - 1 - k < (colF c p).length := by simp [colF]; omega
  have h3 : (colF c p).drop (c.length - (k + 1)) = F.ofNat ((c.getD (c.length - 1 - k) []).getD p 0) :: (colF c p).drop (c.length - k) := by
   rw [show c.length - (k + 1) = c.length - 1 - k from by omega, List.drop_eq_getElem_cons hj, show c.length - 1 - k + 1 = c.length - k from by omega]
   congr 1
   have hj' : c.length - 1 - k < c.length := by omega
   simp [colF, hj']
  have hx := getD_lt (rows_getD_lt hc (c.length - 1 - k)) p
  rw [h1, h2, h3, Math.mul_one hx, add_ofNat (Math.mul_lt (getD_lt hv p) t) hx, mul_ofNat (getD_lt hv p) ht, ih (by omega)]
  simp only [ev]
  rw [F.add_comm, F.mul_comm]
def pt (i : Nat) : F := F.ofNat i
theorem curve_value (pts : List Nat) (rows ys : List (List Nat)) (width t : Nat) (hnd : pts.Nodup) (hp : ∀ x ∈ pts, x < 65536) (ht : t < 65536) (hl : rows.length = pts.length) (hys : ys.length = pts.length)
  (hr : ∀ r ∈ rows, r.length = width ∧ ∀ x ∈ r, x < 65536) (hy : ∀ r ∈ ys, r.length = width ∧ ∀ x ∈ r, x < 65536)
  (hsol : ∀ i, i < pts.length → ∀ p, p < width → ev (colF ys p) (qt pts i) = F.ofNat ((rows.getD i []).getD p 0)) :
  valueL ys t width = mixL rows (weightsL pts (scalesL pts) t) width := by
 have hws := weights_lt pts (scalesL pts) t (scales_lt pts)
 have hv := valueGo_lt (fun r hr => (hy r hr).2) t width ys.length
 refine row_ext (by rw [mix_len]; exact valueGo_length _ _ _ _) hv (mix_lt rows hws width) (fun p hpw => ?_)
 rw [mix_len] at hpw
 have b1 := valueGo_ev ys t width p hpw ht (fun r hr => (hy r hr).2) (fun r hr => (hy r hr).1) ys.length (Nat.le_refl _)
 rw [Nat.sub_self, List.drop_zero] at b1
 rw [curve_at pts rows width t p hnd hp ht hl (fun r hr' => (hr r hr').2) hpw (colF ys p) (by simp [colF, hys]) (fun i hi => hsol i hi p hpw), ← b1]
 rfl
theorem extra_value (rows ys : List (List Nat)) (width j : Nat) (hK : rows.length ≤ 1000) (hj : j ≤ 1000) (hys : ys.length = rows.length)
  (hr : ∀ r ∈ rows, r.length = width ∧ ∀ x ∈ r, x < 65536) (hy : ∀ r ∈ ys, r.length = width ∧ ∀ x ∈ r, x < 65536)
  (hsol : ∀ i, i < rows.length → ∀ p, p < width → ev (colF ys p) (pt i) = F.ofNat ((rows.getD i []).getD p 0)) :
  valueL ys (rows.length + j) width = extraL rows width j := by
 have hpl : (pointsL rows.length).length = rows.length := by simp [pointsL]
 exact curve_value (pointsL rows.length) rows ys width (rows.length + j) List.nodup_range (points_lt _ hK) (by omega) hpl.symm (by rw [hpl]; exact hys) hr hy (fun i hi p hp => by
  rw [hpl] at hi
  have : qt (pointsL rows.length) i = pt i := by unfold qt pt pointsL; simp [hi]
  rw [this]
  exact hsol i hi p hp)
end Go.Proofs.YtonjphollmdicaaGreatDoor
