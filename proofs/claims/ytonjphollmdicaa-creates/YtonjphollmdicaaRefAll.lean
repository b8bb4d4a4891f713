import Derived.Test.YtonjphollmdicaaRefSet
import Derived.Deep.RegionHeld
import Derived.Deep.RegionHeldLaw
import Derived.Laws.AppendOwnNone
namespace Go.Proofs.Ytonjphollmdicaa
open Go.ChangeShapes Go.WideShapes Go.ChangeAt Go.RowKit

set_option maxRecDepth 100000 in
theorem rslice_walk (r : List Nat) (a : Option Addr) (cap : Nat) (hr : r.length ≤ 1000) (hx : ∀ x ∈ r, x < 65536) (w : World) (hrd : Rd w a (u16V r)) :
    Calls Try.prog 34 #[.slice a r.length cap] w fun e w' => e = .returned (.string (str (textL r))) ∧ Below w.heap.size w w' := by
  go_enter Try.func34, Try.ntmps34
  go_wp2_with fail
  go_loopw [3, 4] (fun s i wr => ∃ k : Nat, k ≤ r.length ∧ s = .string (str (textL (r.take k))) ∧ i = .int .i64 (k : Int) ∧ Below w.heap.size w wr)
    (fun _ i _ => r.length - (intOf i).toNat)
  case atStart => exact ⟨0, by omega, rfl, rfl, Below.refl _ _⟩
  case round =>
    obtain ⟨k, hk, rfl, rfl, hbl⟩ := hrel
    have hsz := hbl.size
    by_cases hlt : k < r.length
    · obtain ⟨b, off, rfl, hc0⟩ := u16_get hrd k (by omega)
      have hc : wr.cell? ⟨b, off + k, none⟩ = some (.int .u16 ((r.getD k 0 : Nat) : Int)) := by
        rw [hbl.cell (World.block_lt_of_cell? w _ hc0)]; exact hc0
      have hxl := getD_lt hx k
      have hs1 : (str (textL (r.take k))).size ≤ 2000 := by rw [str_size, textL_len, List.length_take]; omega
      have e : textL (r.take (k + 1)) = textL (r.take k) ++ numBytes (r.getD k 0) 2 := by
        rw [take_snoc r k hlt, textL_snoc]
        congr 2
        simp [hlt]
      have e2 : str (textL (r.take k)) ++ str (numBytes (r.getD k 0) 2) = str (textL (r.take (k + 1))) := by rw [strs, e]
      have hs2 : (str (numBytes (r.getD k 0) 2)).size = 2 := by rw [str_size, numBytes_len]
      obtain ⟨x, hxe⟩ : ∃ x, x = r.getD k 0 := ⟨_, rfl⟩
      rw [← hxe] at hc hxl e2 hs2
      obtain ⟨s0, hs0⟩ : ∃ x, x = textL (r.take k) := ⟨_, rfl⟩
      rw [← hs0] at e2 hs1 ⊢
      have HE2 := hid_of e2
      have HB := hid_of hbl
      have HRD := hid_of hrd
      have HX := hid_of hx
      clear e e2 hxe hs0 hbl hrd hx hc0
      go_wp2_with fail
      refine (rBytes_walk 2 x wr (by omega) (by unfold P64; omega)).mono ?_
      rintro e w1 ⟨rfl, hb1⟩
      go_wp2_with fail
      exact ⟨⟨k + 1, by omega, by rw [HE2.out], by go_num, HB.out.trans (hb1.mono hsz)⟩, by simp [intOf]; omega⟩
    · obtain rfl : k = r.length := by omega
      go_wp2_with fail
      go_ret
      exact ⟨by first | rfl | (rw [List.take_length]; rfl), hbl⟩

theorem slicesL_snoc (size : Nat) (fs : List FileL) (k : Nat) (h : k < fs.length) : slicesL size (fs.take (k + 1)) = slicesL size (fs.take k) ++ cutL fs[k].2 size := by
  unfold slicesL
  rw [take_snoc fs k h, List.flatMap_append]
  simp

theorem slicesL_len (size : Nat) (fs : List FileL) (h0 : 0 < size) : (slicesL size fs).length = countL fs size := by
  have := rowsL_count size fs h0
  simpa [rowsL] using this

theorem countL_snoc (size : Nat) (fs : List FileL) (k : Nat) (h : k < fs.length) : countL (fs.take (k + 1)) size = countL (fs.take k) size + slicesOfN fs[k].2.length size := by
  unfold countL
  rw [take_snoc fs k h, List.map_append, List.sum_append]
  rfl


/-- a row of the call's own and another one behind it -/
theorem own_apart {W W' : World} {b b' : Nat} {e : TypeId} {s s' : Nat} {v v' : Value} {n n' : Nat} {xs xs' : List Value} (h : W.ownsRow b e s v n xs) (hlt : W.heap.size ≤ b') (h' : W'.ownsRow b' e s' v' n' xs') : v.ownBlock = none ∨ v.ownBlock ≠ v'.ownBlock := by
  rcases h.2 with ⟨rfl, _⟩ | ⟨g, cap, cur, rfl, hg, hc, _⟩
  · exact Or.inl rfl
  · right
    have : g < W.heap.size := by
      rw [Array.getElem?_eq_some_iff] at hc
      exact hc.1
    rcases h'.2 with ⟨rfl, _⟩ | ⟨g', cap', cur', rfl, hg', _⟩
    · simp [Value.ownBlock]
    · simp [Value.ownBlock]; omega

set_option maxRecDepth 100000 in
theorem rall_of (hS : ∀ (data : List UInt8) (size : Nat), 0 < size → size ≤ 32 → data.length ≤ 400 → ∀ w : World,
    Calls Try.prog 53 #[.string (str data), .int .i64 (size : Int)] w fun e w' => ∃ v', e = .returned v' ∧ w'.ownsRow w.heap.size 9 1 v' (slicesOfN data.length size) (strV (cutL data size)) ∧ Below w.heap.size w w')
    (fs : List FileL) (size : Nat) (a : Option Addr) (cap : Nat) (h0 : 0 < size) (h1 : size ≤ 32) (hn : fs.length ≤ 6) (hf : ∀ f ∈ fs, f.2.length ≤ 400) (w : World) (hrd : Rd w a (filesV fs)) :
    Calls Try.prog 27 #[.slice a fs.length cap, .int .i64 (size : Int)] w fun e w' => ∃ v', e = .returned v' ∧ w'.ownsRow w.heap.size 9 1 v' (countL fs size) (strV (slicesL size fs)) ∧ Below w.heap.size w w' := by
  obtain ⟨i0, hi, hz0, hz1, hz2⟩ := info_parts Try.infoS
  have HS := hid_of hS
  clear hS
  go_enter Try.func27, Try.ntmps27
  go_wp2_with fail
  go_loopw [5, 6, 7] (fun l i _ wr => ∃ k : Nat, k ≤ fs.length ∧ i = .int .i64 (k : Int) ∧ wr.ownsRow w.heap.size 9 1 l (countL (fs.take k) size) (strV (slicesL size (fs.take k))) ∧ Below w.heap.size w wr)
    (fun _ i _ _ => fs.length - (intOf i).toNat)
  case atStart => exact ⟨0, by omega, rfl, World.ownsRow_nil _ _ _ _, Below.refl _ _⟩
  case round =>
    obtain ⟨k, hk, rfl, hownr, hbl⟩ := hrel
    have hsz := hbl.size
    by_cases hlt : k < fs.length
    · obtain ⟨b, off, rfl, hc1, hc2⟩ := fileCells hrd (Nat.le_refl _) hbl k hlt
      have hdl := hf fs[k] (List.getElem_mem hlt)
      have ecount := countL_snoc size fs k hlt
      have eslices := slicesL_snoc size fs k hlt
      have hsl := slicesOfN_le fs[k].2.length size h0
      have hcl : countL (fs.take k) size ≤ 2400 := by
        have h2 := rowsL_len size (fs.take k) h0 (fun f hf' => hf f (List.mem_of_mem_take hf'))
        rw [rowsL_count size _ h0, List.length_take] at h2
        omega
      obtain ⟨data, hdata⟩ : ∃ x, x = fs[k].2 := ⟨_, rfl⟩
      rw [← hdata] at hc2 hdl ecount eslices hsl
      obtain ⟨m, hm⟩ : ∃ x, x = slicesOfN data.length size := ⟨_, rfl⟩
      obtain ⟨c0, hc0⟩ : ∃ x, x = countL (fs.take k) size := ⟨_, rfl⟩
      rw [← hm] at ecount hsl
      rw [← hc0] at ecount hcl hownr
      have HM := hid_of hm
      have HEC := hid_of ecount
      have HES := hid_of eslices
      have HRD := hid_of hrd
      have HF := hid_of hf
      have HB := hid_of hbl
      have HO := hid_of hownr
      clear hdata hm hc0 ecount eslices hrd hf hc1
      go_wp2_with fail
      refine (HS.out data size h0 h1 hdl wr).mono ?_
      rintro e w1 ⟨v1, rfl, hown1, hb1⟩
      rw [← HM.out] at hown1
      have hownr1 := ownsRow_later HO.out (Nat.le_refl _) hb1
      have hbl1 : Below w.heap.size w w1 := HB.out.trans (hb1.mono hsz)
      have hsz1 := hbl1.size
      have hap := own_apart HO.out (Nat.le_refl _) hown1
      rcases hown1.2 with ⟨rfl, hm0⟩ | ⟨g, c1, cur, rfl, hg, hcur, hmc, hcm, hcs, htk⟩
      · have hcut : cutL data size = [] := by
          have := hown1.1
          rw [hm0] at this
          simpa [strV] using this
        have HCUT := hid_of hcut
        have HB1 := hid_of hbl1
        have HO1 := hid_of hownr1
        clear hown1 hb1 hbl hbl1 hcut hap
        go_wp2_with (at_builtin; refine wpList_append_own_none rfl (.tmp 21) (.tmp 22) 28 rfl w.heap.size 9 i0 1 Try.underlying28 hi _ _ _ rfl HO1.out rfl ?_)
        refine ⟨⟨k + 1, by omega, by go_num, ?_, HB1.out⟩, by simp [intOf]; omega⟩
        rw [HEC.out, hm0, HES.out, HCUT.out, List.append_nil]
        exact HO1.out
      · have HB1 := hid_of hbl1
        have HO1 := hid_of hownr1
        have H1 := hid_of hown1
        clear hown1 hb1 hbl hbl1 hownr hownr1 hcur htk hcs
        go_wp2_with (at_builtin; refine wpList_append_own _ rfl (.tmp 21) (.tmp 22) 28 rfl w.heap.size 9 i0 (.string ByteArray.empty) 1 16 Try.underlying28 hi hz0 hz1 hz2 rfl (by decide) _ _ _ rfl HO1.out ⟨g, 0, none⟩ m c1 (strV (cutL data size)) rfl ?d1 ?d0 ?d2 ?d3 ?d4 ?d5 ?_)
        case d1 => exact H1.out.1
        case d0 => intro j u hj; exact H1.out.cells (g := g) rfl j u hj
        case d2 => intro u hu; simp only [strV, List.mem_map] at hu; obtain ⟨x, _, rfl⟩ := hu; rfl
        case d3 => unfold maxLen; omega
        case d4 => omega
        case d5 => omega
        intro v2 w2 hown2 hg2 _
        have hbl2 := below_grown HB1.out hsz1 HO1.out hg2
        go_wp2_with fail
        refine ⟨⟨k + 1, by omega, by go_num, ?_, hbl2⟩, by simp [intOf]; omega⟩
        rw [HEC.out, HES.out, strV_append]
        exact hown2
    · obtain rfl : k = fs.length := by omega
      rw [List.take_length] at hownr
      go_wp2_with fail
      go_ret
      exact ⟨_, rfl, hownr, hbl⟩
end Go.Proofs.Ytonjphollmdicaa
