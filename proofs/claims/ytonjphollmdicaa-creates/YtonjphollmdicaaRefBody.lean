import Derived.Test.YtonjphollmdicaaRefSlices
namespace Go.Proofs.Ytonjphollmdicaa
open Go.ChangeShapes Go.WideShapes Go.ChangeAt Go.RowKit

theorem keep2 {w0 W W' : World} {B : Nat} {a b : Addr} {x y : Value} (h : W.cell? a = some x ∧ W.cell? b = some y ∧ Below B w0 W) (hB : B ≤ w0.heap.size) (hb : Below W.heap.size W W') : W'.cell? a = some x ∧ W'.cell? b = some y ∧ Below B w0 W' := by
  obtain ⟨h1, h2, h3⟩ := h
  have hs := h3.size
  exact ⟨by rw [hb.cell (World.block_lt_of_cell? W _ h1)]; exact h1, by rw [hb.cell (World.block_lt_of_cell? W _ h2)]; exact h2, h3.trans (hb.mono (by omega))⟩

set_option maxRecDepth 100000 in
set_option maxHeartbeats 4000000 in
theorem rfileBody_walk (i : Nat) (f : FileL) (size : Nat) (hi : i ≤ 100) (hf1 : f.1.length ≤ 100) (hf2 : f.2.length ≤ 400) (h0 : 0 < size) (h1 : size ≤ 32) (w : World) :
    Calls Try.prog 29 #[.int .i64 (i : Int), .agg #[.string (str f.1), .string (str f.2)], .int .i64 (size : Int)] w fun e w' => e = .returned (.string (str (fileBodyL i f.1 f.2 (cutL f.2 size)))) ∧ Below w.heap.size w w' := by
  obtain ⟨name, data⟩ := f
  simp only at hf1 hf2 ⊢
  have n1 := str_size name
  have n2 := str_size data
  have c1 : (w.alloc (.cells #[.string (str name), .string (str data)] 43)).cell? ⟨w.heap.size, 0, none⟩ = some (.string (str name)) := by simp
  have c2 : (w.alloc (.cells #[.string (str name), .string (str data)] 43)).cell? ⟨w.heap.size, 1, none⟩ = some (.string (str data)) := by simp
  have hb0 : Below w.heap.size w (w.alloc (.cells #[.string (str name), .string (str data)] 43)) := (Below.refl _ _).alloc (Nat.le_refl _) _
  have H1 : Hid (∀ W : World, Calls Try.prog 28 #[.int .u64 (i : Int), .int .i64 1] W fun e w' => e = .returned (.string (str (numBytes i 1))) ∧ Below W.heap.size W w') := hid_of (fun W => rBytes_walk 1 i W (by omega) (by unfold P64; omega))
  have H2 : Hid (∀ W : World, Calls Try.prog 28 #[.int .u64 (name.length : Int), .int .i64 1] W fun e w' => e = .returned (.string (str (numBytes name.length 1))) ∧ Below W.heap.size W w') := hid_of (fun W => rBytes_walk 1 name.length W (by omega) (by unfold P64; omega))
  have H3 : Hid (∀ W : World, Calls Try.prog 28 #[.int .u64 (data.length : Int), .int .i64 2] W fun e w' => e = .returned (.string (str (numBytes data.length 2))) ∧ Below W.heap.size W w') := hid_of (fun W => rBytes_walk 2 data.length W (by omega) (by unfold P64; omega))
  have H4 : Hid (∀ W : World, Calls Try.prog 28 #[.int .u64 ((hashL data : Nat) : Int), .int .i64 8] W fun e w' => e = .returned (.string (str (numBytes (hashL data) 8))) ∧ Below W.heap.size W w') := hid_of (fun W => rBytes_walk 8 (hashL data) W (by omega) (hashL_lt data))
  have H5 := hid_of (fun W => rHash_l data (by omega) W)
  have wi : IntKind.u64.wrap (i : Int) = (i : Int) := by rw [IntKind.wrap_u64]; omega
  have wn : IntKind.u64.wrap (name.length : Int) = (name.length : Int) := by rw [IntKind.wrap_u64]; omega
  have wd : IntKind.u64.wrap (data.length : Int) = (data.length : Int) := by rw [IntKind.wrap_u64]; omega
  have s1 : (str (numBytes i 1)).size = 1 := by rw [str_size, numBytes_len]
  have s2 : (str (numBytes name.length 1)).size = 1 := by rw [str_size, numBytes_len]
  have s3 : (str (numBytes data.length 2)).size = 2 := by rw [str_size, numBytes_len]
  have s4 : (str (numBytes (hashL data) 8)).size = 8 := by rw [str_size, numBytes_len]
  obtain ⟨p1, hp1⟩ : ∃ p, p = numBytes i 1 ++ numBytes name.length 1 := ⟨_, rfl⟩
  have e1 : str (numBytes i 1) ++ str (numBytes name.length 1) = str p1 := by rw [hp1]; exact strs _ _
  have z1 : (str p1).size = 2 := by rw [str_size, hp1]; simp [numBytes_len]
  obtain ⟨p2, hp2⟩ : ∃ p, p = p1 ++ name := ⟨_, rfl⟩
  have e2 : str p1 ++ str name = str p2 := by rw [hp2]; exact strs _ _
  have z2 : (str p2).size = 2 + name.length := by rw [str_size, hp2, hp1]; simp [numBytes_len]; omega
  obtain ⟨p3, hp3⟩ : ∃ p, p = p2 ++ numBytes data.length 2 := ⟨_, rfl⟩
  have e3 : str p2 ++ str (numBytes data.length 2) = str p3 := by rw [hp3]; exact strs _ _
  have z3 : (str p3).size = 4 + name.length := by rw [str_size, hp3, hp2, hp1]; simp [numBytes_len]; omega
  obtain ⟨p4, hp4⟩ : ∃ p, p = p3 ++ numBytes (hashL data) 8 := ⟨_, rfl⟩
  have e4 : str p3 ++ str (numBytes (hashL data) 8) = str p4 := by rw [hp4]; exact strs _ _
  have hhead : p4 = fileHeadL i name data := by rw [hp4, hp3, hp2, hp1]; rfl
  have HH := hid_of hhead
  obtain ⟨hv, hhv⟩ : ∃ x, x = hashL data := ⟨_, rfl⟩
  rw [← hhv] at H4 H5 s4 e4
  clear hhead hp1 hp2 hp3 hp4 hhv
  have q2 : ¬ 9223372036854775807 < 2 + name.length := by omega
  have q3 : ¬ 9223372036854775807 < 2 + name.length + 2 := by omega
  have q4 : ¬ 9223372036854775807 < 4 + name.length + 8 := by omega
  have r2 : ¬ 9223372036854775805 < name.length := by omega
  have r3 : ¬ 9223372036854775803 < name.length := by omega
  have r4 : ¬ 9223372036854775795 < name.length := by omega
  have q3' : ¬ 9223372036854775805 < 2 + name.length := by omega
  have q4' : ¬ 9223372036854775799 < 4 + name.length := by omega
  go_enter Try.func29, Try.ntmps29
  go_wp2_with fail
  go_region_held (fun W => W.cell? ⟨w.heap.size, 0, none⟩ = some (.string (str name)) ∧ W.cell? ⟨w.heap.size, 1, none⟩ = some (.string (str data)) ∧ Below w.heap.size w W)
    (first | assumption | (refine keep2 ?_ (Nat.le_refl _) hb; assumption) | exact ⟨c1, c2, hb0⟩ | exact ⟨c1, c2, hb0.drew⟩)
    (first | (go_at_call 28; first | with_reducible refine (H1.out _).mono ?_ | with_reducible refine (H2.out _).mono ?_ | with_reducible refine (H3.out _).mono ?_ | with_reducible refine (H4.out _).mono ?_
              rintro e w' ⟨rfl, hb⟩)
           | (go_at_call 30; refine (H5.out _).mono ?_; rintro e w' ⟨rfl, rfl⟩))
  obtain ⟨d1, d2, d3⟩ : w'.cell? ⟨w.heap.size, 0, none⟩ = some (.string (str name)) ∧ w'.cell? ⟨w.heap.size, 1, none⟩ = some (.string (str data)) ∧ Below w.heap.size w w' := by assumption
  have hw' := d3.size
  have D3 := hid_of d3
  have hLen : (fileBodyL i name data (cutL data size)).length ≤ 4000 := by
    unfold fileBodyL
    rw [List.length_append, hashesL_len, List.length_map, (cutL_len data size h0).1, ← HH.out]
    have := slicesOfN_le data.length size h0
    have hz : (str p4).size = 12 + name.length := by rw [← e4, ByteArray.size_append, z3, s4]; omega
    rw [str_size] at hz
    omega
  have hss : ∀ t ∈ cutL data size, t.length ≤ 1000 := fun t ht => by rw [(cutL_len data size h0).2 t ht]; omega
  have hcl : (cutL data size).length ≤ 400 := by rw [(cutL_len data size h0).1]; have := slicesOfN_le data.length size h0; omega
  have hcs := (cutL_len data size h0).1
  have hz4 : (str p4).size ≤ 400 := by rw [← e4, ByteArray.size_append, z3, s4]; omega
  clear c1 c2 hb0 H1 H2 H3 H4 H5 wi wn wd s1 s2 s3 s4 e1 e2 e3 e4 z1 z2 z3 q2 q3 q4 r2 r3 r4 q3' q4' d1 d3
  go_wp2_with fail
  refine (rSlices_walk data size h0 h1 hf2 w').mono ?_
  rintro e w2 ⟨v2, rfl, hown2, hb2⟩
  rw [← hcs] at hown2
  obtain ⟨ss, hse⟩ : ∃ x, x = cutL data size := ⟨_, rfl⟩
  rw [← hse] at hown2 hss hcl hLen
  have HSE := hid_of hse
  obtain ⟨av, cv, rfl, _, _, hrd⟩ := ownsRow_rd hown2
  have hbl2 : Below w.heap.size w w2 := D3.out.trans (hb2.mono hw')
  have HB2 := hid_of hbl2
  have HRD := hid_of hrd
  have hsz2 : w.heap.size ≤ w2.heap.size := hbl2.size
  clear hown2 hb2 hbl2 D3 d2 hcs hse hrd
  go_wp2_with fail
  go_loopw [7, 9] (fun s i wr => ∃ k : Nat, k ≤ ss.length ∧ s = .string (str (p4 ++ hashesL ((ss.take k).map hashL))) ∧ i = .int .i64 (k : Int) ∧ Below w2.heap.size w2 wr)
    (fun _ i _ => ss.length - (intOf i).toNat)
  case atStart => exact ⟨0, by omega, by simp [hashesL], rfl, Below.refl _ _⟩
  case round =>
    obtain ⟨k, hk, rfl, rfl, hbl⟩ := hrel
    have hsz := hbl.size
    have hps : p4.length ≤ 400 := by rw [← str_size]; exact hz4
    by_cases hlt : k < ss.length
    · obtain ⟨b, off, rfl, hc⟩ := (HRD.out.later (Nat.le_refl _) hbl) k (.string (str ss[k])) (by simp [strV, hlt])
      have htl := hss ss[k] (List.getElem_mem hlt)
      have hl0 : (str (p4 ++ hashesL ((ss.take k).map hashL))).size ≤ 4000 := by
        rw [str_size, List.length_append, hashesL_len, List.length_map, List.length_take]
        omega
      have e1 : str (p4 ++ hashesL ((ss.take k).map hashL)) ++ str (numBytes (hashL ss[k]) 8) = str (p4 ++ hashesL ((ss.take (k + 1)).map hashL)) := by
        rw [strs, take_snoc ss k hlt, List.map_append, List.map_cons, List.map_nil, hashesL_snoc, List.append_assoc]
      have hl8 : (str (numBytes (hashL ss[k]) 8)).size = 8 := by rw [str_size, numBytes_len]
      have H1 := hid_of (fun W => rHash_l ss[k] (by omega) W)
      have H2 := hid_of (fun W => rBytes_walk 8 (hashL ss[k]) W (by omega) (hashL_lt _))
      obtain ⟨t, ht⟩ : ∃ x, x = ss[k] := ⟨_, rfl⟩
      rw [← ht] at hc htl e1 hl8 H1 H2
      obtain ⟨hv, hhv⟩ : ∃ x, x = hashL t := ⟨_, rfl⟩
      rw [← hhv] at e1 hl8 H1 H2
      have E1 := hid_of e1
      obtain ⟨s0, hs0⟩ : ∃ x, x = p4 ++ hashesL ((ss.take k).map hashL) := ⟨_, rfl⟩
      rw [← hs0] at E1 hl0 ⊢
      have HB := hid_of hbl
      clear ht hhv hs0 e1 hbl
      go_wp2_with fail
      refine (H1.out wr).mono ?_
      rintro e w3 ⟨rfl, rfl⟩
      go_wp2_with fail
      refine (H2.out _).mono ?_
      rintro e w3 ⟨rfl, hb3⟩
      go_wp2_with fail
      exact ⟨⟨k + 1, by omega, by rw [E1.out], by go_num, HB.out.trans (hb3.mono hsz)⟩, by simp [intOf]; omega⟩
    · obtain rfl : k = ss.length := by omega
      have hfin : p4 ++ hashesL ((ss.take ss.length).map hashL) = fileBodyL i name data (cutL data size) := by
        rw [List.take_length, HH.out, HSE.out]
        rfl
      have HFIN := hid_of hfin
      have HBL := hid_of hbl
      clear hfin hbl
      obtain ⟨s0, hs0⟩ : ∃ x, x = p4 ++ hashesL ((ss.take ss.length).map hashL) := ⟨_, rfl⟩
      rw [← hs0] at HFIN ⊢
      clear hs0
      go_wp2_with fail
      go_ret
      refine ⟨?_, HB2.out.trans (HBL.out.mono hsz2)⟩
      rw [← HFIN.out]
      rfl
end Go.Proofs.Ytonjphollmdicaa
