import Derived.Test.YtonjphollmdicaaGreatDoorB00
import Derived.Deep.RegionWith
import Derived.BigRegion
import Derived.Shelf.Strings.Repeat
import Derived.Test.YtonjphollmdicaaGreatDoorProg
set_option maxRecDepth 100000
set_option maxHeartbeats 4000000
set_option linter.unusedSimpArgs false
namespace Go.Proofs.YtonjphollmdicaaGreatDoor
open Go.ChangeShapes Go.WideShapes Go.ChangeAt Go.RowKit
def Cz (l : List Nat) : List Value := l.map fun (n : Nat) => Value.int .u64 (n : Int)
def AM (l : List (List UInt8)) : List Value := l.map fun x => Value.string (str x)
def Bi (hs : List Nat) : List UInt8 := hs.flatMap fun h => Af h 8
def E6 (size : Nat) (hs : List Nat) : List UInt8 := Af size 2 ++ Af hs.length 1 ++ Bi hs
theorem Fl (l : List Nat) (h : Nat) : Bi (l ++ [h]) = Bi l ++ Af h 8 := by simp [Bi]
theorem Ap {α : Type} (l : List α) (k : Nat) (h : k < l.length) : l.take (k + 1) = l.take k ++ [l[k]] := by
 rw [List.take_add_one, List.getElem?_eq_getElem h]; rfl
theorem Kc (size : Nat) (hs : List Nat) (a : Option Addr) (cap : Nat) (hsize : size ≤ 100) (hn : hs.length ≤ 100) (w : World) (hrd : Rd w a (Cz hs)) :
  Calls Tryz.prog 98 #[.int .i64 (size : Int), .slice a hs.length cap] w fun e w' => e = .returned (.string (str (E6 size hs))) ∧ Below w.heap.size w w' := by
 go_enter Tryz.func98, Tryz.ntmps98
 go_wp2_with fail
 refine (AO _ 0 [] size 2 w.heap.size w (by omega) (by omega) (Nat.le_refl _) (World.ownsRow_nil _ _ _ _)).mono ?_
 rintro e w1 ⟨v1, rfl, hown1, hb1⟩
 have hsz1 := hb1.size
 go_wp2_with fail
 refine (AO v1 2 _ hs.length 1 w.heap.size w1 (by omega) (by omega) (by omega) hown1).mono ?_
 rintro e w2 ⟨v2, rfl, hown2, hb2'⟩
 have hb2 := hb1.trans hb2'
 clear hown1 hb1 hb2' hsz1
 go_wp2_with fail
 go_loopw [5, 7, 18] (fun t x i wr => ∃ k : Nat, k ≤ hs.length ∧ i = .int .i64 (k : Int) ∧ wr.ownsRow w.heap.size 5 1 t (3 + 8 * k) (Bw (Af size 2 ++ Af hs.length 1 ++ Bi (hs.take k))) ∧ Below w.heap.size w wr)
  (fun _ _ i _ => hs.length - (intOf i).toNat)
 case atStart => exact ⟨0, by omega, rfl, by simpa [Bi] using hown2, hb2⟩
 case round =>
  obtain ⟨k, hk, rfl, hownr, hbl⟩ := hrel
  have hsz := hbl.size
  by_cases hlt : k < hs.length
  ·obtain ⟨b, off, rfl, hc0⟩ := hrd k (.int .u64 (hs[k] : Int)) (by simp [Cz, hlt])
   have hc : wr.cell? ⟨b, off + k, none⟩ = some (.int .u64 (hs[k] : Int)) := by
    rw [hbl.cell (World.block_lt_of_cell? w _ hc0)]; exact hc0
   clear hc0 hown2
   go_wp2_with fail
   refine (AO u5 (3 + 8 * k) _ hs[k] 8 w.heap.size wr (by omega) (by omega) (by omega) hownr).mono ?_
   rintro e w3 ⟨v3, rfl, hown3, hb3'⟩
   have hb3 := hbl.trans hb3'
   have hown3' : w3.ownsRow w.heap.size 5 1 v3 (3 + 8 * (k + 1)) (Bw (Af size 2 ++ Af hs.length 1 ++ Bi (hs.take (k + 1)))) := by
    rw [Ap hs k hlt, Fl, ← List.append_assoc]
    exact hown3
   clear hown3 hb3' hc hownr hb2
   go_wp2_with fail
   go_roundw
   case rel => exact ⟨k + 1, by omega, by go_num, hown3', hb3⟩
   case measure => simp [intOf]; omega
  ·obtain rfl : k = hs.length := by omega
   have hc := Cd hownr
   rw [List.take_length] at hc
   clear hownr
   go_wp2_with fail
   go_ret
   exact ⟨rfl, hbl⟩
theorem Tryz.info64 : (Tryz.prog.info? 63).map (fun i => (i.zero, i.size, i.bytes)) = some (some (.int .u64 0), 1, 8) := by kernel_rfl
theorem Ll (ts : List (List UInt8)) (a : Option Addr) (cap : Nat) (hn : ts.length ≤ 100) (hts : ∀ t ∈ ts, t.length ≤ 100000) (w : World) (hrd : Rd w a (AM ts)) :
  Calls Tryz.prog 99 #[.slice a ts.length cap] w fun e w' => ∃ v', e = .returned v' ∧ w'.ownsRow w.heap.size 63 1 v' ts.length (Cz (ts.map AC)) ∧ Below w.heap.size w w' := by
 obtain ⟨i0, hi, hz0, hz1, hz2⟩ := info_parts Tryz.info64
 go_enter Tryz.func99, Tryz.ntmps99
 go_wp2_with (at_make; refine wpList_make_full _ rfl _ _ 99 rfl w.heap.size 63 i0 (.int .u64 0) 1 Tryz.underlying99 hi hz0 hz1 .i64 .i64 _ _ ts.length rfl rfl rfl rfl ?c1 ?c2 (Nat.le_refl _) ?_)
 case c1 => rw [hz2]; omega
 case c2 => unfold maxLen; omega
 intro w1 hown1 hg1
 have hb1 : Below w.heap.size w w1 := (Below.refl _ w).grown hg1 (Nat.le_refl _) (by simp)
 clear hg1
 go_wp2_with fail
 go_loopw [4, 5, 11] (fun _ _ i wr => ∃ (k : Nat) (zs : List Nat), k ≤ ts.length ∧ i = .int .i64 (k : Int) ∧ wr.ownsRow w.heap.size 63 1 (.slice (some ⟨w.heap.size, 0, none⟩) ts.length ts.length) ts.length (Cz zs) ∧ Below w.heap.size w wr ∧ Hid (zs.take k = (ts.map AC).take k))
  (fun _ _ i _ => ts.length - (intOf i).toNat)
 case atStart => exact ⟨0, List.replicate ts.length 0, by omega, rfl, by simpa [Cz, toList_madeCells_one] using hown1, hb1, Aa (by simp)⟩
 case round =>
  obtain ⟨k, zs, hk, rfl, hownr, hbl, hzs⟩ := hrel
  have hsz := hbl.size
  have hzl : zs.length = ts.length := by have := hownr.1; simpa [Cz] using this
  by_cases hlt : k < ts.length
  ·obtain ⟨b, off, rfl, hc0⟩ := hrd k (.string (str ts[k])) (by simp [AM, hlt])
   have hc : wr.cell? ⟨b, off + k, none⟩ = some (.string (str ts[k])) := by
    rw [hbl.cell (World.block_lt_of_cell? w _ hc0)]; exact hc0
   have hcell : wr.cell? ⟨w.heap.size, k, none⟩ = some (.int .u64 (zs[k] : Int)) := by
    rw [hownr.cellAt k (by omega)]; simp [Cz, hzl, hlt]
   have hfz := hownr.frozenAt k
   have hst := hownr.stored k (.int .u64 ((AC ts[k] : Nat) : Int))
   have hown' : (wr.setCell ⟨w.heap.size, k, none⟩ (.int .u64 ((AC ts[k] : Nat) : Int))).ownsRow w.heap.size 63 1 (.slice (some ⟨w.heap.size, 0, none⟩) ts.length ts.length) ts.length (Cz (zs.set k (AC ts[k]))) := by
    have e : Cz (zs.set k (AC ts[k])) = (Cz zs).set k (.int .u64 ((AC ts[k] : Nat) : Int)) := by simp [Cz, List.map_set]
    rw [e]; exact hst.1
   have hB := hbl.setCell (p := ⟨w.heap.size, k, none⟩) (Nat.le_refl _) (.int .u64 ((AC ts[k] : Nat) : Int))
   have hkl : k < zs.length := by omega
   have hset : (zs.set k (AC ts[k])).take (k + 1) = (ts.map AC).take (k + 1) := by
    rw [Ap _ k (by simpa using hkl), Ap _ k (by simpa using hlt)]
    simp only [List.getElem_set_self, List.getElem_map]
    rw [List.take_set_of_le (Nat.le_refl _), hzs.out]
   have HS := Aa hset
   have HO := Aa hown'
   have HB := Aa hB
   clear hset hown' hB hst hownr hc0 hzs
   have htl := hts ts[k] (List.getElem_mem hlt)
   go_wp2_with fail
   refine (FR ts[k] (by omega) wr).mono ?_
   rintro e w3 ⟨rfl, rfl⟩
   go_wp2_with fail
   go_roundw
   case rel => exact ⟨k + 1, zs.set k (AC ts[k]), by omega, by go_num, HO.out, HB.out, HS⟩
   case measure => simp [intOf]; omega
  ·obtain rfl : k = ts.length := by omega
   have := hzs.out
   rw [← hzl, List.take_length, hzl, List.take_of_length_le (by simp)] at this
   subst this
   go_wp2_with fail
   go_ret
   exact ⟨_, rfl, hownr, hbl⟩
def DX (number : Nat) (name data : List UInt8) : List UInt8 := Af number 1 ++ Af name.length 1 ++ name ++ Af data.length 2 ++ Af (AC data) 8
def Co (number : Nat) (name data : List UInt8) (ss : List (List UInt8)) : List UInt8 := DX number name data ++ Bi (ss.map AC)
theorem Ke (number : Nat) (name data : List UInt8) (ss : List (List UInt8)) (a : Option Addr) (cap : Nat) (hnum : number ≤ 100) (hname : name.length ≤ 100) (hdata : data.length ≤ 1000) (hn : ss.length ≤ 1000) (hss : ∀ t ∈ ss, t.length ≤ 1000) (w : World) (hrd : Rd w a (AM ss)) :
  Calls Tryz.prog 123 #[.int .i64 (number : Int), .agg #[.string (str name), .string (str data)], .slice a ss.length cap] w fun e w' => e = .returned (.string (str (Co number name data ss))) ∧ Below w.heap.size w w' := by
 obtain ⟨i0, hi, hz0, hz1, hz2⟩ := info_parts Tryz.info8
 have hns : (str name).size = name.length := Ae name
 have hds : (str data).size = data.length := Ae data
 obtain ⟨W0, hW0⟩ : ∃ W0, W0 = w.alloc (.cells #[.string (str name), .string (str data)] 62) := ⟨_, rfl⟩
 have hs0 : W0.heap.size = w.heap.size + 1 := by rw [hW0]; simp
 have hcn : ∀ W, Below (w.heap.size + 1) W0 W → W.cell? ⟨w.heap.size, 0, none⟩ = some (.string (str name)) ∧ W.cell? ⟨w.heap.size, 1, none⟩ = some (.string (str data)) := by
  intro W hW
  rw [hW.cell (by simp), hW.cell (by simp), hW0]
  constructor <;> simp
 have hw0 : Below w.heap.size w W0 := by rw [hW0]; exact (Below.refl _ _).alloc (Nat.le_refl _) _
 have hlow : ∀ W, Below (w.heap.size + 1) W0 W → Below w.heap.size w W := fun W h => hw0.trans (h.mono (by omega))
 have HC := Aa hcn
 have HL := Aa hlow
 have HW := Aa hW0
 have HS := Aa hs0
 clear hcn hlow hs0
 go_enter Tryz.func123, Tryz.ntmps123
 go_wp2_with fail
 rw [← HW.out]
 clear hW0
 refine (AO _ 0 [] number 1 (w.heap.size + 1) W0 (by omega) (by omega) (by rw [HS.out]; omega) (World.ownsRow_nil _ _ _ _)).mono ?_
 rintro e w1 ⟨v1, rfl, hown1, hb1⟩
 have hsz1 := hb1.size
 rw [HS.out] at hsz1
 obtain ⟨hn1, hd1⟩ := HC.out w1 hb1
 go_wp2_with fail
 refine (AO v1 1 _ name.length 1 (w.heap.size + 1) w1 (by omega) (by omega) hsz1 hown1).mono ?_
 rintro e w2 ⟨v2, rfl, hown2, hb2'⟩
 have hb2 := hb1.trans hb2'
 have hsz2 := hb2.size
 rw [HS.out] at hsz2
 clear hown1 hb2' hb1 hsz1 hn1 hd1
 obtain ⟨hn2, hd2⟩ := HC.out w2 hb2
 go_wp2_with (at_builtin; refine Lib.wpList_append_own_string _ rfl (.tmp 19) (.tmp 21) 67 9 rfl (w.heap.size + 1) 5 i0 Tryz.underlying67 Tryz.underlying9 hi hz0 hz1 hz2 v2 2 _ rfl hown2 (str name) rfl ?c5 ?c6 ?c7 ?_)
 case c5 => unfold maxLen; omega
 case c6 => omega
 case c7 => omega
 intro v3 w3 hown3 hg3 _
 have hb3 := Cy hb2 hsz2 hown2 hg3
 rw [Fd, ← DL, De] at hown3
 have hsz3 := hb3.size
 rw [HS.out] at hsz3
 clear hown2 hg3 hb2 hsz2 hn2 hd2
 obtain ⟨hn3, hd3⟩ := HC.out w3 hb3
 go_wp2_with fail
 refine (AO v3 (2 + name.length) _ data.length 2 (w.heap.size + 1) w3 (by omega) (by omega) hsz3 hown3).mono ?_
 rintro e w4 ⟨v4, rfl, hown4, hb4'⟩
 have hb4 := hb3.trans hb4'
 have hsz4 := hb4.size
 rw [HS.out] at hsz4
 clear hown3 hb4' hb3 hsz3 hn3 hd3
 obtain ⟨hn4, hd4⟩ := HC.out w4 hb4
 go_wp2_with fail
 refine (FR data (by omega) w4).mono ?_
 rintro e w5 ⟨rfl, rfl⟩
 go_wp2_with fail
 refine (AO v4 (2 + name.length + 2) _ (AC data) 8 (w.heap.size + 1) w5 (by omega) (by omega) hsz4 hown4).mono ?_
 rintro e w6 ⟨v6, rfl, hown6, hb6'⟩
 have hb6 := hb4.trans hb6'
 have hsz6 := hb6.size
 rw [HS.out] at hsz6
 have hown6' : w6.ownsRow (w.heap.size + 1) 5 1 v6 (name.length + 12) (Bw (DX number name data)) := by
  have e : 2 + name.length + 2 + 8 = name.length + 12 := by omega
  rw [e] at hown6
  exact hown6
 clear hown4 hb6' hb4 hsz4 hn4 hd4 hown6
 go_wp2_with fail
 go_loopw [7, 9, 36] (fun t x i wr => ∃ k : Nat, k ≤ ss.length ∧ i = .int .i64 (k : Int) ∧ wr.ownsRow (w.heap.size + 1) 5 1 t (name.length + 12 + 8 * k) (Bw (DX number name data ++ Bi ((ss.map AC).take k))) ∧ Below (w.heap.size + 1) W0 wr)
  (fun _ _ i _ => ss.length - (intOf i).toNat)
 case atStart => exact ⟨0, by omega, rfl, by simpa [Bi] using hown6', hb6⟩
 case round =>
  clear hown6' hb6 hsz6
  obtain ⟨k, hk, rfl, hownr, hbl⟩ := hrel
  have hsz := hbl.size
  rw [HS.out] at hsz
  by_cases hlt : k < ss.length
  ·obtain ⟨b, off, rfl, hc0⟩ := hrd k (.string (str ss[k])) (by simp [AM, hlt])
   have hc : wr.cell? ⟨b, off + k, none⟩ = some (.string (str ss[k])) := by
    rw [(HL.out wr hbl).cell (World.block_lt_of_cell? w _ hc0)]; exact hc0
   clear hc0
   have htl := hss ss[k] (List.getElem_mem hlt)
   go_wp2_with fail
   refine (FR ss[k] (by omega) wr).mono ?_
   rintro e w7 ⟨rfl, rfl⟩
   go_wp2_with fail
   refine (AO u7 (name.length + 12 + 8 * k) _ (AC ss[k]) 8 (w.heap.size + 1) w7 (by omega) (by omega) hsz hownr).mono ?_
   rintro e w8 ⟨v8, rfl, hown8, hb8'⟩
   have hb8 := hbl.trans hb8'
   have hown8' : w8.ownsRow (w.heap.size + 1) 5 1 v8 (name.length + 12 + 8 * (k + 1)) (Bw (DX number name data ++ Bi ((ss.map AC).take (k + 1)))) := by
    rw [Ap _ k (by simpa using hlt), Fl, ← List.append_assoc, List.getElem_map]
    exact hown8
   clear hown8 hb8' hc hownr
   go_wp2_with fail
   go_roundw
   case rel => exact ⟨k + 1, by omega, by go_num, hown8', hb8⟩
   case measure => simp [intOf]; omega
  ·obtain rfl : k = ss.length := by omega
   have hc := Cd hownr
   rw [List.take_of_length_le (by simp)] at hc
   have hB := HL.out _ hbl
   clear hownr
   go_wp2_with fail
   go_ret
   exact ⟨rfl, hB⟩
def Ay (n : Int) : Bool := decide (2 ≤ n ∧ n ≤ 32 ∧ n % 2 = 0)
theorem Bm (n : Int) (w : World) :
    Calls Tryz.prog 61 #[.int .i64 n] w fun e w' => e = .returned (.bool (Ay n)) ∧ w' = w := by
  by_cases h1 : 2 ≤ n
  · by_cases h2 : n ≤ 32
    · have e : n.tmod 2 = n % 2 := Int.tmod_eq_emod_of_nonneg (by omega)
      go_enter Tryz.func61, Tryz.ntmps61
      go_wp2
      go_ret
      refine ⟨?_, rfl⟩
      show Ending.returned (.bool (n % 2 == 0)) = _
      have e2 : (n % 2 == 0) = Ay n := by
        unfold Ay
        by_cases h3 : n % 2 = 0
        · simp [h1, h2, h3]
        · simp [h3]
      rw [e2]
    · go_enter Tryz.func61, Tryz.ntmps61
      go_wp2
      go_ret
      refine ⟨?_, rfl⟩
      have e2 : Ay n = false := by unfold Ay; exact decide_eq_false (by omega)
      rw [e2]
      rfl
  · go_enter Tryz.func61, Tryz.ntmps61
    go_wp2
    go_ret
    refine ⟨?_, rfl⟩
    have e2 : Ay n = false := by unfold Ay; exact decide_eq_false (by omega)
    rw [e2]
    rfl
def Aj (len size : Nat) : Nat := (len + size - 1) / size
theorem EP (len size : Nat) (h1 : len ≤ 1000000) (h2 : 0 < size) (h3 : size ≤ 1000) (w : World) :
    Calls Tryz.prog 96 #[.int .i64 (len : Int), .int .i64 (size : Int)] w fun e w' => e = .returned (.int .i64 ((Aj len size : Nat) : Int)) ∧ w' = w := by
  go_enter Tryz.func96, Tryz.ntmps96
  go_wp2
  go_ret
  refine ⟨?_, rfl⟩
  have e : ((len : Int) + (size : Int) - 1) / (size : Int) = ((Aj len size : Nat) : Int) := by
    unfold Aj
    rw [Int.natCast_ediv]
    congr 1
    omega
  show Ending.returned (.int .i64 (((len : Int) + (size : Int) - 1) / (size : Int))) = _
  rw [e]
abbrev Ak := List UInt8 × List UInt8
def As (fs : List Ak) : List Value := fs.flatMap fun f => [Value.string (str f.1), Value.string (str f.2)]
def ED (f : Ak) : Bool := decide (1 ≤ f.1.length ∧ f.1.length ≤ 20 ∧ f.2.length ≤ 400)
theorem EM (fs : List Ak) : (As fs).length = 2 * fs.length := by
  induction fs with
  | nil => rfl
  | cons f fs ih => simp [As] at ih ⊢; omega
theorem Ez (fs : List Ak) (k : Nat) (h : k < fs.length) : (As fs)[2 * k]? = some (.string (str fs[k].1)) ∧ (As fs)[2 * k + 1]? = some (.string (str fs[k].2)) := by
  induction fs generalizing k with
  | nil => simp at h
  | cons f fs ih =>
    cases k with
    | zero => simp [As]
    | succ k =>
      have := ih k (by simpa using h)
      have e : 2 * (k + 1) = 2 * k + 1 + 1 := by omega
      simp only [As, List.flatMap_cons, List.cons_append, List.nil_append, e, List.getElem?_cons_succ, List.getElem_cons_succ] at this ⊢
      exact this
theorem Ib (f : Ak) (h1 : f.1.length < 140737488355328) (h2 : f.2.length < 140737488355328) (w : World) :
    Calls Tryz.prog 94 #[.agg #[.string (str f.1), .string (str f.2)]] w fun e w' => e = .returned (.bool (ED f)) ∧ Below w.heap.size w w' := by
  have s1 := Ae f.1
  have s2 := Ae f.2
  go_enter Tryz.func94, Tryz.ntmps94
  go_wp2
  · go_ret
    refine ⟨?_, (Below.refl _ _).alloc (Nat.le_refl _) _⟩
    have e : ED f = decide ((f.2.length : Int) ≤ 400) := by
      unfold ED
      apply decide_eq_decide.2
      omega
    rw [e]
    rfl
  · go_ret
    refine ⟨?_, (Below.refl _ _).alloc (Nat.le_refl _) _⟩
    have e : ED f = false := by unfold ED; exact decide_eq_false (by omega)
    rw [e]
    rfl
  · go_ret
    refine ⟨?_, (Below.refl _ _).alloc (Nat.le_refl _) _⟩
    have e : ED f = false := by unfold ED; exact decide_eq_false (by omega)
    rw [e]
    rfl
theorem Au (l : List UInt8) : (str l).toList = l := by rw [ByteArray.toList_eq, De]
def BC (fs : List Ak) (name : List UInt8) : Bool := fs.any fun f => f.1 == name
theorem Bk {w wr : World} {a : Option Addr} {fs : List Ak} (h : Rd w a (As fs)) {B : Nat} (hB : w.heap.size ≤ B) (hb : Below B w wr) (k : Nat) (hk : k < fs.length) :
    ∃ b off, a = some ⟨b, off, none⟩ ∧ wr.cell? ⟨b, off + k * 2, none⟩ = some (.string (str fs[k].1)) ∧ wr.cell? ⟨b, off + k * 2 + 1, none⟩ = some (.string (str fs[k].2)) := by
  have h' := h.later hB hb
  obtain ⟨g1, g2⟩ := Ez fs k hk
  obtain ⟨b, off, rfl, hc⟩ := h' _ _ g1
  obtain ⟨b', off', e, hc'⟩ := h' _ _ g2
  cases e
  refine ⟨b, off, rfl, ?_, ?_⟩
  · rw [Nat.mul_comm k 2]; exact hc
  · rw [Nat.mul_comm k 2]; exact hc'
theorem KI (fs : List Ak) (name : List UInt8) (a : Option Addr) (cap : Nat) (hn : fs.length ≤ 1000) (w : World) (hrd : Rd w a (As fs)) :
    Calls Tryz.prog 95 #[.slice a fs.length cap, .string (str name)] w fun e w' => e = .returned (.bool (BC fs name)) ∧ Below w.heap.size w w' := by
  go_enter Tryz.func95, Tryz.ntmps95
  go_wp2
  go_loopw [6, 9] (fun _ i wr => ∃ k : Nat, k ≤ fs.length ∧ i = .int .i64 (k : Int) ∧ Below w.heap.size w wr ∧ Hid (BC (fs.drop k) name = BC fs name))
    (fun _ i _ => fs.length - (intOf i).toNat)
  case atStart => exact ⟨0, by omega, rfl, Below.refl _ _, Aa rfl⟩
  case round =>
    obtain ⟨k, hk, rfl, hbl, hd⟩ := hrel
    have hsz := hbl.size
    by_cases hlt : k < fs.length
    · obtain ⟨b, off, rfl, hc1, hc2⟩ := Bk hrd (Nat.le_refl _) hbl k hlt
      have hdk : BC (fs.drop k) name = (fs[k].1 == name || BC (fs.drop (k + 1)) name) := by
        rw [List.drop_eq_getElem_cons hlt]; rfl
      have HD := Aa hdk
      clear hdk
      go_wp2
      · go_ret
        have he : ((str fs[k].1).toList == (str name).toList) = true := by assumption
        rw [Au, Au] at he
        have := hd.out
        rw [HD.out, he] at this
        refine ⟨?_, hbl.alloc hsz _⟩
        rw [← this]
        rfl
      · have he : ((str fs[k].1).toList == (str name).toList) = false := by assumption
        rw [Au, Au] at he
        have := hd.out
        rw [HD.out, he] at this
        exact ⟨⟨k + 1, by omega, by go_num, hbl.alloc hsz _, Aa (by simpa using this)⟩, by simp [intOf]; omega⟩
    · obtain rfl : k = fs.length := by omega
      go_wp2
      go_ret
      have := hd.out
      rw [List.drop_length] at this
      exact ⟨by rw [← this]; rfl, hbl⟩
def BM (fs : List Ak) (size : Nat) : Nat := (fs.map fun f => Aj f.2.length size).sum
theorem Bu (len size : Nat) (h : 0 < size) : Aj len size ≤ len := by
  unfold Aj
  rcases Nat.eq_zero_or_pos len with h0 | h0
  · subst h0
    rw [Nat.div_eq_of_lt (by omega)]
    exact Nat.le_refl _
  · calc (len + size - 1) / size ≤ (len * size) / size := Nat.div_le_div_right (by
          have h1 : len * size = (len - 1) * size + size := by rw [← Nat.succ_mul]; congr 1; omega
          have h2 : (len - 1) * 1 ≤ (len - 1) * size := Nat.mul_le_mul_left _ h
          omega)
      _ = len := Nat.mul_div_cancel _ h
theorem ET (fs : List Ak) (size : Nat) (a : Option Addr) (cap : Nat) (hs : 0 < size) (hs2 : size ≤ 32) (hn : fs.length ≤ 6) (hl : ∀ f ∈ fs, f.2.length ≤ 400) (w : World) (hrd : Rd w a (As fs)) :
    Calls Tryz.prog 63 #[.slice a fs.length cap, .int .i64 (size : Int)] w fun e w' => e = .returned (.int .i64 ((BM fs size : Nat) : Int)) ∧ Below w.heap.size w w' := by
  go_enter Tryz.func63, Tryz.ntmps63
  go_wp2
  go_loopw [5, 7, 10] (fun c _ i wr => ∃ k c' : Nat, k ≤ fs.length ∧ c' ≤ 400 * k ∧ c = .int .i64 (c' : Int) ∧ i = .int .i64 (k : Int) ∧ Below w.heap.size w wr ∧ Hid (c' + BM (fs.drop k) size = BM fs size))
    (fun _ _ i _ => fs.length - (intOf i).toNat)
  case atStart => exact ⟨0, 0, by omega, by omega, rfl, rfl, Below.refl _ _, Aa (by simp)⟩
  case round =>
    obtain ⟨k, c', hk, hc', rfl, rfl, hbl, hd⟩ := hrel
    have hsz := hbl.size
    by_cases hlt : k < fs.length
    · obtain ⟨b, off, rfl, hc1, hc2⟩ := Bk hrd (Nat.le_refl _) hbl k hlt
      have hdk : BM (fs.drop k) size = Aj fs[k].2.length size + BM (fs.drop (k + 1)) size := by
        rw [List.drop_eq_getElem_cons hlt]; unfold BM; rw [List.map_cons, List.sum_cons]
      have hlk := hl fs[k] (List.getElem_mem hlt)
      have hle := Bu fs[k].2.length size hs
      have hsz2 : (str fs[k].2).size = fs[k].2.length := Ae _
      have HD := Aa hdk
      clear hdk
      go_wp2_with fail
      refine (EP fs[k].2.length size (by omega) hs (by omega) _).mono ?_
      rintro e w1 ⟨rfl, rfl⟩
      go_wp2_with fail
      have := hd.out
      rw [HD.out] at this
      exact ⟨⟨k + 1, c' + Aj fs[k].2.length size, by omega, by omega, by go_num, by go_num, hbl.alloc hsz _, Aa (by omega)⟩, by simp [intOf]; omega⟩
    · obtain rfl : k = fs.length := by omega
      go_wp2
      go_ret
      have := hd.out
      rw [List.drop_length] at this
      simp only [BM, List.map_nil, List.sum_nil, Nat.add_zero] at this
      exact ⟨by rw [this]; rfl, hbl⟩
def OV (fs : List Ak) (i : Nat) : Bool := match fs[i]? with
  | some f => ED f && !BC (fs.take i) f.1
  | none => true
def Cm (fs : List Ak) : Bool := decide (1 ≤ fs.length ∧ fs.length ≤ 6) && (List.range fs.length).all (OV fs)
theorem MK (fs : List Ak) (k : Nat) : As (fs.take k) = (As fs).take (2 * k) := by
  induction fs generalizing k with
  | nil => simp [As]
  | cons f fs ih =>
    cases k with
    | zero => simp [As]
    | succ k =>
      have := ih k
      have e : 2 * (k + 1) = 2 * k + 1 + 1 := by omega
      simp only [As, List.take_succ_cons, List.flatMap_cons, List.cons_append, List.nil_append, e] at this ⊢
      rw [this]
theorem Rd.take {w : World} {a : Option Addr} {xs : List Value} (h : Rd w a xs) (k : Nat) : Rd w a (xs.take k) := by
  intro j u hj
  apply h j u
  rw [List.getElem?_take] at hj
  split at hj
  · exact hj
  · cases hj
theorem FC (fs : List Ak) (a : Option Addr) (cap : Nat) (hcap : fs.length ≤ cap) (hl : ∀ f ∈ fs, f.1.length < 140737488355328 ∧ f.2.length < 140737488355328) (w : World) (hrd : Rd w a (As fs)) :
    Calls Tryz.prog 62 #[.slice a fs.length cap] w fun e w' => e = .returned (.bool (Cm fs)) ∧ Below w.heap.size w w' := by
  by_cases h1 : fs.length < 1
  · have e : Cm fs = false := by unfold Cm; rw [decide_eq_false (by omega)]; rfl
    go_enter Tryz.func62, Tryz.ntmps62
    go_wp2
    go_ret
    exact ⟨by first | rfl | (rw [e]; rfl), Below.refl _ _⟩
  · by_cases h2 : 6 < fs.length
    · have e : Cm fs = false := by unfold Cm; rw [decide_eq_false (by omega)]; rfl
      go_enter Tryz.func62, Tryz.ntmps62
      go_wp2
      go_ret
      exact ⟨by first | rfl | (rw [e]; rfl), Below.refl _ _⟩
    · go_enter Tryz.func62, Tryz.ntmps62
      go_wp2
      go_loopw [3, 4, 15] (fun _ _ i wr => ∃ k : Nat, k ≤ fs.length ∧ i = .int .i64 (k : Int) ∧ Below w.heap.size w wr ∧ Hid (∀ j, j < k → OV fs j = true))
        (fun _ _ i _ => fs.length - (intOf i).toNat)
      case atStart => exact ⟨0, by omega, rfl, Below.refl _ _, Aa (by intro j hj; omega)⟩
      case round =>
        obtain ⟨k, hk, rfl, hbl, hd⟩ := hrel
        have hsz := hbl.size
        by_cases hlt : k < fs.length
        · obtain ⟨b, off, rfl, hc1, hc2⟩ := Bk hrd (Nat.le_refl _) hbl k hlt
          have hf := hl fs[k] (List.getElem_mem hlt)
          have hok : OV fs k = (ED fs[k] && !BC (fs.take k) fs[k].1) := by unfold OV; rw [List.getElem?_eq_getElem hlt]
          have HOK := Aa hok
          clear hok
          have hN : ∀ W, Rd W (some ⟨b, off, none⟩) (As (fs.take k)) → Calls Tryz.prog 95 #[.slice (some ⟨b, off, none⟩) k cap, .string (str fs[k].1)] W fun e w' => e = .returned (.bool (BC (fs.take k) fs[k].1)) ∧ Below W.heap.size W w' := by
            intro W hW
            have := KI (fs.take k) fs[k].1 (some ⟨b, off, none⟩) cap (by rw [List.length_take]; omega) W hW
            rw [List.length_take, Nat.min_eq_left (by omega)] at this
            exact this
          have HN := Aa hN
          have hR : ∀ W, Below w.heap.size w W → Rd W (some ⟨b, off, none⟩) (As (fs.take k)) := by
            intro W hW
            rw [MK]
            exact (hrd.later (Nat.le_refl _) hW).take _
          have HR := Aa hR
          have HRD := Aa hrd
          have HOKB := Aa hd
          clear hN hR hrd
          have hbad : OV fs k = false → Cm fs = false := by
            intro h
            unfold Cm
            rw [Bool.and_eq_false_iff]
            right
            rw [List.all_eq_false]
            exact ⟨k, by simpa using hlt, by simp [h]⟩
          have HBAD := Aa hbad
          have hnext : OV fs k = true → ∀ j, j < k + 1 → OV fs j = true := by
            intro h j hj
            rcases Nat.lt_or_ge j k with h' | h'
            · exact hd.out j h'
            · have : j = k := by omega
              subst this
              exact h
          have HNEXT := Aa hnext
          clear hbad hnext
          by_cases hfit : ED fs[k] = true
          · by_cases hh : BC (fs.take k) fs[k].1 = true
            · go_wp2_with fail
              go_region_with (first
                | (go_at_call 94; refine (Ib fs[k] hf.1 hf.2 _).mono ?_; rintro e w1 ⟨rfl, hb1⟩; have hc3 : w1.cell? ⟨wr.heap.size, 0, none⟩ = some (.string (str fs[k].1)) := by (rw [hb1.cell (by simp)]; simp))
                | (go_at_call 95; refine (HN.out _ ?_).mono ?_; exact HR.out _ (Below.next (hbl.alloc hsz _).drew hb1); rintro e w2 ⟨rfl, hb2⟩))
              all_goals
                go_wp2_with fail
                go_ret
                refine ⟨?_, Below.next (Below.next (hbl.alloc hsz _).drew hb1) hb2⟩
                have e1 := HBAD.out (by rw [HOK.out, hfit, hh]; rfl)
                rw [e1]
                rfl
            · have hh' : BC (fs.take k) fs[k].1 = false := by simpa using hh
              clear hh
              go_wp2_with fail
              go_region_with (first
                | (go_at_call 94; refine (Ib fs[k] hf.1 hf.2 _).mono ?_; rintro e w1 ⟨rfl, hb1⟩; have hc3 : w1.cell? ⟨wr.heap.size, 0, none⟩ = some (.string (str fs[k].1)) := by (rw [hb1.cell (by simp)]; simp))
                | (go_at_call 95; refine (HN.out _ ?_).mono ?_; exact HR.out _ (Below.next (hbl.alloc hsz _).drew hb1); rintro e w2 ⟨rfl, hb2⟩))
              all_goals
                go_wp2_with fail
                go_roundw
                case rel => exact ⟨k + 1, by omega, by go_num, Below.next (Below.next (hbl.alloc hsz _).drew hb1) hb2, Aa (HNEXT.out (by rw [HOK.out, hfit, hh']; rfl))⟩
                case measure => simp [intOf]; omega
          · have hfit' : ED fs[k] = false := by simpa using hfit
            clear hfit
            go_wp2_with fail
            first
              | (go_region_with (go_at_call 94; refine (Ib fs[k] hf.1 hf.2 _).mono ?_; rintro e w1 ⟨rfl, hb1⟩))
              | fail
            all_goals
              go_wp2_with fail
              go_ret
              refine ⟨?_, Below.next (hbl.alloc hsz _).drew hb1⟩
              have e1 := HBAD.out (by rw [HOK.out, hfit']; rfl)
              rw [e1]
              rfl
        · obtain rfl : k = fs.length := by omega
          have e : Cm fs = true := by
            unfold Cm
            rw [decide_eq_true (by omega), Bool.true_and, List.all_eq_true]
            intro j hj
            exact hd.out j (by simpa using hj)
          go_wp2
          go_ret
          exact ⟨by rw [e]; rfl, hbl⟩
end Go.Proofs.YtonjphollmdicaaGreatDoor
namespace Go.Proofs
open Go.Shelf
def Tryz.lays105_ren : Go.Shelf.Ren := ⟨fun | 105 => 112 | 212 => 129 | 99 => 130 | 165 => 131 | 166 => 132 | 170 => 133 | 169 => 134 | 263 => 143 | 264 => 144 | 206 => 145 | 240 => 146 | 241 => 147 | 276 => 159 | 277 => 160 | n => n, fun | 9 => 9 | 3 => 3 | 4 => 4 | 20 => 20 | 0 => 0 | 46 => 156 | 109 => 212 | 5 => 5 | 72 => 217 | 76 => 221 | 51 => 155 | 146 => 230 | 53 => 63 | 148 => 232 | 70 => 215 | 37 => 67 | 75 => 220 | 127 => 234 | 164 => 247 | 80 => 169 | n => n, fun | n => n⟩
theorem Tryz.lays105 : Go.Proofs.Lays.n105 Tryz.prog Tryz.lays105_ren := {
 mixed := by kernel_rfl
 f99 := Tryz.func130.trans (congrArg some (by kernel_rfl))
 f105 := Tryz.func112.trans (congrArg some (by kernel_rfl))
 f165 := Tryz.func131.trans (congrArg some (by kernel_rfl))
 f166 := Tryz.func132.trans (congrArg some (by kernel_rfl))
 f169 := Tryz.func134.trans (congrArg some (by kernel_rfl))
 f170 := Tryz.func133.trans (congrArg some (by kernel_rfl))
 f206 := Tryz.func145.trans (congrArg some (by kernel_rfl))
 f212 := Tryz.func129.trans (congrArg some (by kernel_rfl))
 f240 := Tryz.func146.trans (congrArg some (by kernel_rfl))
 f241 := Tryz.func147.trans (congrArg some (by kernel_rfl))
 f263 := Tryz.func143.trans (congrArg some (by kernel_rfl))
 f264 := Tryz.func144.trans (congrArg some (by kernel_rfl))
 f276 := Tryz.func159.trans (congrArg some (by kernel_rfl))
 f277 := Tryz.func160.trans (congrArg some (by kernel_rfl))
 t0 := Tryz.underlying0
 a0 := Tryz.isAgg0
 z0 := Tryz.sizeOf0
 v0 := Tryz.zeroValue0
 t3 := Tryz.underlying3
 a3 := Tryz.isAgg3
 z3 := Tryz.sizeOf3
 v3 := Tryz.zeroValue3
 t4 := Tryz.underlying4
 a4 := Tryz.isAgg4
 z4 := Tryz.sizeOf4
 v4 := Tryz.zeroValue4
 t5 := Tryz.underlying5
 a5 := Tryz.isAgg5
 z5 := Tryz.sizeOf5
 v5 := Tryz.zeroValue5
 t9 := Tryz.underlying9
 a9 := Tryz.isAgg9
 z9 := Tryz.sizeOf9
 v9 := Tryz.zeroValue9
 t20 := Tryz.underlying20
 a20 := Tryz.isAgg20
 z20 := Tryz.sizeOf20
 v20 := Tryz.zeroValue20
 t37 := Tryz.underlying67
 a37 := Tryz.isAgg67
 z37 := Tryz.sizeOf67
 v37 := Tryz.zeroValue67
 t46 := Tryz.underlying156
 a46 := Tryz.isAgg156
 z46 := Tryz.sizeOf156
 v46 := Tryz.zeroValue156
 t51 := Tryz.underlying155
 a51 := Tryz.isAgg155
 z51 := Tryz.sizeOf155
 v51 := Tryz.zeroValue155
 t53 := Tryz.underlying63
 a53 := Tryz.isAgg63
 z53 := Tryz.sizeOf63
 v53 := Tryz.zeroValue63
 t70 := Tryz.underlying215
 a70 := Tryz.isAgg215
 z70 := Tryz.sizeOf215
 v70 := Tryz.zeroValue215
 t72 := Tryz.underlying217
 a72 := Tryz.isAgg217
 z72 := Tryz.sizeOf217
 v72 := Tryz.zeroValue217
 t75 := Tryz.underlying220
 a75 := Tryz.isAgg220
 z75 := Tryz.sizeOf220
 v75 := Tryz.zeroValue220
 t76 := Tryz.underlying221
 a76 := Tryz.isAgg221
 z76 := Tryz.sizeOf221
 v76 := Tryz.zeroValue221
 t109 := Tryz.underlying212
 a109 := Tryz.isAgg212
 z109 := Tryz.sizeOf212
 v109 := Tryz.zeroValue212
 t127 := Tryz.underlying234
 a127 := Tryz.isAgg234
 z127 := Tryz.sizeOf234
 v127 := Tryz.zeroValue234
 t146 := Tryz.underlying230
 a146 := Tryz.isAgg230
 z146 := Tryz.sizeOf230
 v146 := Tryz.zeroValue230
 t148 := Tryz.underlying232
 a148 := Tryz.isAgg232
 z148 := Tryz.sizeOf232
 v148 := Tryz.zeroValue232
 t164 := Tryz.underlying247
 a164 := Tryz.isAgg247
 z164 := Tryz.sizeOf247
 v164 := Tryz.zeroValue247 }
theorem Tryz.Builder_Extra_105 : Builder.Extra Tryz.prog Tryz.lays105_ren := {
 sizeBuilder := by kernel_rfl
 liesBuilder := by kernel_rfl
 t5 := Tryz.underlying5
 a5 := Tryz.isAgg5
 z5 := Tryz.sizeOf5
 v5 := Tryz.zeroValue5
 infoByte := by kernel_rfl
 cellsByte := by kernel_rfl
 sizeByte := by kernel_rfl
 neB5 := by decide }
open Go.RowKit Go.Lib in
theorem Tryz.strings_Repeat (s : ByteArray) (c : Nat) (w : World) (hc : c ≤ 9223372036854775807) (hlen : s.size * c ≤ 140737488355328) :
  Calls Tryz.prog 112 #[.string s, .int .i64 c] w fun e w' => e = .returned (.string ⟨(Lib.repeatL s.data.toList c).toArray⟩) ∧ Below w.heap.size w w' := Any.strings_Repeat Tryz.lays105 Tryz.Builder_Extra_105 s c w hc hlen
end Go.Proofs
