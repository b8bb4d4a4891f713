import Derived.Test.YtonjphollmdicaaGreatDoorB01
import Derived.RegionTactic
import Derived.ChangeAlike
import Derived.BigRegion
namespace Go.Proofs.YtonjphollmdicaaGreatDoor
open Go.ChangeShapes Go.WideShapes Go.ChangeAt Go.RowKit

def u16V (l : List Nat) : List Value := l.map fun (n : Nat) => Value.int .u16 (n : Int)
def numAt (l : List UInt8) (i : Nat) : Nat := (l[2 * i]?.getD 0).toNat * 256 + (l[2 * i + 1]?.getD 0).toNat
def rowL (l : List UInt8) : List Nat := (List.range (l.length / 2)).map (numAt l)
def textL (r : List Nat) : List UInt8 := r.flatMap fun n => numBytes n 2

theorem Tryz.info16 : (Tryz.prog.info? 80).map (fun i => (i.zero, i.size, i.bytes)) = some (some (.int .u16 0), 1, 2) := by kernel_rfl

theorem numAt_lt (l : List UInt8) (i : Nat) : numAt l i < 65536 := by
  unfold numAt
  have h1 := (l[2 * i]?.getD 0).toNat_lt
  have h2 := (l[2 * i + 1]?.getD 0).toNat_lt
  omega
theorem rowL_length (l : List UInt8) : (rowL l).length = l.length / 2 := by simp [rowL]

theorem numAt_spelt (l : List UInt8) (k : Nat) :
    bits BinOp.or IntKind.u16 (IntKind.u16.wrap (IntKind.u16.wrap ((l[2 * k]?.getD 0).toNat : Int) * 256)) (IntKind.u16.wrap ((l[2 * k + 1]?.getD 0).toNat : Int)) = ((numAt l k : Nat) : Int) := by
  have h1 := (l[2 * k]?.getD 0).toNat_lt
  have h2 := (l[2 * k + 1]?.getD 0).toNat_lt
  unfold numAt
  generalize (l[2 * k]?.getD 0).toNat = a at *
  generalize (l[2 * k + 1]?.getD 0).toNat = b at *
  have e1 : IntKind.u16.wrap (IntKind.u16.wrap (a : Int) * 256) = ((a * 256 : Nat) : Int) := by rw [IntKind.wrap_u16, IntKind.wrap_u16]; omega
  have e2 : IntKind.u16.wrap (b : Int) = (b : Int) := by rw [IntKind.wrap_u16]; omega
  rw [e1, e2, u16_or_nat (a * 256) b (by omega) (by omega)]
  have h3 := Nat.two_pow_add_eq_or_of_lt (i := 8) (b := b) (by omega) a
  rw [show a * 256 = 2 ^ 8 * a from by omega, ← h3]

theorem index_str (l : List UInt8) (j : Nat) (i : Int) (hi : i = (j : Int)) (hj : j < l.length) (W : World) :
    (Instr.index 9 (.string (str l)) (.int .i64 i)).run Tryz.prog W = .ok (.int .u8 ((l[j]?.getD 0).toNat : Int)) W := by
  subst hi
  have hs : j < (str l).size := by rw [str_size]; exact hj
  rw [run_index_string W 9 (str l) .i64 (j : Int) Tryz.underlying9, dif_pos ⟨by omega, by omega⟩]
  have e : ((str l)[((j : Int)).toNat]'(by omega)) = l[j]?.getD 0 := by
    have h2 : ((j : Int)).toNat = j := by omega
    simp only [h2]
    rw [List.getElem?_eq_getElem hj]
    rfl
  rw [e]

set_option maxRecDepth 100000 in
set_option maxHeartbeats 1000000 in
theorem ReadRow_walk (l : List UInt8) (hl : l.length ≤ 1000) (w : World) :
    Calls Tryz.prog 124 #[.string (str l)] w fun e w' => ∃ v', e = .returned v' ∧ w'.ownsRow w.heap.size 80 1 v' (l.length / 2) (u16V (rowL l)) ∧ Below w.heap.size w w' := by
  obtain ⟨i0, hi, hz0, hz1, hz2⟩ := info_parts Tryz.info16
  have hss : (str l).size = l.length := str_size l
  obtain ⟨n, hn⟩ : ∃ n, n = l.length / 2 := ⟨_, rfl⟩
  have hn2 : 2 * n ≤ l.length := by omega
  have e2 : ((l.length : Int) / 2) = (n : Int) := by omega
  rw [← hn]
  have HN := hid_of hn
  clear hn
  go_enter Tryz.func124, Tryz.ntmps124
  go_wp2_with (at_make; refine wpList_make_full _ rfl _ _ 167 rfl w.heap.size 80 i0 (.int .u16 0) 1 Tryz.underlying167 hi hz0 hz1 .i64 .i64 _ _ n rfl rfl ?c0 ?c0b ?c1 ?c2 (Nat.le_refl _) ?_)
  case c0 => first | rfl | omega
  case c0b => first | rfl | omega
  case c1 => rw [hz2]; omega
  case c2 => unfold maxLen; omega
  intro w1 hown1 hg1
  have hb1 : Below w.heap.size w w1 := (Below.refl _ w).grown hg1 (Nat.le_refl _) (by simp)
  clear hg1
  have HE := hid_of e2
  clear e2
  go_wp2_with fail
  go_loopw [4, 11] (fun _ i wr => ∃ (k : Nat) (zs : List Nat), k ≤ n ∧ i = .int .i64 (k : Int) ∧ wr.ownsRow w.heap.size 80 1 (.slice (some ⟨w.heap.size, 0, none⟩) n n) n (u16V zs) ∧ Below w.heap.size w wr ∧ Hid (zs.take k = (rowL l).take k))
    (fun _ i _ => n - (intOf i).toNat)
  case atStart => exact ⟨0, List.replicate n 0, by omega, rfl, by simpa [u16V, toList_madeCells_one] using hown1, hb1, hid_of (by simp)⟩
  case round =>
    clear hown1 hb1
    obtain ⟨k, zs, hk, rfl, hownr, hbl, hzs⟩ := hrel
    have hzl : zs.length = n := by have := hownr.1; simpa [u16V] using this
    by_cases hlt : k < n
    · have hcell : wr.cell? ⟨w.heap.size, k, none⟩ = some (.int .u16 (zs[k] : Int)) := by
        rw [hownr.cellAt k (by omega)]; simp [u16V, hzl, hlt]
      have hfz := hownr.frozenAt k
      have i1 := index_str l (2 * k) (2 * (k : Int)) (by omega) (by omega)
      have i2 := index_str l (2 * k + 1) (2 * (k : Int) + 1) (by omega) (by omega)
      have hst := (hownr.stored k (.int .u16 ((numAt l k : Nat) : Int))).1
      have hown' : (wr.setCell ⟨w.heap.size, k, none⟩ (.int .u16 ((numAt l k : Nat) : Int))).ownsRow w.heap.size 80 1 (.slice (some ⟨w.heap.size, 0, none⟩) n n) n (u16V (zs.set k (numAt l k))) := by
        have e : u16V (zs.set k (numAt l k)) = (u16V zs).set k (.int .u16 ((numAt l k : Nat) : Int)) := by simp [u16V, List.map_set]
        rw [e]; exact hst
      have hB := hbl.setCell (p := ⟨w.heap.size, k, none⟩) (Nat.le_refl _) (.int .u16 ((numAt l k : Nat) : Int))
      have hset : (zs.set k (numAt l k)).take (k + 1) = (rowL l).take (k + 1) := by
        rw [take_snoc _ k (by simpa using (by omega : k < zs.length)), take_snoc _ k (by rw [rowL_length, ← HN.out]; exact hlt)]
        rw [List.take_set_of_le (Nat.le_refl _), hzs.out]
        congr 2
        rw [List.getElem_set_self]
        simp [rowL]
      have HS := hid_of hset
      have HO := hid_of hown'
      have HB := hid_of hB
      clear hset hown' hB hst hownr hzs
      go_wp2_with fail
      go_region
      rw [numAt_spelt]
      clear i1 i2
      go_wp2_with fail
      go_roundw
      case rel => exact ⟨k + 1, zs.set k (numAt l k), by omega, by go_num, HO.out.drew, HB.out.drew, HS⟩
      case measure => simp [intOf]; omega
    · obtain rfl : k = n := by omega
      have := hzs.out
      rw [← hzl, List.take_length, hzl, List.take_of_length_le (by rw [rowL_length, ← HN.out]; exact Nat.le_refl _)] at this
      subst this
      go_wp2_with fail
      go_ret
      exact ⟨_, rfl, hownr, hbl⟩

theorem textL_snoc (l : List Nat) (h : Nat) : textL (l ++ [h]) = textL l ++ numBytes h 2 := by simp [textL]

theorem two_new (w : World) (x y : Value) (t : TypeId) : ∀ j u, [x, y][j]? = some u → (w.alloc (.cells #[x, y] t)).cell? ((⟨w.heap.size, 0, none⟩ : Addr).add j) = some u := by
  intro j u hj
  rcases j with _ | _ | j
  · simp at hj; subst hj; simp [Addr.add]
  · simp at hj; subst hj; simp [Addr.add]
  · simp at hj

theorem bytes2 (n : Nat) (h : n < 65536) : bytesV (numBytes n 2) = [.int .u8 ((n : Int) / 256), .int .u8 ((n : Int) % 256)] := by
  have e1 : ((byteAt n 1).toNat : Int) = (n : Int) / 256 := by rw [← byteAt_spelt]; simp; omega
  have e2 : ((byteAt n 0).toNat : Int) = (n : Int) % 256 := by rw [← byteAt_spelt]; simp
  simp only [numBytes, bytesV, List.map_cons, List.map_nil]
  rw [e1, e2]

set_option maxRecDepth 100000 in
theorem Text_walk (r : List Nat) (a : Option Addr) (cap : Nat) (hn : r.length ≤ 1000) (hr : ∀ x ∈ r, x < 65536) (w : World) (hrd : Rd w a (u16V r)) :
    Calls Tryz.prog 103 #[.slice a r.length cap] w fun e w' => e = .returned (.string (str (textL r))) ∧ Below w.heap.size w w' := by
  obtain ⟨i0, hi, hz0, hz1, hz2⟩ := info_parts Tryz.info8
  go_enter Tryz.func103, Tryz.ntmps103
  go_wp2_with (at_make; refine wpList_make_own _ rfl _ _ 67 rfl w.heap.size 5 i0 (.int .u8 0) 1 Tryz.underlying67 hi hz0 hz1 .i64 .i64 _ (2 * r.length) rfl rfl ?c0 ?c1 ?c2 (Nat.le_refl _) ?_)
  case c0 => omega
  case c1 => rw [hz2]; omega
  case c2 => unfold maxLen; omega
  intro w1 hown1 hg1
  have hb1 : Below w.heap.size w w1 := (Below.refl _ w).grown hg1 (Nat.le_refl _) (by simp)
  clear hg1
  go_wp2_with fail
  go_loopw [3, 5, 12] (fun t _ i wr => ∃ k : Nat, k ≤ r.length ∧ i = .int .i64 (k : Int) ∧ wr.ownsRow w.heap.size 5 1 t (2 * k) (bytesV (textL (r.take k))) ∧ Below w.heap.size w wr)
    (fun _ _ i _ => r.length - (intOf i).toNat)
  case atStart => exact ⟨0, by omega, rfl, by simpa [textL, bytesV] using hown1, hb1⟩
  case round =>
    clear hown1 hb1
    obtain ⟨k, hk, rfl, hownr, hbl⟩ := hrel
    have hsz := hbl.size
    by_cases hlt : k < r.length
    · obtain ⟨b, off, rfl, hc0⟩ := hrd k (.int .u16 (r[k] : Int)) (by simp [u16V, hlt])
      have hc : wr.cell? ⟨b, off + k, none⟩ = some (.int .u16 (r[k] : Int)) := by
        rw [hbl.cell (World.block_lt_of_cell? w _ hc0)]; exact hc0
      have hrk := hr r[k] (List.getElem_mem hlt)
      clear hc0
      go_wp2_with (at_builtin; refine wpList_append_own _ rfl _ _ 67 rfl w.heap.size 5 i0 (.int .u8 0) 1 1 Tryz.underlying67 hi hz0 hz1 hz2 rfl (by decide) _ _ _ rfl (hownr.alloc _) ⟨wr.heap.size, 0, none⟩ 2 2 [.int .u8 ((r[k] : Int) / 256), .int .u8 ((r[k] : Int) % 256)] rfl rfl (two_new _ _ _ _) ?c3 ?c4 ?c5 ?c6 ?_)
      case c3 => intro u hu; simp at hu; rcases hu with rfl | rfl <;> rfl
      case c4 => unfold maxLen; omega
      case c5 => omega
      case c6 => simp; omega
      · intro v' w2 hown' hgrow _
        have hB := below_step hbl (by omega) hownr hgrow
        have hown2 : w2.ownsRow w.heap.size 5 1 v' (2 * (k + 1)) (bytesV (textL (r.take (k + 1)))) := by
          rw [take_snoc r k hlt, textL_snoc, bytesV_append, bytes2 _ hrk]
          exact hown'
        clear hown' hgrow hownr
        go_wp2_with fail
        go_roundw
        case rel => exact ⟨k + 1, by omega, by go_num, hown2, hB⟩
        case measure => simp [intOf]; omega
    · obtain rfl : k = r.length := by omega
      have hc := owned_string hownr
      rw [List.take_length] at hc
      clear hownr
      go_wp2_with fail
      go_ret
      exact ⟨rfl, hbl⟩
end Go.Proofs.YtonjphollmdicaaGreatDoor
namespace Go.Proofs.YtonjphollmdicaaGreatDoor
open Go.ChangeShapes Go.WideShapes Go.ChangeAt Go.RowKit

/-- the product of the differences of point i from all the others -/
def diffStep (pts : List Nat) (i : Nat) (p k : Nat) : Nat := if k = i then p else Math.mul p (pts.getD i 0 ^^^ pts.getD k 0)
def diffL (pts : List Nat) (i : Nat) : Nat := (List.range pts.length).foldl (diffStep pts i) 1

theorem xor_lt16 {a b : Nat} (ha : a < 65536) (hb : b < 65536) : a ^^^ b < 65536 := Nat.xor_lt_two_pow (n := 16) ha hb
theorem getD_lt {l : List Nat} (h : ∀ x ∈ l, x < 65536) (i : Nat) : l.getD i 0 < 65536 := by
  rw [List.getD_eq_getElem?_getD]
  rcases Nat.lt_or_ge i l.length with hi | hi
  · rw [List.getElem?_eq_getElem hi]; exact h _ (List.getElem_mem hi)
  · rw [List.getElem?_eq_none hi]; decide
theorem diffStep_lt {pts : List Nat} {i p k : Nat} (hp : p < 65536) : diffStep pts i p k < 65536 := by
  unfold diffStep
  split
  · exact hp
  · exact Math.mul_lt hp _
theorem foldl_lt {α : Type} (f : Nat → α → Nat) (hf : ∀ p k, p < 65536 → f p k < 65536) (l : List α) : ∀ p, p < 65536 → l.foldl f p < 65536 := by
  induction l with
  | nil => intro p hp; exact hp
  | cons x l ih => intro p hp; exact ih _ (hf _ _ hp)
theorem diffL_lt (pts : List Nat) (i : Nat) : diffL pts i < 65536 := foldl_lt _ (fun _ _ h => diffStep_lt h) _ _ (by decide)

theorem u16_get {r : List Nat} {w : World} {a : Option Addr} (h : Rd w a (u16V r)) (k : Nat) (hk : k < r.length) : ∃ b off, a = some ⟨b, off, none⟩ ∧ w.cell? ⟨b, off + k, none⟩ = some (.int .u16 ((r.getD k 0 : Nat) : Int)) := by
  refine h k _ ?_
  simp [u16V, hk]

set_option maxRecDepth 100000 in
theorem differences_walk (pts : List Nat) (i : Nat) (a : Option Addr) (cap : Nat) (hn : pts.length ≤ 1000) (hi : i < pts.length) (hp : ∀ x ∈ pts, x < 65536) (w : World) (hrd : Rd w a (u16V pts)) :
    Calls Tryz.prog 138 #[.slice a pts.length cap, .int .i64 (i : Int)] w fun e w' => e = .returned (.int .u16 ((diffL pts i : Nat) : Int)) ∧ w' = w := by
  obtain ⟨b, off, rfl, hci⟩ := u16_get hrd i hi
  have hpi := getD_lt hp i
  obtain ⟨pi, hpie⟩ : ∃ x, x = pts.getD i 0 := ⟨_, rfl⟩
  rw [← hpie] at hci hpi
  have HPI := hid_of hpie
  clear hpie
  go_enter Tryz.func138, Tryz.ntmps138
  go_wp2
  go_loop [5, 6, 7, 10] (fun p _ _ j => ∃ k p' : Nat, k ≤ pts.length ∧ p' < 65536 ∧ p = .int .u16 (p' : Int) ∧ j = .int .i64 (k : Int) ∧ Hid (p' = (List.range k).foldl (diffStep pts i) 1))
    (fun _ _ _ j => pts.length - (intOf j).toNat)
  case atStart => exact ⟨0, 1, by omega, by omega, rfl, rfl, hid_of rfl⟩
  case round =>
    obtain ⟨k, p', hk, hp', rfl, rfl, hd⟩ := hrel
    by_cases hlt : k < pts.length
    · obtain ⟨b', off', e, hck⟩ := u16_get hrd k hlt
      cases e
      have hpk := getD_lt hp k
      obtain ⟨pk, hpke⟩ : ∃ x, x = pts.getD k 0 := ⟨_, rfl⟩
      rw [← hpke] at hck hpk
      have HPK := hid_of hpke
      clear hpke
      have hx := xor16 pi pk hpi hpk
      have hnext : diffStep pts i p' k = (List.range (k + 1)).foldl (diffStep pts i) 1 := by
        rw [List.range_succ, List.foldl_append, ← hd.out]; rfl
      have HN := hid_of hnext
      clear hnext
      by_cases hki : k = i
      · have e1 : ((k : Int) == (i : Int)) = true := by simp; omega
        have e2 : ((k : Int) != (i : Int)) = false := by simp; omega
        have h3 : diffStep pts i p' k = p' := by unfold diffStep; rw [if_pos hki]
        have H3 := hid_of h3
        have HK := hid_of hki
        clear h3 hki
        go_wp2_with fail
        refine ⟨⟨k + 1, p', by omega, hp', rfl, by go_num, hid_of ?_⟩, by simp [intOf]; omega⟩
        rw [← HN.out, H3.out]
      · have e2 : ((k : Int) != (i : Int)) = true := by simp; omega
        have h3 : diffStep pts i p' k = Math.mul p' (pi ^^^ pk) := by unfold diffStep; rw [if_neg hki, ← HPI.out, ← HPK.out]
        have H3 := hid_of h3
        have HK := hid_of hki
        clear h3 hki
        go_wp2_with fail
        refine (Times_walk p' (pi ^^^ pk) hp' (xor_lt16 hpi hpk) _).mono ?_
        rintro e w' ⟨rfl, rfl⟩
        go_wp2_with fail
        refine ⟨⟨k + 1, Math.mul p' (pi ^^^ pk), by omega, Math.mul_lt hp' _, rfl, by go_num, hid_of ?_⟩, by simp [intOf]; omega⟩
        rw [← HN.out, H3.out]
    · obtain rfl : k = pts.length := by omega
      go_wp2
      go_ret
      refine ⟨?_, rfl⟩
      have := hd.out
      rw [this]
      rfl
end Go.Proofs.YtonjphollmdicaaGreatDoor
namespace Go.Proofs.YtonjphollmdicaaGreatDoor
open Go.ChangeShapes Go.WideShapes Go.ChangeAt Go.RowKit

def aheadL (pts : List Nat) (t i : Nat) : Nat := (pts.take i).foldl (fun a p => Math.mul a (t ^^^ p)) 1
def behindL (pts : List Nat) (t i : Nat) : Nat := (pts.drop i).foldr (fun p a => Math.mul a (t ^^^ p)) 1
def firstL (pts ss : List Nat) (t i : Nat) : Nat := Math.mul (ss.getD i 0) (aheadL pts t i)
def weightL (pts ss : List Nat) (t i : Nat) : Nat := Math.mul (firstL pts ss t i) (behindL pts t (i + 1))
def weightsL (pts ss : List Nat) (t : Nat) : List Nat := (List.range pts.length).map (weightL pts ss t)

def partL (n k : Nat) (f g : Nat → Nat) : List Nat := (List.range n).map fun j => if j < k then f j else g j
theorem partL_length (n k : Nat) (f g : Nat → Nat) : (partL n k f g).length = n := by simp [partL]
theorem partL_getD (n k : Nat) (f g : Nat → Nat) (j : Nat) (h : j < n) : (partL n k f g).getD j 0 = if j < k then f j else g j := by
  simp [partL, h]
theorem partL_up (n k : Nat) (f g : Nat → Nat) : (partL n k f g).set k (f k) = partL n (k + 1) f g := by
  apply List.ext_getElem
  · simp [partL]
  · intro j h1 h2
    simp only [partL, List.getElem_set, List.getElem_map, List.getElem_range]
    by_cases hj : k = j
    · subst hj; simp
    · rw [if_neg hj]
      by_cases hl : j < k
      · rw [if_pos hl, if_pos (by omega)]
      · rw [if_neg hl, if_neg (by omega)]
theorem partL_down (n k : Nat) (f g : Nat → Nat) : (partL n (k + 1) f g).set k (g k) = partL n k f g := by
  apply List.ext_getElem
  · simp [partL]
  · intro j h1 h2
    simp only [partL, List.getElem_set, List.getElem_map, List.getElem_range]
    by_cases hj : k = j
    · subst hj; simp
    · rw [if_neg hj]
      by_cases hl : j < k
      · rw [if_pos hl, if_pos (by omega)]
      · rw [if_neg hl, if_neg (by omega)]
theorem partL_zero (n : Nat) (f g : Nat → Nat) : partL n 0 f g = (List.range n).map g := by simp [partL]
theorem partL_full (n : Nat) (f g : Nat → Nat) : partL n n f g = (List.range n).map f := by
  apply List.map_congr_left
  intro j hj
  rw [if_pos (by simpa using hj)]
theorem range_getD (l : List Nat) : (List.range l.length).map (fun j => l.getD j 0) = l := by
  apply List.ext_getElem
  · simp
  · intro j h1 h2
    simp [List.getElem?_eq_getElem h2]

theorem aheadL_lt (pts : List Nat) (t i : Nat) : aheadL pts t i < 65536 := foldl_lt _ (fun _ _ h => Math.mul_lt h _) _ _ (by decide)
theorem aheadL_succ (pts : List Nat) (t i : Nat) (h : i < pts.length) : aheadL pts t (i + 1) = Math.mul (aheadL pts t i) (t ^^^ pts.getD i 0) := by
  unfold aheadL
  rw [take_snoc pts i h, List.foldl_append]
  simp [List.getElem?_eq_getElem h]
theorem behindL_lt (pts : List Nat) (t i : Nat) : behindL pts t i < 65536 := by
  unfold behindL
  induction pts.drop i with
  | nil => exact (by decide : (1 : Nat) < 65536)
  | cons x l ih => exact Math.mul_lt ih _
theorem behindL_pred (pts : List Nat) (t i : Nat) (h : i < pts.length) : behindL pts t i = Math.mul (behindL pts t (i + 1)) (t ^^^ pts.getD i 0) := by
  unfold behindL
  rw [List.drop_eq_getElem_cons h, List.foldr_cons]
  simp [List.getElem?_eq_getElem h]
theorem behindL_end (pts : List Nat) (t : Nat) : behindL pts t pts.length = 1 := by simp [behindL]

set_option maxRecDepth 100000 in
theorem Weights_walk (pts ss : List Nat) (t : Nat) (a1 a2 : Option Addr) (c1 c2 : Nat) (hn : pts.length ≤ 1000) (h0 : 0 < pts.length) (hss : ss.length = pts.length) (hp : ∀ x ∈ pts, x < 65536) (hs : ∀ x ∈ ss, x < 65536) (ht : t < 65536)
    (w : World) (hrd1 : Rd w a1 (u16V pts)) (hrd2 : Rd w a2 (u16V ss)) :
    Calls Tryz.prog 120 #[.agg #[.slice a1 pts.length c1, .slice a2 pts.length c2], .int .u16 (t : Int)] w fun e w' => ∃ v', e = .returned v' ∧ w'.ownsRow w.heap.size 80 1 v' pts.length (u16V (weightsL pts ss t)) ∧ Below w.heap.size w w' := by
  obtain ⟨i0, hi, hz0, hz1, hz2⟩ := info_parts Tryz.info16
  obtain ⟨b2, off2, rfl, hc20⟩ := u16_get hrd2 0 (by omega)
  have hlow : Below w.heap.size w (w.alloc (.cells #[.slice a1 pts.length c1, .slice (some ⟨b2, off2, none⟩) pts.length c2] 201)) := (Below.refl _ _).alloc (Nat.le_refl _) _
  have hbox : (w.alloc (.cells #[.slice a1 pts.length c1, .slice (some ⟨b2, off2, none⟩) pts.length c2] 201)).cell? ⟨w.heap.size, 0, none⟩ = some (.slice a1 pts.length c1) := by simp
  obtain ⟨W0, hW0⟩ : ∃ W0, W0 = w.alloc (.cells #[.slice a1 pts.length c1, .slice (some ⟨b2, off2, none⟩) pts.length c2] 201) := ⟨_, rfl⟩
  rw [← hW0] at hlow hbox
  have hs0 : W0.heap.size = w.heap.size + 1 := by rw [hW0]; simp
  have HW := hid_of hW0
  have HB := hid_of hbox
  have HS := hid_of hs0
  clear hbox hs0
  have hnews : ∀ j u, (u16V ss)[j]? = some u → (W0.alloc (.cells #[] 80)).cell? ((⟨b2, off2, none⟩ : Addr).add j) = some u := by
    intro j u hj
    obtain ⟨b', off', e, hc⟩ := (hrd2.later (Nat.le_refl _) (hlow.alloc (by rw [HS.out]; omega) (.cells #[] 80))) j u hj
    cases e
    have hadd : (⟨b2, off2, none⟩ : Addr).add j = ⟨b2, off2 + j, none⟩ := by unfold Addr.add; split <;> simp_all
    rw [hadd]
    exact hc
  have HNEWS := hid_of hnews
  have HRD2 := hid_of hrd2
  clear hnews hrd2 hc20
  rw [hW0] at HNEWS
  clear hW0
  go_enter Tryz.func120, Tryz.ntmps120
  go_wp2_with (at_builtin; refine wpList_append_grows _ rfl (.tmp 10) (.tmp 12) 121 rfl 80 i0 (.int .u16 0) 1 2 Tryz.underlying121 hi hz0 hz1 hz2 rfl (by decide) (some ⟨w.heap.size + 1, 0, none⟩) 0 0 [] rfl (by simp) rfl ?c1 ⟨b2, off2, none⟩ pts.length c2 (u16V ss) rfl ?c2 ?c3 ?c4 ?c5 ?c6 ?c7 ?_)
  case c1 => intro b _ j u hu; simp at hu
  case c2 => simp [u16V, hss]
  case c3 => exact HNEWS.out
  case c4 => intro u hu; simp only [u16V, List.mem_map] at hu; obtain ⟨c, _, rfl⟩ := hu; rfl
  case c5 => omega
  case c6 => unfold maxLen; omega
  case c7 => omega
  intro v1 w1 hown1 hg1
  rw [← HW.out] at hg1
  have hb1 : Below (w.heap.size + 1) W0 w1 := ((Below.refl _ W0).alloc (by rw [HS.out]; omega) _).grown hg1 (by simp; rw [HS.out]; omega) (by simp)
  have hown1' : w1.ownsRow (w.heap.size + 1) 80 1 v1 pts.length (u16V ss) := by
    have := ownsRow_base (base' := w.heap.size + 1) (by omega) hown1
    simpa using this
  obtain ⟨g, cap', hv, hgb⟩ : ∃ g cap', v1 = .slice (some ⟨g, 0, none⟩) pts.length cap' ∧ w.heap.size + 1 ≤ g := by
    rcases hown1'.2 with ⟨_, h⟩ | ⟨g, cap', cur, hv, hgb, _⟩
    · omega
    · exact ⟨g, cap', hv, hgb⟩
  rw [hv] at hown1' ⊢
  clear hown1 hg1 HNEWS hv
  have hfirst : u16V ss = u16V (partL pts.length 0 (firstL pts ss t) (fun j => ss.getD j 0)) := by rw [partL_zero, ← hss, range_getD]
  rw [hfirst] at hown1'
  have HA0 := hid_of hown1'
  clear hfirst hown1'
  go_wp2_with fail
  go_loopw [6, 7, 16] (fun x _ i wr => ∃ k : Nat, k ≤ pts.length ∧ i = .int .i64 (k : Int) ∧ x = .int .u16 ((aheadL pts t k : Nat) : Int) ∧ wr.ownsRow (w.heap.size + 1) 80 1 (.slice (some ⟨g, 0, none⟩) pts.length cap') pts.length (u16V (partL pts.length k (firstL pts ss t) (fun j => ss.getD j 0))) ∧ Below (w.heap.size + 1) W0 wr)
    (fun _ _ i _ => pts.length - (intOf i).toNat)
  case atStart => exact ⟨0, by omega, rfl, rfl, HA0.out, hb1⟩
  case round =>
    clear HA0 hb1
    obtain ⟨k, hk, rfl, rfl, hownr, hbl⟩ := hrel
    by_cases hlt : k < pts.length
    · obtain ⟨b1, off1, rfl, hp0⟩ := u16_get hrd1 k hlt
      have hpb := World.block_lt_of_cell? w _ hp0
      have hcp0 : wr.cell? ⟨b1, off1 + k, none⟩ = some (.int .u16 ((pts.getD k 0 : Nat) : Int)) := by
        rw [(hlow.trans (hbl.mono (by omega))).cell hpb]; exact hp0
      have hbx0 : wr.cell? ⟨w.heap.size, 0, none⟩ = some (.slice (some ⟨b1, off1, none⟩) pts.length c1) := by rw [hbl.cell (by simp)]; exact HB.out
      have hck0 : wr.cell? ⟨g, k, none⟩ = some (.int .u16 ((ss.getD k 0 : Nat) : Int)) := by
        rw [hownr.cellAt k (by omega)]
        have := partL_getD pts.length k (firstL pts ss t) (fun j => ss.getD j 0) k hlt
        rw [if_neg (by omega)] at this
        rw [← this]
        simp [u16V, partL_length, hlt]
      have hfz := hownr.frozenAt k
      have hst := (hownr.stored k (.int .u16 ((firstL pts ss t k : Nat) : Int))).1
      have hown' : (wr.setCell ⟨g, k, none⟩ (.int .u16 ((firstL pts ss t k : Nat) : Int))).ownsRow (w.heap.size + 1) 80 1 (.slice (some ⟨g, 0, none⟩) pts.length cap') pts.length (u16V (partL pts.length (k + 1) (firstL pts ss t) (fun j => ss.getD j 0))) := by
        rw [← partL_up]
        have e : u16V ((partL pts.length k (firstL pts ss t) (fun j => ss.getD j 0)).set k (firstL pts ss t k)) = (u16V (partL pts.length k (firstL pts ss t) (fun j => ss.getD j 0))).set k (.int .u16 ((firstL pts ss t k : Nat) : Int)) := by simp [u16V, List.map_set]
        rw [e]; exact hst
      have hB' := hbl.setCell (p := ⟨g, k, none⟩) hgb (.int .u16 ((firstL pts ss t k : Nat) : Int))
      have hbx1 : (wr.setCell ⟨g, k, none⟩ (.int .u16 ((firstL pts ss t k : Nat) : Int))).cell? ⟨w.heap.size, 0, none⟩ = some (.slice (some ⟨b1, off1, none⟩) pts.length c1) := by
        rw [hB'.cell (by simp)]; exact HB.out
      have hcp1 : (wr.setCell ⟨g, k, none⟩ (.int .u16 ((firstL pts ss t k : Nat) : Int))).cell? ⟨b1, off1 + k, none⟩ = some (.int .u16 ((pts.getD k 0 : Nat) : Int)) := by
        rw [(hlow.trans (hB'.mono (by omega))).cell hpb]; exact hp0
      have hsucc := aheadL_succ pts t k hlt
      have hal := aheadL_lt pts t k
      have hsl := getD_lt hs k
      have hpl := getD_lt hp k
      have hfe : firstL pts ss t k = Math.mul (ss.getD k 0) (aheadL pts t k) := rfl
      have HO := hid_of hown'
      have HBB := hid_of hB'
      have HR1 := hid_of hrd1
      rw [hfe] at hbx1 hcp1 HO HBB
      rw [← hfe] at HO HBB
      clear hst hown' hB' hownr hp0 hrd1
      obtain ⟨pk, hpk⟩ : ∃ x, x = pts.getD k 0 := ⟨_, rfl⟩
      obtain ⟨sk, hsk⟩ : ∃ x, x = ss.getD k 0 := ⟨_, rfl⟩
      obtain ⟨ak, hak⟩ : ∃ x, x = aheadL pts t k := ⟨_, rfl⟩
      rw [← hpk] at hcp0 hcp1 hpl hsucc
      rw [← hsk] at hck0 hsl hbx1 hcp1 hfe
      rw [← hak] at hal hsucc hbx1 hcp1 hfe ⊢
      have hx := xor16 t pk ht hpl
      have HF := hid_of hfe
      have HSU := hid_of hsucc
      clear hpk hsk hak hfe hsucc
      go_wp2_with fail
      refine (Times_walk sk ak hsl hal _).mono ?_
      rintro e w' ⟨rfl, rfl⟩
      go_wp2_with fail
      refine (Times_walk ak (t ^^^ pk) hal (xor_lt16 ht hpl) _).mono ?_
      rintro e w'' ⟨rfl, rfl⟩
      go_wp2_with fail
      rw [← HSU.out, ← HF.out]
      go_roundw
      case rel => exact ⟨k + 1, by omega, by go_num, rfl, HO.out, HBB.out⟩
      case measure => simp [intOf]; omega
    · obtain rfl : k = pts.length := by omega
      have hpart : partL pts.length pts.length (firstL pts ss t) (fun j => ss.getD j 0) = partL pts.length pts.length (firstL pts ss t) (weightL pts ss t) := by rw [partL_full, partL_full]
      rw [hpart] at hownr
      have HA1 := hid_of hownr
      clear hownr hpart
      obtain ⟨an, han⟩ : ∃ x, x = aheadL pts t pts.length := ⟨_, rfl⟩
      rw [← han]
      clear han
      go_wp2_with fail
      have hb2 := hbl
      go_loopw [8, 9] (fun x i wr => ∃ k : Nat, k ≤ pts.length ∧ i = .int .i64 ((k : Int) - 1) ∧ x = .int .u16 ((behindL pts t k : Nat) : Int) ∧ wr.ownsRow (w.heap.size + 1) 80 1 (.slice (some ⟨g, 0, none⟩) pts.length cap') pts.length (u16V (partL pts.length k (firstL pts ss t) (weightL pts ss t))) ∧ Below (w.heap.size + 1) W0 wr)
        (fun _ i _ => (intOf i + 1).toNat)
      case atStart => exact ⟨pts.length, by omega, by go_num, by rw [behindL_end]; rfl, HA1.out, hb2⟩
      case round =>
        clear HA1 hb2 hbl
        obtain ⟨k, hk, rfl, rfl, hownr, hbl⟩ := hrel
        by_cases hlt : 0 < k
        · obtain ⟨m, rfl⟩ : ∃ m, k = m + 1 := ⟨k - 1, by omega⟩
          have hml : m < pts.length := by omega
          obtain ⟨b1, off1, rfl, hp0⟩ := u16_get hrd1 m hml
          have hpb := World.block_lt_of_cell? w _ hp0
          have hck0 : wr.cell? ⟨g, m, none⟩ = some (.int .u16 ((firstL pts ss t m : Nat) : Int)) := by
            rw [hownr.cellAt m (by omega)]
            have := partL_getD pts.length (m + 1) (firstL pts ss t) (weightL pts ss t) m hml
            rw [if_pos (by omega)] at this
            rw [← this]
            simp [u16V, partL_length, hml]
          have hfz := hownr.frozenAt m
          have hst := (hownr.stored m (.int .u16 ((weightL pts ss t m : Nat) : Int))).1
          have hown' : (wr.setCell ⟨g, m, none⟩ (.int .u16 ((weightL pts ss t m : Nat) : Int))).ownsRow (w.heap.size + 1) 80 1 (.slice (some ⟨g, 0, none⟩) pts.length cap') pts.length (u16V (partL pts.length m (firstL pts ss t) (weightL pts ss t))) := by
            rw [← partL_down]
            have e : u16V ((partL pts.length (m + 1) (firstL pts ss t) (weightL pts ss t)).set m (weightL pts ss t m)) = (u16V (partL pts.length (m + 1) (firstL pts ss t) (weightL pts ss t))).set m (.int .u16 ((weightL pts ss t m : Nat) : Int)) := by simp [u16V, List.map_set]
            rw [e]; exact hst
          have hB' := hbl.setCell (p := ⟨g, m, none⟩) hgb (.int .u16 ((weightL pts ss t m : Nat) : Int))
          have hbx1 : (wr.setCell ⟨g, m, none⟩ (.int .u16 ((weightL pts ss t m : Nat) : Int))).cell? ⟨w.heap.size, 0, none⟩ = some (.slice (some ⟨b1, off1, none⟩) pts.length c1) := by
            rw [hB'.cell (by simp)]; exact HB.out
          have hcp1 : (wr.setCell ⟨g, m, none⟩ (.int .u16 ((weightL pts ss t m : Nat) : Int))).cell? ⟨b1, off1 + m, none⟩ = some (.int .u16 ((pts.getD m 0 : Nat) : Int)) := by
            rw [(hlow.trans (hB'.mono (by omega))).cell hpb]; exact hp0
          have hsucc := behindL_pred pts t m hml
          have hal := behindL_lt pts t (m + 1)
          have hfl : firstL pts ss t m < 65536 := Math.mul_lt (getD_lt hs m) _
          have hpl := getD_lt hp m
          have hfe : weightL pts ss t m = Math.mul (firstL pts ss t m) (behindL pts t (m + 1)) := rfl
          have HO := hid_of hown'
          have HBB := hid_of hB'
          have HR1 := hid_of hrd1
          rw [hfe] at hbx1 hcp1
          clear hst hown' hB' hownr hp0 hrd1
          obtain ⟨pk, hpk⟩ : ∃ x, x = pts.getD m 0 := ⟨_, rfl⟩
          obtain ⟨sk, hsk⟩ : ∃ x, x = firstL pts ss t m := ⟨_, rfl⟩
          obtain ⟨ak, hak⟩ : ∃ x, x = behindL pts t (m + 1) := ⟨_, rfl⟩
          rw [← hpk] at hcp1 hpl hsucc
          rw [← hsk] at hck0 hfl hbx1 hcp1 hfe
          rw [← hak] at hal hsucc hbx1 hcp1 hfe ⊢
          have hx := xor16 t pk ht hpl
          have HF := hid_of hfe
          have HSU := hid_of hsucc
          clear hpk hsk hak hfe hsucc
          go_wp2_with fail
          refine (Times_walk sk ak hfl hal _).mono ?_
          rintro e w' ⟨rfl, rfl⟩
          go_wp2_with fail
          refine (Times_walk ak (t ^^^ pk) hal (xor_lt16 ht hpl) _).mono ?_
          rintro e w'' ⟨rfl, rfl⟩
          go_wp2_with fail
          rw [← HSU.out, ← HF.out]
          go_roundw
          case rel => exact ⟨m, by omega, by go_num, rfl, HO.out, HBB.out⟩
          case measure => simp [intOf]
        · obtain rfl : k = 0 := by omega
          have hres : wr.ownsRow w.heap.size 80 1 (.slice (some ⟨g, 0, none⟩) pts.length cap') pts.length (u16V (weightsL pts ss t)) := by
            rw [partL_zero] at hownr
            exact ownsRow_base (by omega) hownr
          have hfin := hlow.trans (hbl.mono (by omega))
          obtain ⟨bn, hbn⟩ : ∃ x, x = behindL pts t 0 := ⟨_, rfl⟩
          rw [← hbn]
          clear hbn hownr
          go_wp2_with fail
          go_ret
          exact ⟨_, rfl, hres, hfin⟩
end Go.Proofs.YtonjphollmdicaaGreatDoor
