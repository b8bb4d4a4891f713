import Derived.Test.YtonjphollmdicaaGreatDoorB00
import Derived.Test.YtonjphollmdicaaGreatDoorRows
import Derived.WalkKit
import Derived.ProofKit
import Derived.OpenShut
import Derived.LoopTactic
import Derived.Laws.BitsAllLaws
import Derived.WalkLawsBesides
import Derived.Maps.AppendAt
import Derived.Lib.AppendStr
import Derived.Lib.SlBytesConst
import Derived.Laws.IdiomStrings
import Derived.ArgAppend
namespace Go.Proofs.YtonjphollmdicaaGreatDoor
open Go.ChangeShapes Go.WideShapes Go.ChangeAt Go.RowKit

theorem Inverse_walk (a : Nat) (ha : a < 65536) (w : World) :
    Calls Tryz.prog 137 #[.int .u16 (a : Int)] w fun e w' => e = .returned (.int .u16 ((Math.inv a : Nat) : Int)) ∧ w' = w := by
  go_enter Tryz.func137, Tryz.ntmps137
  go_wp2
  go_loop [3, 4, 6] (fun x p i => ∃ k a' p' : Nat, k ≤ 15 ∧ a' < 65536 ∧ p' < 65536 ∧ Hid (Math.invGo (15 - k) a' p' = Math.inv a) ∧ x = .int .u16 (a' : Int) ∧ p = .int .u16 (p' : Int) ∧ i = .int .i64 (k : Int))
                    (fun _ _ i => 15 - (intOf i).toNat)
  case atStart => exact ⟨0, a, 1, by omega, ha, by omega, hid_of rfl, rfl, rfl, rfl⟩
  case round =>
    obtain ⟨k, a', p', hk, ha', hp', hm, rfl, rfl, rfl⟩ := hrel
    by_cases hlt : k < 15
    · have hs : Math.mul a' a' < 65536 := Math.mul_lt ha' a'
      go_wp2_with fail
      refine (Times_walk a' a' ha' ha' w).mono ?_
      rintro e w' ⟨rfl, rfl⟩
      go_wp2_with fail
      refine (Times_walk p' (Math.mul a' a') hp' hs _).mono ?_
      rintro e w' ⟨rfl, rfl⟩
      go_wp2_with fail
      refine ⟨⟨k + 1, Math.sq a', Math.mul p' (Math.sq a'), by omega, Math.sq_lt ha', Math.mul_lt hp' _, hid_of ?_, rfl, rfl, by go_num⟩, ?_⟩
      · have := hm.out
        rw [show 15 - k = (15 - (k + 1)) + 1 from by omega] at this
        exact this
      · simp [intOf]; omega
    · have hk15 : k = 15 := by omega
      subst hk15
      go_wp2_with fail
      go_ret
      have := hm.out
      simp only [Nat.sub_self, Math.invGo] at this
      rw [← this]
      exact ⟨rfl, rfl⟩

def P64 : Nat := 18446744073709551616
def hashStep (h : Nat) (c : UInt8) : Nat := ((h ^^^ c.toNat) * 1099511628211) % P64
def hashL (l : List UInt8) : Nat := l.foldl hashStep 14695981039346656037

theorem hashStep_lt (h : Nat) (c : UInt8) : hashStep h c < P64 := Nat.mod_lt _ (by decide)

theorem hashStep_spelt (h : Nat) (hh : h < P64) (c : UInt8) :
    IntKind.u64.wrap (bits BinOp.xor IntKind.u64 (h : Int) (IntKind.u64.wrap (c.toNat : Int)) * 1099511628211) = ((hashStep h c : Nat) : Int) := by
  have hc : c.toNat < 256 := c.toNat_lt
  have e1 : IntKind.u64.wrap (c.toNat : Int) = (c.toNat : Int) := by rw [IntKind.wrap_u64]; omega
  have hh' : h < 18446744073709551616 := hh
  rw [e1, u64_xor_nat h c.toNat hh' (by omega), IntKind.wrap_u64]
  unfold hashStep P64
  omega

theorem drop_at (s : ByteArray) (k : Nat) (h : k < s.size) : s.data.toList.drop k = s[k] :: s.data.toList.drop (k + 1) := by
  rw [List.drop_eq_getElem_cons (by simpa using h)]
  rfl

theorem Hash_walk (s : ByteArray) (hs : s.size ≤ 1000000) (w : World) :
    Calls Tryz.prog 92 #[.string s] w fun e w' => e = .returned (.int .u64 ((hashL s.data.toList : Nat) : Int)) ∧ w' = w := by
  go_enter Tryz.func92, Tryz.ntmps92
  go_wp2
  go_loop [3, 4, 7] (fun x p i => ∃ k h' : Nat, k ≤ s.size ∧ h' < P64 ∧ Hid ((s.data.toList.drop k).foldl hashStep h' = hashL s.data.toList) ∧ x = .int .u64 (h' : Int) ∧ i = .int .i64 (k : Int))
                    (fun _ _ i => s.size - (intOf i).toNat)
  case atStart => exact ⟨0, 14695981039346656037, by omega, by decide, hid_of rfl, rfl, rfl⟩
  case round =>
    obtain ⟨k, h', hk, hh', hm, rfl, rfl⟩ := hrel
    by_cases hlt : k < s.size
    · go_wp2
      refine ⟨⟨k + 1, hashStep h' s[k], by omega, hashStep_lt _ _, hid_of ?_, by rw [hashStep_spelt h' hh'], by go_num⟩, ?_⟩
      · have := hm.out
        rw [drop_at s k hlt, List.foldl_cons] at this
        exact this
      · simp [intOf]; omega
    · have hk2 : k = s.size := by omega
      subst hk2
      go_wp2
      go_ret
      have := hm.out
      rw [List.drop_eq_nil_of_le (by rw [Array.length_toList]; exact Nat.le_refl _)] at this
      simp only [List.foldl_nil] at this
      rw [← this]
      exact ⟨rfl, rfl⟩

def byteAt (n k : Nat) : UInt8 := UInt8.ofNat (n / 2 ^ (8 * k))
/-- a number as so many bytes, the high ones first -/
def numBytes (n : Nat) : Nat → List UInt8
  | 0 => []
  | k + 1 => byteAt n k :: numBytes n k

theorem numBytes_length (n k : Nat) : (numBytes n k).length = k := by
  induction k with
  | zero => rfl
  | succ k ih => simp [numBytes, ih]

def bytesV (l : List UInt8) : List Value := l.map fun b => Value.int .u8 b.toNat

theorem Tryz.info8 : (Tryz.prog.info? 5).map (fun i => (i.zero, i.size, i.bytes)) = some (some (.int .u8 0), 1, 1) := by kernel_rfl

theorem byteAt_spelt (x m : Nat) : (x : Int) / 2 ^ (8 * m) % 256 = ((byteAt x m).toNat : Int) := by
  unfold byteAt
  simp

theorem bytesV_append (a b : List UInt8) : bytesV (a ++ b) = bytesV a ++ bytesV b := by simp [bytesV]
theorem bytesV_one (l : List UInt8) : ∀ u ∈ bytesV l, u.oneCell' = true := by
  intro u hu
  simp only [bytesV, List.mem_map] at hu
  obtain ⟨c, _, rfl⟩ := hu
  rfl

/-- a row of the call's own behind a step that wrote only to it -/
theorem below_step {base : Nat} {w wr w1 : World} {v : Value} {e : TypeId} {sz n : Nat} {xs : List Value} {o : Obj} (hbl : Below base w wr) (hb : base ≤ wr.heap.size) (hown : wr.ownsRow base e sz v n xs)
    (hg : (wr.alloc o).grownBy w1 v.ownBlock) : Below base w w1 :=
  (hbl.alloc hb o).grown hg (by simp; omega) (fun k hk => (hown.lt k hk).1)

theorem appendNumber_walk (v : Value) (n : Nat) (xs : List UInt8) (x size : Nat) (base : Nat) (w : World) (hsize : size ≤ 8) (hn : n ≤ 1000000) (hbase : base ≤ w.heap.size)
    (hown : w.ownsRow base 5 1 v n (bytesV xs)) :
    Calls Tryz.prog 125 #[v, .int .u64 (x : Int), .int .i64 (size : Int)] w fun e w' => ∃ v', e = .returned v' ∧ w'.ownsRow base 5 1 v' (n + size) (bytesV (xs ++ numBytes x size)) ∧ Below base w w' := by
  obtain ⟨i0, hi, hz0, hz1, hz2⟩ := info_parts Tryz.info8
  go_enter Tryz.func125, Tryz.ntmps125
  go_wp2
  go_loopw [0, 7] (fun t i wr => ∃ (k : Nat) (ys : List UInt8), k ≤ size ∧ i = .int .i64 ((k : Int) - 1) ∧ wr.ownsRow base 5 1 t (n + (size - k)) (bytesV (xs ++ ys)) ∧ Below base w wr ∧ Hid (ys ++ numBytes x k = numBytes x size))
    (fun _ i _ => (intOf i + 1).toNat)
  case atStart => exact ⟨size, [], by omega, by go_num, by simpa using hown, Below.refl _ _, hid_of (by simp)⟩
  case round =>
    obtain ⟨k, ys, hk, rfl, hownr, hbl, hys⟩ := hrel
    have hsz := hbl.size
    by_cases hlt : 0 < k
    · obtain ⟨m, rfl⟩ : ∃ m, k = m + 1 := ⟨k - 1, by omega⟩
      go_wp2_with (at_builtin; refine wpList_append_own _ rfl _ _ 67 rfl base 5 i0 (.int .u8 0) 1 1 Tryz.underlying67 hi hz0 hz1 hz2 rfl (by decide) _ _ _ rfl (hownr.alloc _) ⟨wr.heap.size, 0, none⟩ 1 1 [.int .u8 ((x : Int) / 2 ^ (8 * m) % 256)] rfl rfl (cell_one_new _ _ _) ?c2 ?c3 ?c4 ?c5 ?_)
      case c2 => intro u hu; simp at hu; subst hu; rfl
      case c3 => unfold maxLen; omega
      case c4 => omega
      case c5 => simp; omega
      · intro v' w1 hown' hgrow _
        have hB := below_step hbl (by omega) hownr hgrow
        have hown2 : w1.ownsRow base 5 1 v' (n + (size - m)) (bytesV (xs ++ (ys ++ [byteAt x m]))) := by
          have e : n + (size - m) = n + (size - (m + 1)) + 1 := by omega
          rw [e, ← List.append_assoc, bytesV_append]
          rw [byteAt_spelt] at hown'
          exact hown'
        clear hown' hgrow hownr hown
        go_wp2
        go_roundw
        case rel => exact ⟨m, ys ++ [byteAt x m], by omega, by go_num, hown2, hB, hid_of (by have := hys.out; simp only [numBytes] at this; simpa using this)⟩
        case measure => simp [intOf]
    · obtain rfl : k = 0 := by omega
      go_wp2
      go_ret
      have := hys.out
      simp only [numBytes, List.append_nil] at this
      subst this
      exact ⟨_, rfl, by simpa using hownr, hbl⟩

def str (l : List UInt8) : ByteArray := ⟨l.toArray⟩
theorem str_data (l : List UInt8) : (str l).data.toList = l := by simp [str]
theorem str_size (l : List UInt8) : (str l).size = l.length := by simp [str, ByteArray.size]

/-- string(b), b a row of the call's own -/
theorem owned_string {w : World} {base : Nat} {v : Value} {n : Nat} {l : List UInt8} (h : w.ownsRow base 5 1 v n (bytesV l)) :
    (convert 67 9 v).run Tryz.prog w = .ok (.string (str l)) w := by
  have hn : l.length = n := by have := h.1; simpa [bytesV] using this
  rcases h.2 with ⟨rfl, rfl⟩ | ⟨g, cap, cur, rfl, _, hg, _, _, _, htake⟩
  · have hl : l = [] := List.eq_nil_of_length_eq_zero hn
    subst hl
    exact run_convert_bytes_nil w 67 5 Tryz.underlying67 Tryz.underlying5 0 0 9 Tryz.underlying9
  · subst hn
    refine run_convert_bytes_back w 67 9 5 ⟨g, 0, none⟩ cap l Tryz.underlying67 Tryz.underlying5 Tryz.underlying9 ?_
    intro j hj
    exact h.cells (g := g) rfl j _ (by simp [bytesV, List.getElem?_eq_getElem hj])

theorem ownsRow_base {w : World} {base base' : Nat} {e : TypeId} {sz : Nat} {v : Value} {n : Nat} {xs : List Value} (hb : base' ≤ base) (h : w.ownsRow base e sz v n xs) : w.ownsRow base' e sz v n xs := by
  refine ⟨h.1, ?_⟩
  rcases h.2 with h2 | ⟨g, cap, cur, hv, hg, r⟩
  · exact Or.inl h2
  · exact Or.inr ⟨g, cap, cur, hv, Nat.le_trans hb hg, r⟩

theorem numBytes_len (n k : Nat) : (numBytes n k).length = k := numBytes_length n k

theorem below_grown {base : Nat} {w wr w1 : World} {v : Value} {e : TypeId} {sz n : Nat} {xs : List Value} (hbl : Below base w wr) (hb : base ≤ wr.heap.size) (hown : wr.ownsRow base e sz v n xs)
    (hg : wr.grownBy w1 v.ownBlock) : Below base w w1 :=
  hbl.grown hg hb (fun k hk => (hown.lt k hk).1)

theorem strCells_bytesV (s : ByteArray) : Lib.strCells s = bytesV s.data.toList := rfl

/-- P4: an R packet's body -/
def extraBodyL (number : Nat) (slice : List UInt8) : List UInt8 := numBytes number 2 ++ slice

theorem str_add (a : List UInt8) (s : ByteArray) : str a ++ s = str (a ++ s.data.toList) := by
  apply ByteArray.ext
  simp [str]

set_option maxRecDepth 100000 in
theorem ExtraBody_walk (number : Nat) (s : ByteArray) (hn : number < 1000000) (hs : s.size ≤ 1000000) (w : World) :
    Calls Tryz.prog 102 #[.int .i64 (number : Int), .string s] w fun e w' => e = .returned (.string (str (extraBodyL number s.data.toList))) ∧ Below w.heap.size w w' := by
  go_enter Tryz.func102, Tryz.ntmps102
  go_wp2_with fail
  refine (appendNumber_walk _ 0 [] number 2 w.heap.size w (by omega) (by omega) (Nat.le_refl _) (World.ownsRow_nil _ _ _ _)).mono ?_
  rintro e w1 ⟨v', rfl, hown, hbl⟩
  have hc := owned_string hown
  have hsz : (str (numBytes number 2)).size + s.size ≤ 9223372036854775807 := by rw [str_size, numBytes_len]; omega
  go_wp2_with fail
  go_ret
  refine ⟨?_, hbl⟩
  show Ending.returned (.string (str (numBytes number 2) ++ s)) = _
  rw [str_add]
  rfl

/-- a packet -/
def headL (kind : UInt8) (set : Nat) (body : List UInt8) : List UInt8 := [83, 65, 76, kind] ++ numBytes set 8 ++ numBytes body.length 2 ++ body
def sealL (kind : UInt8) (set : Nat) (body : List UInt8) : List UInt8 := headL kind set body ++ numBytes (hashL (headL kind set body)) 8

theorem hashL_lt (l : List UInt8) : hashL l < P64 := by
  unfold hashL
  have : ∀ (l : List UInt8) (h : Nat), h < P64 → l.foldl hashStep h < P64 := by
    intro l
    induction l with
    | nil => intro h hh; exact hh
    | cons c l ih => intro h _; exact ih _ (hashStep_lt _ _)
  exact this l _ (by decide)

theorem three_cells (w : World) (o : Obj) : ∀ b, some (⟨w.heap.size, 0, none⟩ : Addr) = some b → ∀ j u, (bytesV [83, 65, 76])[j]? = some u →
    ((w.alloc (.cells #[.int .u8 83, .int .u8 65, .int .u8 76] 5 (3, 4))).alloc o).cell? (b.add j) = some u := by
  intro b hb j u hu
  cases hb
  have hadd : (⟨w.heap.size, 0, none⟩ : Addr).add j = ⟨w.heap.size, j, none⟩ := by unfold Addr.add; split <;> simp_all
  rw [hadd]
  have h1 : ((w.alloc (.cells #[.int .u8 83, .int .u8 65, .int .u8 76] 5 (3, 4))).alloc o).heap[w.heap.size]? = some (.cells #[.int .u8 83, .int .u8 65, .int .u8 76] 5 (3, 4)) := by
    rw [Below.heap_alloc _ _ _ (by simp), heap_alloc_new]
  rw [cell_of_row _ w.heap.size j _ _ _ h1]
  rcases j with _ | _ | _ | j
  · simpa [bytesV] using hu
  · simpa [bytesV] using hu
  · simpa [bytesV] using hu
  · simp [bytesV] at hu

set_option maxRecDepth 100000 in
theorem Seal_walk (kind : UInt8) (set : Nat) (s : ByteArray) (hs : s.size ≤ 100000) (w : World) :
    Calls Tryz.prog 100 #[.int .u8 (kind.toNat : Int), .int .u64 (set : Int), .string s] w fun e w' => e = .returned (.string (str (sealL kind set s.data.toList))) ∧ Below w.heap.size w w' := by
  obtain ⟨i0, hi, hz0, hz1, hz2⟩ := info_parts Tryz.info8
  have kc := fun (w : World) (C : Array Value) (n c : Nat) => Lib.run_convert_bytes_const (P := Tryz.prog) w 67 5 C n c Tryz.underlying67 Tryz.underlying5
  go_enter Tryz.func100, Tryz.ntmps100
  go_wp2_with (at_builtin; refine wpList_append_grows _ rfl (.tmp 9) (.tmp 11) 67 rfl 5 i0 (.int .u8 0) 1 1 Tryz.underlying67 hi hz0 hz1 hz2 rfl (by decide) (some ⟨w.heap.size, 0, none⟩) 3 3 (bytesV [83, 65, 76]) rfl (by simp) rfl ?c1 ⟨w.heap.size + 1, 0, none⟩ 1 1 [.int .u8 (kind.toNat : Int)] rfl rfl ?c2 ?c3 (by omega) ?c4 (by omega) ?_)
  case c1 => exact three_cells w _
  case c2 =>
    have := cell_one_new (w.alloc (.cells #[.int .u8 83, .int .u8 65, .int .u8 76] 5 (3, 4))) (.int .u8 (kind.toNat : Int)) 5
    simpa using this
  case c3 => intro u hu; simp at hu; subst hu; rfl
  case c4 => unfold maxLen; omega
  intro v1 w1 hown1 hg1
  have hb1 : Below w.heap.size w w1 := (((Below.refl _ w).alloc (Nat.le_refl _) _).alloc (by simp) _).grown hg1 (by simp; omega) (by simp)
  have hown1' : w1.ownsRow w.heap.size 5 1 v1 4 (bytesV [83, 65, 76, kind]) := ownsRow_base (by omega) hown1
  clear hown1 hg1 kc
  have hsz1 := hb1.size
  go_wp2_with fail
  refine (appendNumber_walk v1 4 _ set 8 w.heap.size w1 (by omega) (by omega) (by omega) hown1').mono ?_
  rintro e w2 ⟨v2, rfl, hown2, hb2'⟩
  have hb2 := hb1.trans hb2'
  have hsz2 := hb2.size
  clear hown1' hb2' hb1 hsz1
  go_wp2_with fail
  refine (appendNumber_walk v2 12 _ s.size 2 w.heap.size w2 (by omega) (by omega) (by omega) hown2).mono ?_
  rintro e w3 ⟨v3, rfl, hown3, hb3'⟩
  have hb3 := hb2.trans hb3'
  have hsz3 := hb3.size
  clear hown2 hb3' hb2 hsz2
  go_wp2_with (at_builtin; refine Lib.wpList_append_own_string _ rfl (.tmp 21) (.tmp 22) 67 9 rfl w.heap.size 5 i0 Tryz.underlying67 Tryz.underlying9 hi hz0 hz1 hz2 v3 14 _ rfl hown3 s rfl ?c5 ?c6 ?c7 ?_)
  case c5 => unfold maxLen; omega
  case c6 => omega
  case c7 => omega
  intro v4 w4 hown4 hg4 _
  have hb4 := below_grown hb3 hsz3 hown3 hg4
  rw [strCells_bytesV, ← bytesV_append] at hown4
  have hsz4 := hb4.size
  have eh : [83, 65, 76, kind] ++ numBytes set 8 ++ numBytes s.size 2 ++ s.data.toList = headL kind set s.data.toList := by
    unfold headL
    rw [Array.length_toList]
    rfl
  have hown4' : w4.ownsRow w.heap.size 5 1 v4 (14 + s.size) (bytesV (headL kind set s.data.toList)) := by rw [← eh]; exact hown4
  clear hown4
  have hown4 := hown4'
  clear hown4' eh hown3 hg4 hb3 hsz3
  have hc4 := owned_string hown4
  have hlen : (headL kind set s.data.toList).length = 14 + s.size := by
    have := hown4.1
    simpa [bytesV] using this
  have HL := hid_of hlen
  clear hlen
  go_wp2_with fail
  refine (Hash_walk (str (headL kind set s.data.toList)) (by rw [str_size, HL.out]; omega) w4).mono ?_
  rintro e w5 ⟨rfl, rfl⟩
  rw [str_data]
  go_wp2_with fail
  refine (appendNumber_walk v4 (14 + s.size) _ (hashL (headL kind set s.data.toList)) 8 w.heap.size w5 (by omega) (by omega) (by omega) hown4).mono ?_
  rintro e w6 ⟨v6, rfl, hown6, hb6'⟩
  have hb6 := hb4.trans hb6'
  have hc6 := owned_string hown6
  clear hown4 hown6 hb6' hb4 hc4
  go_wp2_with fail
  go_ret
  exact ⟨rfl, hb6⟩

/-! ### the same, by lists of bytes -/
theorem Hash_l (l : List UInt8) (hl : l.length ≤ 1000000) (w : World) :
    Calls Tryz.prog 92 #[.string (str l)] w fun e w' => e = .returned (.int .u64 ((hashL l : Nat) : Int)) ∧ w' = w := by
  have := Hash_walk (str l) (by rw [str_size]; exact hl) w
  rw [str_data] at this
  exact this
theorem ExtraBody_l (number : Nat) (l : List UInt8) (hn : number < 1000000) (hl : l.length ≤ 1000000) (w : World) :
    Calls Tryz.prog 102 #[.int .i64 (number : Int), .string (str l)] w fun e w' => e = .returned (.string (str (extraBodyL number l))) ∧ Below w.heap.size w w' := by
  have := ExtraBody_walk number (str l) hn (by rw [str_size]; exact hl) w
  rw [str_data] at this
  exact this
theorem Seal_l (kind : UInt8) (set : Nat) (l : List UInt8) (hl : l.length ≤ 100000) (w : World) :
    Calls Tryz.prog 100 #[.int .u8 (kind.toNat : Int), .int .u64 (set : Int), .string (str l)] w fun e w' => e = .returned (.string (str (sealL kind set l))) ∧ Below w.heap.size w w' := by
  have := Seal_walk kind set (str l) (by rw [str_size]; exact hl) w
  rw [str_data] at this
  exact this
theorem str_of (s : ByteArray) : s = str s.data.toList := by
  apply ByteArray.ext
  simp [str]

/-! ### a slice that is only read -/
/-- the cells behind a slice's address, one a value -/
def Rd (w : World) (a : Option Addr) (xs : List Value) : Prop := ∀ k u, xs[k]? = some u → ∃ b off, a = some ⟨b, off, none⟩ ∧ w.cell? ⟨b, off + k, none⟩ = some u

theorem Rd.later {w w' : World} {a : Option Addr} {xs : List Value} (h : Rd w a xs) {B : Nat} (hB : w.heap.size ≤ B) (hb : Below B w w') : Rd w' a xs := by
  intro k u hk
  obtain ⟨b, off, rfl, hc⟩ := h k u hk
  refine ⟨b, off, rfl, ?_⟩
  rw [hb.cell (Nat.lt_of_lt_of_le (World.block_lt_of_cell? w _ hc) hB)]
  exact hc

theorem ownsRow_rd {w : World} {base : Nat} {e : TypeId} {v : Value} {n : Nat} {xs : List Value} (h : w.ownsRow base e 1 v n xs) :
    ∃ a cap, v = .slice a n cap ∧ n ≤ cap ∧ cap ≤ maxLen ∧ Rd w a xs := by
  have hl : xs.length = n := by have := h.1; simpa using this
  rcases h.2 with ⟨rfl, rfl⟩ | ⟨g, cap, cur, rfl, _, hg, h1, h2, _, _⟩
  · have : xs = [] := List.eq_nil_of_length_eq_zero hl
    subst this
    exact ⟨none, 0, rfl, Nat.le_refl _, Nat.zero_le _, fun k u hk => by simp at hk⟩
  · refine ⟨_, cap, rfl, h1, h2, fun k u hk => ⟨g, 0, rfl, ?_⟩⟩
    have := h.cells (g := g) rfl k u hk
    have hadd : (⟨g, 0, none⟩ : Addr).add k = ⟨g, 0 + k, none⟩ := by unfold Addr.add; split <;> simp_all
    rw [hadd] at this
    exact this

theorem ownsRow_later {w w' : World} {base : Nat} {e : TypeId} {sz : Nat} {v : Value} {n : Nat} {xs : List Value} (h : w.ownsRow base e sz v n xs) {B : Nat} (hB : w.heap.size ≤ B) (hb : Below B w w') : w'.ownsRow base e sz v n xs := by
  refine ⟨h.1, ?_⟩
  rcases h.2 with h2 | ⟨g, cap, cur, hv, hg, hh, r⟩
  · exact Or.inl h2
  · exact Or.inr ⟨g, cap, cur, hv, hg, by rw [hb.block g (Nat.lt_of_lt_of_le (Array.getElem?_eq_some_iff.1 hh).1 hB)]; exact hh, r⟩

theorem Below.next {w w1 w2 : World} (h : Below w.heap.size w w1) (k : Below w1.heap.size w1 w2) : Below w.heap.size w w2 := h.trans (k.mono h.size)
end Go.Proofs.YtonjphollmdicaaGreatDoor
namespace Go.Proofs.YtonjphollmdicaaGreatDoor
open Go.ChangeShapes Go.WideShapes Go.ChangeAt Go.RowKit

/-- bytes as a number of 64 bits -/
def numStep (n : Nat) (b : UInt8) : Nat := (n * 256 + b.toNat) % P64
def numL (l : List UInt8) : Nat := l.foldl numStep 0
theorem numStep_lt (n : Nat) (b : UInt8) : numStep n b < P64 := Nat.mod_lt _ (by decide)
theorem num_fold_lt (l : List UInt8) : ∀ n, n < P64 → l.foldl numStep n < P64 := by
  induction l with
  | nil => intro n h; exact h
  | cons b r ih => intro n _; exact ih _ (numStep_lt n b)
theorem numL_lt (l : List UInt8) : numL l < P64 := num_fold_lt l 0 (by decide)
theorem num_fold_small (l : List UInt8) : ∀ (n m : Nat), n < m → m * 256 ^ l.length ≤ P64 → l.foldl numStep n < m * 256 ^ l.length := by
  induction l with
  | nil => intro n m h _; simpa using h
  | cons b r ih =>
    intro n m h h2
    have hb := b.toNat_lt
    have e : m * 256 ^ (b :: r).length = (m * 256) * 256 ^ r.length := by rw [List.length_cons, Nat.pow_succ, Nat.mul_assoc, Nat.mul_comm 256]
    rw [e] at h2 ⊢
    have hp : 0 < 256 ^ r.length := Nat.pow_pos (by decide)
    have hm : m * 256 ≤ P64 := Nat.le_trans (Nat.le_mul_of_pos_right _ hp) h2
    have hs : numStep n b = n * 256 + b.toNat := by unfold numStep; exact Nat.mod_eq_of_lt (by omega)
    exact ih _ _ (by rw [hs]; omega) h2
/-- two bytes are a number below 65536 -/
theorem numL_two (l : List UInt8) (h : l.length ≤ 2) : numL l < 65536 := by
  have h1 := num_fold_small l 0 1 (by decide) (by
    rw [Nat.one_mul]
    exact Nat.le_trans (Nat.pow_le_pow_right (by decide) h) (by decide))
  rw [Nat.one_mul] at h1
  exact Nat.lt_of_lt_of_le h1 (Nat.le_trans (Nat.pow_le_pow_right (by decide) h) (by decide))
theorem numL_one (b : UInt8) : numL [b] = b.toNat := by
  have := b.toNat_lt
  simp only [numL, List.foldl_cons, List.foldl_nil, numStep, P64]
  omega

/-- a packet that was found -/
structure FoundL where
  kind : UInt8
  set : Nat
  body : List UInt8

/-- how many bytes the body of a packet has that begins here -/
def bodyN (s : List UInt8) : Nat := numL ((s.drop 12).take 2)
/-- one of the three kinds -/
def kindL (k : UInt8) : Bool := k == 77 || k == 70 || k == 82
def isRight (s : List UInt8) : Bool := decide (22 ≤ s.length) && (s.take 3 == [83, 65, 76]) && kindL (s.getD 3 0) && decide (22 + bodyN s ≤ s.length) && (hashL (s.take (14 + bodyN s)) == numL ((s.drop (14 + bodyN s)).take 8))
def foundAt (s : List UInt8) : FoundL := ⟨s.getD 3 0, numL ((s.drop 4).take 8), (s.drop 14).take (bodyN s)⟩
/-- the packet that begins a text, and how many bytes it has -/
def rightL (s : List UInt8) : Option (FoundL × Nat) := if isRight s then some (foundAt s, 22 + bodyN s) else none

theorem bodyN_lt (s : List UInt8) : bodyN s < 65536 := numL_two _ (by rw [List.length_take]; omega)

/-- all packets of a text, so many steps -/
def findG : Nat → List UInt8 → List FoundL
  | 0, _ => []
  | _ + 1, [] => []
  | k + 1, b :: r => match rightL (b :: r) with
    | some (f, n) => f :: findG k ((b :: r).drop n)
    | none => findG k r
def findV (s : List UInt8) : List FoundL := findG s.length s
def findL (vs : List (List UInt8)) : List FoundL := vs.flatMap findV

theorem right_pos {s : List UInt8} {f : FoundL} {n : Nat} (h : rightL s = some (f, n)) : 22 ≤ n ∧ n ≤ s.length := by
  unfold rightL at h
  split at h
  · rename_i hr
    simp only [Option.some.injEq, Prod.mk.injEq] at h
    unfold isRight at hr
    simp only [Bool.and_eq_true, decide_eq_true_eq] at hr
    omega
  · cases h

theorem findG_more : ∀ (k : Nat) (s : List UInt8), s.length ≤ k → findG k s = findG s.length s := by
  intro k
  induction k using Nat.strongRecOn with
  | ind k ih =>
    intro s hs
    cases s with
    | nil => cases k <;> rfl
    | cons b r =>
      cases k with
      | zero => simp at hs
      | succ k =>
        simp only [List.length_cons] at hs ⊢
        simp only [findG]
        cases h : rightL (b :: r) with
        | none =>
          exact ih k (by omega) r (by omega)
        | some x =>
          obtain ⟨f, n⟩ := x
          have hn := right_pos h
          simp only [List.length_cons] at hn
          have hd : ((b :: r).drop n).length ≤ r.length := by rw [List.length_drop, List.length_cons]; omega
          simp only
          rw [ih k (by omega) _ (by omega)]
          by_cases e : r.length = k
          · rw [e, ih k (by omega) _ (by omega)]
          · rw [ih r.length (by omega) _ hd]

theorem findV_nil : findV [] = [] := rfl
/-- one step of the way through a text -/
theorem findV_step (s : List UInt8) (h : 0 < s.length) : findV s = match rightL s with | some (f, n) => f :: findV (s.drop n) | none => findV (s.drop 1) := by
  cases s with
  | nil => simp at h
  | cons b r =>
    unfold findV
    simp only [List.length_cons, findG]
    cases hr : rightL (b :: r) with
    | none => simp
    | some x =>
      obtain ⟨f, n⟩ := x
      have hn := right_pos hr
      simp only [List.length_cons] at hn
      simp only
      rw [findG_more _ _ (by rw [List.length_drop, List.length_cons]; omega)]
end Go.Proofs.YtonjphollmdicaaGreatDoor
