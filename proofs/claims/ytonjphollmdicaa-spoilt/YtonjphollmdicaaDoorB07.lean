import Derived.Test.YtonjphollmdicaaDoorB00
import Derived.Test.YtonjphollmdicaaDoorB01
import Derived.Test.YtonjphollmdicaaDoorB05
import Derived.Test.YtonjphollmdicaaDoorB06
import Derived.Deep.QuietTactic
import Derived.BigQuiet
import Derived.Deep.OwnRows
import Derived.Deep.RegionWith
import Derived.Laws.AppendOwnNone
namespace Go.Proofs.YtonjphollmdicaaDoor
open Go.ChangeShapes Go.WideShapes Go.ChangeAt Go.RowKit

def pickI (c : Int) : Int := if c < 0 then -(c + 1) else c
def pickN (c : Int) (n : Nat) : Nat := (pickI c % (n : Int)).toNat
theorem pickN_lt (c : Int) (n : Nat) (h : 0 < n) : pickN c n < n := by
  unfold pickN
  have := Int.emod_lt_of_pos (pickI c) (show (0 : Int) < (n : Int) by omega)
  omega

theorem kpick_walk (c : Int) (n : Nat) (hn : 0 < n) (hn2 : n ≤ 1000) (h1 : -9223372036854775808 ≤ c) (h2 : c ≤ 9223372036854775807) (w : World) :
    Calls Tryd.prog 10 #[.int .i64 c, .int .i64 (n : Int)] w fun e w' => e = .returned (.int .i64 ((pickN c n : Nat) : Int)) ∧ w' = w := by
  by_cases h : c < 0
  · go_enter Tryd.func10, Tryd.ntmps10
    go_wp2
    go_ret
    refine ⟨?_, rfl⟩
    have e : -(c + 1).tmod (n : Int) = ((pickN c n : Nat) : Int) := by
      unfold pickN pickI
      rw [if_pos h, ← Int.neg_tmod, Int.tmod_eq_emod_of_nonneg (by omega)]
      have := Int.emod_nonneg (-(c + 1)) (show (n : Int) ≠ 0 by omega)
      omega
    show Ending.returned (.int .i64 (-(c + 1).tmod (n : Int))) = _
    rw [e]
  · go_enter Tryd.func10, Tryd.ntmps10
    go_wp2
    go_ret
    refine ⟨?_, rfl⟩
    have e : c % (n : Int) = ((pickN c n : Nat) : Int) := by
      unfold pickN pickI
      rw [if_neg (by omega)]
      have := Int.emod_nonneg c (show (n : Int) ≠ 0 by omega)
      omega
    show Ending.returned (.int .i64 (c % (n : Int))) = _
    rw [e]

/-- the raw set that a law is handed -/
structure KSet where
  D : List (List UInt8)
  sl : Int
  ex : Int
def kSize (s : KSet) : Nat := 2 + 2 * pickN s.sl 4
def kExtra (s : KSet) : Nat := pickN s.ex 21
structure KOk (w : World) (s : KSet) (a : Option Addr) (cap : Nat) : Prop where
  rd : Rd w a (strV s.D)
  len : s.D.length ≤ 9223372036854775807
  short : ∀ d ∈ s.D, d.length ≤ 9223372036854775807
  s1 : -9223372036854775808 ≤ s.sl
  s2 : s.sl ≤ 9223372036854775807
  x1 : -9223372036854775808 ≤ s.ex
  x2 : s.ex ≤ 9223372036854775807
theorem KOk.later {w w' : World} {s : KSet} {a : Option Addr} {cap : Nat} (h : KOk w s a cap) (hb : Below w.heap.size w w') : KOk w' s a cap :=
  ⟨h.rd.later (Nat.le_refl _) hb, h.len, h.short, h.s1, h.s2, h.x1, h.x2⟩
def kV (s : KSet) (a : Option Addr) (cap : Nat) : Value := .agg #[.slice a s.D.length cap, .int .i64 s.sl, .int .i64 s.ex]

theorem kslice_walk (s : KSet) (a : Option Addr) (cap : Nat) (w : World) (h : KOk w s a cap) :
    Calls Tryd.prog 9 #[kV s a cap] w fun e w' => e = .returned (.int .i64 ((kSize s : Nat) : Int)) ∧ Below w.heap.size w w' := by
  unfold kV
  have hl := pickN_lt s.sl 4 (by omega)
  have HH := hid_of h
  clear h
  go_enter Tryd.func9, Tryd.ntmps9
  go_wp2_with fail
  refine (kpick_walk s.sl 4 (by omega) (by omega) HH.out.s1 HH.out.s2 _).mono ?_
  rintro e w' ⟨rfl, rfl⟩
  go_wp2_with fail
  go_ret
  refine ⟨?_, (Below.refl _ _).alloc (Nat.le_refl _) _⟩
  show Ending.returned (.int .i64 (2 + 2 * ((pickN s.sl 4 : Nat) : Int))) = _
  unfold kSize
  congr 2
theorem kextra_walk (s : KSet) (a : Option Addr) (cap : Nat) (w : World) (h : KOk w s a cap) :
    Calls Tryd.prog 6 #[kV s a cap] w fun e w' => e = .returned (.int .i64 ((kExtra s : Nat) : Int)) ∧ Below w.heap.size w w' := by
  unfold kV
  have HH := hid_of h
  clear h
  go_enter Tryd.func6, Tryd.ntmps6
  go_wp2_with fail
  refine (kpick_walk s.ex 21 (by omega) (by omega) HH.out.x1 HH.out.x2 _).mono ?_
  rintro e w' ⟨rfl, rfl⟩
  go_wp2_with fail
  go_ret
  exact ⟨rfl, (Below.refl _ _).alloc (Nat.le_refl _) _⟩

def kName (i : Nat) : List UInt8 := [102, UInt8.ofNat (48 + i)]
def kFile (s : KSet) (i : Nat) : FileL := (kName i, (s.D.getD i []).take 30)
def kRaw (s : KSet) (n : Nat) : List FileL := (List.range n).map (kFile s)
def kCount (s : KSet) : Nat := min s.D.length 4
def kOne (s : KSet) : List FileL := if kCount s = 0 then [(kName 0, [120])] else kRaw s (kCount s)
def kFix (l : List FileL) : List FileL := match l with
  | [] => []
  | f :: r => (if f.2 = [] then (f.1, [120]) else f) :: r
def kFiles (s : KSet) : List FileL := kFix (kOne s)

theorem Tryd.infoF : (Tryd.prog.info? 43).map (fun i => (i.zero, i.size, i.bytes)) = some (some (.agg #[.string ByteArray.empty, .string ByteArray.empty]), 2, 32) := by kernel_rfl

theorem byte_string (W : World) (b : Nat) (hb : b < 256) (x : Int) (hx : x = (b : Int)) :
    (convert 39 9 (.slice (some ⟨W.heap.size, 0, none⟩) 1 1)).run Tryd.prog (W.alloc (.cells #[.int .u8 x] 5)) = .ok (.string (str [UInt8.ofNat b])) (W.alloc (.cells #[.int .u8 x] 5)) := by
  subst hx
  have := run_convert_bytes_back (P := Tryd.prog) (W.alloc (.cells #[.int .u8 (b : Int)] 5)) 39 9 5 ⟨W.heap.size, 0, none⟩ 1 [UInt8.ofNat b] Tryd.underlying39 Tryd.underlying5 Tryd.underlying9 (by
    intro j hj
    have : j = 0 := by simpa using hj
    subst this
    simp [Addr.add]
    omega)
  exact this

theorem two_at (W : World) (x y : Value) (t : TypeId) (g : Nat) (hg : g = W.heap.size) : ∀ j u, [x, y][j]? = some u → (W.alloc (.cells #[x, y] t)).cell? ((⟨g, 0, none⟩ : Addr).add j) = some u := by
  subst hg; exact two_new W x y t

set_option maxRecDepth 100000 in
theorem kfiles_walk (s : KSet) (a : Option Addr) (cap : Nat) (w : World) (h : KOk w s a cap) :
    Calls Tryd.prog 12 #[kV s a cap] w fun e w' => ∃ v, e = .returned v ∧ w'.ownsRow w.heap.size 43 2 v (kFiles s).length (filesV (kFiles s)) ∧ Below w.heap.size w w' := by
  unfold kV
  obtain ⟨i0, hi, hz0, hz1, hz2⟩ := info_parts Tryd.infoF
  have hlow : Below w.heap.size w (w.alloc (.cells #[.slice a s.D.length cap, .int .i64 s.sl, .int .i64 s.ex] 24)) := (Below.refl _ _).alloc (Nat.le_refl _) _
  have hbox : (w.alloc (.cells #[.slice a s.D.length cap, .int .i64 s.sl, .int .i64 s.ex] 24)).cell? ⟨w.heap.size, 0, none⟩ = some (.slice a s.D.length cap) := by simp
  obtain ⟨W0, hW0⟩ : ∃ W0, W0 = w.alloc (.cells #[.slice a s.D.length cap, .int .i64 s.sl, .int .i64 s.ex] 24) := ⟨_, rfl⟩
  rw [← hW0] at hlow hbox
  have hs0 : W0.heap.size = w.heap.size + 1 := by rw [hW0]; simp
  have H1 := hid_of hlow
  have H2 := hid_of hbox
  have H3 := hid_of hW0
  have H4 := hid_of hs0
  have H5 := hid_of h
  have hDl := h.len
  clear hlow hbox hW0 hs0 h
  go_enter Tryd.func12, Tryd.ntmps12
  go_wp2_with fail
  rw [← H3.out]
  go_loopw [3, 4, 5] (fun l i _ wr => ∃ k : Nat, k ≤ s.D.length ∧ k ≤ 4 ∧ i = .int .i64 (k : Int) ∧ wr.ownsRow (w.heap.size + 1) 43 2 l k (filesV (kRaw s k)) ∧ Below (w.heap.size + 1) W0 wr)
    (fun _ i _ _ => 4 - (intOf i).toNat)
  case atStart => exact ⟨0, by omega, by omega, rfl, World.ownsRow_nil _ _ _ _, Below.refl _ _⟩
  case round =>
    obtain ⟨k, hk, hk4, rfl, hownr, hbl⟩ := hrel
    have hsz := hbl.size
    rw [H4.out] at hsz
    have hbx : wr.cell? ⟨w.heap.size, 0, none⟩ = some (.slice a s.D.length cap) := by rw [hbl.cell (by simp)]; exact H2.out
    have hww : Below w.heap.size w wr := H1.out.trans (hbl.mono (by omega))
    by_cases hlt : k < s.D.length
    · by_cases hlt4 : k < 4
      · obtain ⟨b, off, rfl, hc⟩ := (H5.out.rd.later (Nat.le_refl _) hww) k (.string (str s.D[k])) (by simp [strV, hlt])
        have hsd : (str s.D[k]).size = s.D[k].length := str_size _
        have hsd2 := H5.out.short s.D[k] (List.getElem_mem hlt)
        have hconv := fun W => byte_string W (48 + k) (by omega) (48 + (k : Int)) (by omega)
        obtain ⟨cb, hcb⟩ : ∃ x, x = UInt8.ofNat (48 + k) := ⟨_, rfl⟩
        rw [← hcb] at hconv
        have HCB := hid_of hcb
        clear hcb
        have hcat : (ByteArray.mk #[102]) ++ str [cb] = str [102, cb] := str_add [102] (str [cb])
        have hext : (str s.D[k]).extract 0 30 = str (s.D[k].take 30) := by rw [str_extract]; simp
        have hraw : filesV (kRaw s (k + 1)) = filesV (kRaw s k) ++ [.string (str [102, cb]), .string (str (s.D[k].take 30))] := by
          unfold kRaw
          rw [List.range_succ, List.map_append]
          unfold filesV
          rw [List.flatMap_append]
          congr 1
          simp only [List.map_cons, List.map_nil, List.flatMap_cons, List.flatMap_nil, List.append_nil, kFile, kName]
          rw [← HCB.out]
          simp [hlt]
        have HRAW := hid_of hraw
        have HBL := hid_of hbl
        have HWW := hid_of hww
        clear hraw hbl hww
        by_cases h30 : 30 < s.D[k].length
        · go_wp2_with (at_builtin; refine wpList_append_own _ rfl (.tmp 27) (.tmp 36) 26 rfl (w.heap.size + 1) 43 i0 (.agg #[.string ByteArray.empty, .string ByteArray.empty]) 2 32 Tryd.underlying26 hi hz0 hz1 hz2 rfl (by decide) _ _ _ rfl ((hownr.alloc _).alloc _) ⟨wr.heap.size + 1, 0, none⟩ 1 1 [.string (str [102, cb]), .string (str (s.D[k].take 30))] rfl rfl ?c1 ?c2 ?c3 ?c4 ?c5 ?_)
          case c1 => exact two_at _ _ _ _ _ (by simp)
          case c2 => intro u hu; simp at hu; rcases hu with rfl | rfl <;> rfl
          case c3 => unfold maxLen; omega
          case c4 => omega
          case c5 => simp; omega
          intro v6 w6 hown6 hg6 _
          have hb6 := below_step (HBL.out.alloc hsz _) (by simp; omega) (hownr.alloc _) hg6
          rw [← HRAW.out] at hown6
          have K1 := hid_of hown6
          have K2 := hid_of hb6
          clear hown6 hg6 hb6 hownr hconv hcat hext
          go_wp2_with fail
          go_roundw
          case rel => exact ⟨k + 1, by omega, by omega, by go_num, K1.out, K2.out⟩
          case measure => simp [intOf]; omega
        · have htk : s.D[k].take 30 = s.D[k] := List.take_of_length_le (by omega)
          rw [htk] at HRAW hext
          clear htk
          go_wp2_with (at_builtin; refine wpList_append_own _ rfl (.tmp 27) (.tmp 36) 26 rfl (w.heap.size + 1) 43 i0 (.agg #[.string ByteArray.empty, .string ByteArray.empty]) 2 32 Tryd.underlying26 hi hz0 hz1 hz2 rfl (by decide) _ _ _ rfl ((hownr.alloc _).alloc _) ⟨wr.heap.size + 1, 0, none⟩ 1 1 [.string (str [102, cb]), .string (str s.D[k])] rfl rfl ?d1 ?d2 ?d3 ?d4 ?d5 ?_)
          case d1 => exact two_at _ _ _ _ _ (by simp)
          case d2 => intro u hu; simp at hu; rcases hu with rfl | rfl <;> rfl
          case d3 => unfold maxLen; omega
          case d4 => omega
          case d5 => simp; omega
          intro v6 w6 hown6 hg6 _
          have hb6 := below_step (HBL.out.alloc hsz _) (by simp; omega) (hownr.alloc _) hg6
          rw [← HRAW.out] at hown6
          have K1 := hid_of hown6
          have K2 := hid_of hb6
          clear hown6 hg6 hb6 hownr hconv hcat hext
          go_wp2_with fail
          go_roundw
          case rel => exact ⟨k + 1, by omega, by omega, by go_num, K1.out, K2.out⟩
          case measure => simp [intOf]; omega
      · obtain hkc : kCount s = k := by unfold kCount; omega
        have hfin : ∀ W, Below (w.heap.size + 1) W0 W → Below w.heap.size w W := fun W hW => H1.out.trans (hW.mono (by omega))
        have HFIN := hid_of hfin
        have HBL := hid_of hbl
        have HKC := hid_of hkc
        clear hfin hkc hbl hww
        by_cases hk0 : k = 0
        · omega
        · have hraw0 : ∃ r, kRaw s k = kFile s 0 :: r := by
            obtain ⟨m, rfl⟩ : ∃ m, k = m + 1 := ⟨k - 1, by omega⟩
            unfold kRaw
            rw [List.range_succ_eq_map]
            exact ⟨_, rfl⟩
          obtain ⟨r, hr⟩ := hraw0
          have hkl : (kRaw s k).length = k := by simp [kRaw]
          have hkf : kFiles s = kFix (kFile s 0 :: r) := by unfold kFiles kOne; rw [HKC.out, if_neg hk0, hr]
          rw [hr] at hownr hkl
          obtain ⟨d0, hd0⟩ : ∃ d, d = (kFile s 0).2 := ⟨_, rfl⟩
          obtain ⟨n0, hn0⟩ : ∃ d, d = (kFile s 0).1 := ⟨_, rfl⟩
          have hf0 : kFile s 0 = (n0, d0) := by rw [hd0, hn0]
          rw [hf0] at hownr hkf hkl
          obtain ⟨g, c6, hv6⟩ : ∃ g c6, u3 = .slice (some ⟨g, 0, none⟩) k c6 := by
            rcases hownr.2 with ⟨_, h1⟩ | ⟨g, c, cur, h1, _⟩
            · omega
            · exact ⟨_, _, h1⟩
          have hgb : w.heap.size + 1 ≤ g := by
            have := (hownr.lt g (by rw [hv6]; rfl)).1
            exact this
          rw [hv6] at hownr ⊢
          have hcell : wr.cell? ⟨g, 1, none⟩ = some (.string (str d0)) := by rw [hownr.cellAt 1 (by omega)]; rfl
          have hfz := hownr.frozenAt 1
          have hst := (hownr.stored 1 (.string ⟨#[120]⟩)).1
          have hB := HBL.out.setCell (p := ⟨g, 1, none⟩) hgb (.string ⟨#[120]⟩)
          have hlen : (kFiles s).length = k := by rw [hkf, ← hkl]; simp [kFix]
          have K1 := hid_of hownr
          have K2 := hid_of hst
          have K3 := hid_of hB
          have K4 := hid_of hkf
          have K5 := hid_of hlen
          have HK := hid_of hk0
          have hk0' : 0 < k := by omega
          clear hownr hst hB hkf hlen hkl hr hf0 hd0 hn0 hv6 hk0
          have htl := str_toList d0
          by_cases hde : d0 = []
          · subst hde
            go_wp2_with fail
            go_ret
            refine ⟨_, rfl, ?_, HFIN.out _ K3.out⟩
            rw [K5.out]
            refine ownsRow_base (base := w.heap.size + 1) (by omega) ?_
            have e : filesV (kFiles s) = (filesV ((n0, []) :: r)).set 1 (.string ⟨#[120]⟩) := by
              rw [K4.out]
              rfl
            rw [e]
            exact K2.out
          · have hne : d0.isEmpty = false := by cases d0 with | nil => exact absurd rfl hde | cons _ _ => rfl
            have HDE := hid_of hde
            clear hde
            go_wp2_with fail
            go_ret
            refine ⟨_, rfl, ?_, HFIN.out _ HBL.out⟩
            rw [K5.out]
            refine ownsRow_base (base := w.heap.size + 1) (by omega) ?_
            have e : kFiles s = (n0, d0) :: r := by
              rw [K4.out]
              simp only [kFix]
              rw [if_neg HDE.out]
            rw [e]
            exact K1.out
    · obtain hkc : kCount s = k := by unfold kCount; omega
      have hfin : ∀ W, Below (w.heap.size + 1) W0 W → Below w.heap.size w W := fun W hW => H1.out.trans (hW.mono (by omega))
      have HFIN := hid_of hfin
      have HBL := hid_of hbl
      have HKC := hid_of hkc
      clear hfin hkc hbl hww
      by_cases hk0 : k = 0
      · subst hk0
        have hform : ∃ ao c, u3 = .slice ao 0 c := by
          rcases hownr.2 with ⟨h1, _⟩ | ⟨g, c, cur, h1, _⟩
          · exact ⟨_, _, h1⟩
          · exact ⟨_, _, h1⟩
        obtain ⟨ao, c3, hu3⟩ := hform
        rw [hu3] at hownr ⊢
        clear hu3
        go_wp2_with (at_builtin; refine wpList_append_own _ rfl (.tmp 41) (.tmp 43) 26 rfl (w.heap.size + 1) 43 i0 (.agg #[.string ByteArray.empty, .string ByteArray.empty]) 2 32 Tryd.underlying26 hi hz0 hz1 hz2 rfl (by decide) _ _ _ rfl (hownr.alloc _) ⟨wr.heap.size, 0, none⟩ 1 1 [.string ⟨#[102, 48]⟩, .string ⟨#[120]⟩] rfl rfl (two_new _ _ _ _) ?q1 ?q2 ?q3 ?q4 ?_)
        case q1 => intro u hu; simp at hu; rcases hu with rfl | rfl <;> rfl
        case q2 => unfold maxLen; omega
        case q3 => omega
        case q4 => simp; omega
        intro v6 w6 hown6 hg6 _
        have hb6 := below_step HBL.out hsz hownr hg6
        have hkf : kFiles s = [(kName 0, [120])] := by unfold kFiles kOne; rw [if_pos HKC.out]; rfl
        have hown6' : w6.ownsRow (w.heap.size + 1) 43 2 v6 1 (filesV [(kName 0, [120])]) := by
          have e : filesV (kRaw s 0) ++ [Value.string ⟨#[102, 48]⟩, .string ⟨#[120]⟩] = filesV [(kName 0, [120])] := rfl
          rw [← e]
          exact hown6
        obtain ⟨g, c6, hv6⟩ : ∃ g c6, v6 = .slice (some ⟨g, 0, none⟩) 1 c6 := by
          rcases hown6'.2 with ⟨_, h1⟩ | ⟨g, c, cur, h1, _⟩
          · omega
          · exact ⟨_, _, h1⟩
        rw [hv6] at hown6' ⊢
        have hcell : w6.cell? ⟨g, 1, none⟩ = some (.string ⟨#[120]⟩) := by rw [hown6'.cellAt 1 (by omega)]; rfl
        have hne : ((ByteArray.mk #[120]).toList == (ByteArray.mk #[]).toList) = false := by decide +kernel
        have hres := ownsRow_base (base' := w.heap.size) (by omega) hown6'
        have hlast := HFIN.out w6 hb6
        have K1 := hid_of hres
        have K2 := hid_of hlast
        have K3 := hid_of hkf
        clear hres hlast hown6' hown6 hg6 hb6 hownr hv6 hkf
        go_wp2_with fail
        go_ret
        refine ⟨_, rfl, ?_, K2.out⟩
        rw [K3.out]
        exact K1.out
      · have hraw0 : ∃ r, kRaw s k = kFile s 0 :: r := by
          obtain ⟨m, rfl⟩ : ∃ m, k = m + 1 := ⟨k - 1, by omega⟩
          unfold kRaw
          rw [List.range_succ_eq_map]
          exact ⟨_, rfl⟩
        obtain ⟨r, hr⟩ := hraw0
        have hkl : (kRaw s k).length = k := by simp [kRaw]
        have hkf : kFiles s = kFix (kFile s 0 :: r) := by unfold kFiles kOne; rw [HKC.out, if_neg hk0, hr]
        rw [hr] at hownr hkl
        obtain ⟨d0, hd0⟩ : ∃ d, d = (kFile s 0).2 := ⟨_, rfl⟩
        obtain ⟨n0, hn0⟩ : ∃ d, d = (kFile s 0).1 := ⟨_, rfl⟩
        have hf0 : kFile s 0 = (n0, d0) := by rw [hd0, hn0]
        rw [hf0] at hownr hkf hkl
        obtain ⟨g, c6, hv6⟩ : ∃ g c6, u3 = .slice (some ⟨g, 0, none⟩) k c6 := by
          rcases hownr.2 with ⟨_, h1⟩ | ⟨g, c, cur, h1, _⟩
          · omega
          · exact ⟨_, _, h1⟩
        have hgb : w.heap.size + 1 ≤ g := by
          have := (hownr.lt g (by rw [hv6]; rfl)).1
          exact this
        rw [hv6] at hownr ⊢
        have hcell : wr.cell? ⟨g, 1, none⟩ = some (.string (str d0)) := by rw [hownr.cellAt 1 (by omega)]; rfl
        have hfz := hownr.frozenAt 1
        have hst := (hownr.stored 1 (.string ⟨#[120]⟩)).1
        have hB := HBL.out.setCell (p := ⟨g, 1, none⟩) hgb (.string ⟨#[120]⟩)
        have hlen : (kFiles s).length = k := by rw [hkf, ← hkl]; simp [kFix]
        have K1 := hid_of hownr
        have K2 := hid_of hst
        have K3 := hid_of hB
        have K4 := hid_of hkf
        have K5 := hid_of hlen
        have HK := hid_of hk0
        have hk0' : 0 < k := by omega
        clear hownr hst hB hkf hlen hkl hr hf0 hd0 hn0 hv6 hk0
        have htl := str_toList d0
        by_cases hde : d0 = []
        · subst hde
          go_wp2_with fail
          go_ret
          refine ⟨_, rfl, ?_, HFIN.out _ K3.out⟩
          rw [K5.out]
          refine ownsRow_base (base := w.heap.size + 1) (by omega) ?_
          have e : filesV (kFiles s) = (filesV ((n0, []) :: r)).set 1 (.string ⟨#[120]⟩) := by
            rw [K4.out]
            rfl
          rw [e]
          exact K2.out
        · have hne : d0.isEmpty = false := by cases d0 with | nil => exact absurd rfl hde | cons _ _ => rfl
          have HDE := hid_of hde
          clear hde
          go_wp2_with fail
          go_ret
          refine ⟨_, rfl, ?_, HFIN.out _ HBL.out⟩
          rw [K5.out]
          refine ownsRow_base (base := w.heap.size + 1) (by omega) ?_
          have e : kFiles s = (n0, d0) :: r := by
            rw [K4.out]
            simp only [kFix]
            rw [if_neg HDE.out]
          rw [e]
          exact K1.out
end Go.Proofs.YtonjphollmdicaaDoor
namespace Go.Proofs.YtonjphollmdicaaDoor
open Go.ChangeShapes Go.WideShapes Go.ChangeAt Go.RowKit

theorem sealL_len (k : UInt8) (set : Nat) (b : List UInt8) : (sealL k set b).length = 22 + b.length := by
  unfold sealL headL
  simp only [List.length_append, numBytes_len, List.length_cons, List.length_nil]
  omega

/-- files of a row that a call owns -/
theorem handed_of {W : World} {B : Nat} {v : Value} {fs : List FileL} (h : W.ownsRow B 43 2 v fs.length (filesV fs)) (h0 : 0 < fs.length) (hn : ∀ f ∈ fs, f.1.length < 140737488355328 ∧ f.2.length < 140737488355328) :
    ∃ g c, v = .slice (some ⟨g, 0, none⟩) fs.length c ∧ Handed W fs (some ⟨g, 0, none⟩) c := by
  rcases h.2 with ⟨_, h1⟩ | ⟨g, c, cur, rfl, hb, hg, hnc, _, _, _⟩
  · omega
  · refine ⟨g, c, rfl, ⟨?_, hnc, hn⟩⟩
    intro k u hk
    have := h.cells (g := g) rfl k u hk
    have hadd : (⟨g, 0, none⟩ : Addr).add k = ⟨g, 0 + k, none⟩ := by unfold Addr.add; split <;> simp_all
    rw [hadd] at this
    exact ⟨g, 0, rfl, this⟩

def exFs : List FileL := [([97], [0, 1, 0, 2])]
theorem packets_short {size : Nat} {fs : List FileL} {extra : Nat} (h0 : 0 < size) (h32 : size ≤ 32) (hg : goodSet fs size = true) : ∀ t ∈ packetsL size fs extra, t.length ≤ 4000 := by
  unfold goodSet at hg
  rw [Bool.and_eq_true, Bool.and_eq_true] at hg
  obtain ⟨_, h6, hf⟩ := set_facts hg.1.1
  intro t ht
  unfold packetsL at ht
  rw [List.mem_cons, List.mem_append] at ht
  rcases ht with rfl | ht | ht
  · rw [sealL_len]
    unfold mainL mainBodyL
    simp only [List.length_append, numBytes_len, hashesL_len, List.length_map]
    unfold bodiesL
    simp only [List.length_map, List.length_range]
    omega
  · unfold fPacketsL at ht
    rw [List.mem_map] at ht
    obtain ⟨b, hb, rfl⟩ := ht
    unfold bodiesL at hb
    rw [List.mem_map] at hb
    obtain ⟨i, hi, rfl⟩ := hb
    have hi := List.mem_range.1 hi
    rw [sealL_len]
    have hmem : fs.getD i ([], []) ∈ fs := by
      rw [List.getD_eq_getElem?_getD, List.getElem?_eq_getElem hi]
      exact List.getElem_mem hi
    have hfi := hf _ hmem
    unfold bodyL fileBodyL fileHeadL
    simp only [List.length_append, numBytes_len, hashesL_len, List.length_map, (cutL_len _ size h0).1]
    have : slicesOfN (fs.getD i ([], [])).2.length size ≤ 400 := by
      unfold slicesOfN
      rw [Nat.div_le_iff_le_mul_add_pred h0]
      have h1 : 400 * 1 ≤ 400 * size := Nat.mul_le_mul_left _ h0
      have h2 : size * 400 = 400 * size := Nat.mul_comm _ _
      omega
    omega
  · unfold rPacketsL at ht
    rw [List.mem_map] at ht
    obtain ⟨j, _, rfl⟩ := ht
    unfold rPacketL
    rw [sealL_len]
    unfold extraBodyL
    simp only [List.length_append, numBytes_len, textL_len, extraL_len]
    omega
end Go.Proofs.YtonjphollmdicaaDoor
namespace Go.Proofs.YtonjphollmdicaaDoor
open Go.ChangeShapes Go.WideShapes Go.ChangeAt Go.RowKit

/-- bytes as a number of 64 bits -/
def numStep (n : Nat) (b : UInt8) : Nat := (n * 256 + b.toNat) % P64
def numL (l : List UInt8) : Nat := l.foldl numStep 0
theorem numStep_lt (n : Nat) (b : UInt8) : numStep n b < P64 := Nat.mod_lt _ (by decide)
theorem num_fold_lt (l : List UInt8) : ∀ n, n < P64 → l.foldl numStep n < P64 := by
  induction l with
  | nil => intro n h; exact h
  | cons b r ih => intro n _; exact ih _ (numStep_lt n b)
theorem numL_lt (l : List UInt8) : numL l < P64 := num_fold_lt l 0 (by decide)
theorem num_fold_small (l : List UInt8) : ∀ (n m : Nat), n < m → m * 256 ^ l.length ≤ P64 → l.foldl numStep n < m * 256 ^ l.length := by
  induction l with
  | nil => intro n m h _; simpa using h
  | cons b r ih =>
    intro n m h h2
    have hb := b.toNat_lt
    have e : m * 256 ^ (b :: r).length = (m * 256) * 256 ^ r.length := by rw [List.length_cons, Nat.pow_succ, Nat.mul_assoc, Nat.mul_comm 256]
    rw [e] at h2 ⊢
    have hp : 0 < 256 ^ r.length := Nat.pow_pos (by decide)
    have hm : m * 256 ≤ P64 := Nat.le_trans (Nat.le_mul_of_pos_right _ hp) h2
    have hs : numStep n b = n * 256 + b.toNat := by unfold numStep; exact Nat.mod_eq_of_lt (by omega)
    exact ih _ _ (by rw [hs]; omega) h2
/-- two bytes are a number below 65536 -/
theorem numL_two (l : List UInt8) (h : l.length ≤ 2) : numL l < 65536 := by
  have h1 := num_fold_small l 0 1 (by decide) (by
    rw [Nat.one_mul]
    exact Nat.le_trans (Nat.pow_le_pow_right (by decide) h) (by decide))
  rw [Nat.one_mul] at h1
  exact Nat.lt_of_lt_of_le h1 (Nat.le_trans (Nat.pow_le_pow_right (by decide) h) (by decide))
theorem numL_one (b : UInt8) : numL [b] = b.toNat := by
  have := b.toNat_lt
  simp only [numL, List.foldl_cons, List.foldl_nil, numStep, P64]
  omega

/-- a packet that was found -/
structure FoundL where
  kind : UInt8
  set : Nat
  body : List UInt8

/-- how many bytes the body of a packet has that begins here -/
def bodyN (s : List UInt8) : Nat := numL ((s.drop 12).take 2)
/-- one of the three kinds -/
def kindL (k : UInt8) : Bool := k == 77 || k == 70 || k == 82
def isRight (s : List UInt8) : Bool := decide (22 ≤ s.length) && (s.take 3 == [83, 65, 76]) && kindL (s.getD 3 0) && decide (22 + bodyN s ≤ s.length) && (hashL (s.take (14 + bodyN s)) == numL ((s.drop (14 + bodyN s)).take 8))
def foundAt (s : List UInt8) : FoundL := ⟨s.getD 3 0, numL ((s.drop 4).take 8), (s.drop 14).take (bodyN s)⟩
/-- the packet that begins a text, and how many bytes it has -/
def rightL (s : List UInt8) : Option (FoundL × Nat) := if isRight s then some (foundAt s, 22 + bodyN s) else none

theorem bodyN_lt (s : List UInt8) : bodyN s < 65536 := numL_two _ (by rw [List.length_take]; omega)

/-- all packets of a text, so many steps -/
def findG : Nat → List UInt8 → List FoundL
  | 0, _ => []
  | _ + 1, [] => []
  | k + 1, b :: r => match rightL (b :: r) with
    | some (f, n) => f :: findG k ((b :: r).drop n)
    | none => findG k r
def findV (s : List UInt8) : List FoundL := findG s.length s
def findL (vs : List (List UInt8)) : List FoundL := vs.flatMap findV

theorem right_pos {s : List UInt8} {f : FoundL} {n : Nat} (h : rightL s = some (f, n)) : 22 ≤ n ∧ n ≤ s.length := by
  unfold rightL at h
  split at h
  · rename_i hr
    simp only [Option.some.injEq, Prod.mk.injEq] at h
    unfold isRight at hr
    simp only [Bool.and_eq_true, decide_eq_true_eq] at hr
    omega
  · cases h

theorem findG_more : ∀ (k : Nat) (s : List UInt8), s.length ≤ k → findG k s = findG s.length s := by
  intro k
  induction k using Nat.strongRecOn with
  | ind k ih =>
    intro s hs
    cases s with
    | nil => cases k <;> rfl
    | cons b r =>
      cases k with
      | zero => simp at hs
      | succ k =>
        simp only [List.length_cons] at hs ⊢
        simp only [findG]
        cases h : rightL (b :: r) with
        | none =>
          exact ih k (by omega) r (by omega)
        | some x =>
          obtain ⟨f, n⟩ := x
          have hn := right_pos h
          simp only [List.length_cons] at hn
          have hd : ((b :: r).drop n).length ≤ r.length := by rw [List.length_drop, List.length_cons]; omega
          simp only
          rw [ih k (by omega) _ (by omega)]
          by_cases e : r.length = k
          · rw [e, ih k (by omega) _ (by omega)]
          · rw [ih r.length (by omega) _ hd]

theorem findV_nil : findV [] = [] := rfl
/-- one step of the way through a text -/
theorem findV_step (s : List UInt8) (h : 0 < s.length) : findV s = match rightL s with | some (f, n) => f :: findV (s.drop n) | none => findV (s.drop 1) := by
  cases s with
  | nil => simp at h
  | cons b r =>
    unfold findV
    simp only [List.length_cons, findG]
    cases hr : rightL (b :: r) with
    | none => simp
    | some x =>
      obtain ⟨f, n⟩ := x
      have hn := right_pos hr
      simp only [List.length_cons] at hn
      simp only
      rw [findG_more _ _ (by rw [List.length_drop, List.length_cons]; omega)]
end Go.Proofs.YtonjphollmdicaaDoor
namespace Go.Proofs.YtonjphollmdicaaDoor
open Go.ChangeShapes Go.WideShapes Go.ChangeAt Go.RowKit

/-! the document's words, and some moves that both sides use -/

theorem strs (a b : List UInt8) : str a ++ str b = str (a ++ b) := by rw [str_add, str_data]

theorem rdrewN {B : Nat} {a w : World} (h : Below B a w) (n : Nat) : Below B a (w.drewN n) := ⟨h.os, h.tape, h.output, h.size, h.block⟩

def dupAt (fs : List FileL) (i : Nat) : Bool := match fs[i]? with
  | some f => hasNameL (fs.take i) f.1
  | none => false
def twiceL (fs : List FileL) : Bool := (List.range fs.length).any (dupAt fs)

def foundsV (l : List FoundL) : List Value := l.flatMap fun f => [.int .u8 (f.kind.toNat : Int), .int .u64 (f.set : Int), .string (str f.body)]
theorem foundsV_snoc (l : List FoundL) (f : FoundL) : foundsV (l ++ [f]) = foundsV l ++ [.int .u8 (f.kind.toNat : Int), .int .u64 (f.set : Int), .string (str f.body)] := by simp [foundsV]

theorem findG_len : ∀ (k : Nat) (s : List UInt8), (findG k s).length ≤ k
  | 0, _ => by simp [findG]
  | k + 1, [] => by simp [findG]
  | k + 1, b :: r => by
    simp only [findG]
    cases h : rightL (b :: r) with
    | none => have := findG_len k r; simp only; omega
    | some x =>
      obtain ⟨f, n⟩ := x
      have := findG_len k ((b :: r).drop n)
      simp only [List.length_cons]
      omega
theorem findV_len (s : List UInt8) : (findV s).length ≤ s.length := findG_len _ _
theorem findL_len (vs : List (List UInt8)) (M : Nat) (h : ∀ v ∈ vs, v.length ≤ M) : (findL vs).length ≤ vs.length * M := by
  induction vs with
  | nil => simp [findL]
  | cons v r ih =>
    have h1 := ih (fun x hx => h x (List.mem_cons_of_mem _ hx))
    have h2 := h v (by simp)
    have h3 := findV_len v
    simp only [findL, List.flatMap_cons, List.length_append, List.length_cons] at h1 ⊢
    rw [Nat.succ_mul]
    omega
theorem findL_snoc (vs : List (List UInt8)) (k : Nat) (h : k < vs.length) : findL (vs.take (k + 1)) = findL (vs.take k) ++ findV vs[k] := by
  unfold findL
  rw [take_snoc vs k h, List.flatMap_append]
  simp

theorem three_new (w : World) (x y z : Value) (t : TypeId) : ∀ j u, [x, y, z][j]? = some u → (w.alloc (.cells #[x, y, z] t)).cell? ((⟨w.heap.size, 0, none⟩ : Addr).add j) = some u := by
  intro j u h
  rcases j with _ | _ | _ | j
  · simp at h; subst h; simp [Addr.add]
  · simp at h; subst h; simp [Addr.add]
  · simp at h; subst h; simp [Addr.add]
  · simp at h

/-- an M packet that counts -/
def isChief (f : FoundL) : Bool := f.kind == 77 && decide (3 ≤ f.body.length) && (sliceSize ((numL (f.body.take 2) : Nat) : Int) && (hashL f.body == f.set) && decide (1 ≤ (f.body.getD 2 0).toNat) && decide ((f.body.getD 2 0).toNat ≤ 6) && decide (f.body.length = 3 + 8 * (f.body.getD 2 0).toNat))
def chiefL (l : List FoundL) : Option FoundL := l.find? isChief

theorem founds_get {w : World} {a : Option Addr} {l : List FoundL} (h : Rd w a (foundsV l)) (k : Nat) (hk : k < l.length) :
    ∃ b off, a = some ⟨b, off, none⟩ ∧ w.cell? ⟨b, off + k * 3, none⟩ = some (.int .u8 (l[k].kind.toNat : Int)) ∧ w.cell? ⟨b, off + k * 3 + 1, none⟩ = some (.int .u64 (l[k].set : Int)) ∧ w.cell? ⟨b, off + k * 3 + 2, none⟩ = some (.string (str l[k].body)) := by
  have key : ∀ (l : List FoundL) (k : Nat) (hk : k < l.length), (foundsV l)[k * 3]? = some (.int .u8 (l[k].kind.toNat : Int)) ∧ (foundsV l)[k * 3 + 1]? = some (.int .u64 (l[k].set : Int)) ∧ (foundsV l)[k * 3 + 2]? = some (.string (str l[k].body)) := by
    intro l
    induction l with
    | nil => intro k hk; simp at hk
    | cons f r ih =>
      intro k hk
      cases k with
      | zero => exact ⟨rfl, rfl, rfl⟩
      | succ k =>
        obtain ⟨h1, h2, h3⟩ := ih k (by simpa using hk)
        have e : foundsV (f :: r) = [.int .u8 (f.kind.toNat : Int), .int .u64 (f.set : Int), .string (str f.body)] ++ foundsV r := rfl
        rw [e, show (k + 1) * 3 = k * 3 + 3 from by omega]
        refine ⟨?_, ?_, ?_⟩
        · rw [List.getElem?_append_right (by simp)]; exact h1
        · rw [List.getElem?_append_right (by simp)]
          simpa using h2
        · rw [List.getElem?_append_right (by simp)]
          simpa using h3
  obtain ⟨k1, k2, k3⟩ := key l k hk
  obtain ⟨b, off, e, h1⟩ := h _ _ k1
  obtain ⟨b', off', e', h2⟩ := h _ _ k2
  obtain ⟨b'', off'', e'', h3⟩ := h _ _ k3
  rw [e] at e' e''
  cases e'
  cases e''
  exact ⟨b, off, e, h1, by rw [Nat.add_assoc]; exact h2, by rw [Nat.add_assoc]; exact h3⟩

/-- a file of the set, as its F packet describes it -/
structure DescL where
  name : List UInt8
  long : Nat
  hash : Nat
  slices : List Nat

def formN (s : List UInt8) : Nat := (s.getD 1 0).toNat
def formLong (s : List UInt8) : Nat := numL ((s.drop (2 + formN s)).take 2)
def formHash (s : List UInt8) : Nat := numL ((s.drop (4 + formN s)).take 8)
def formSlice (s : List UInt8) (i : Nat) : Nat := numL ((s.drop (12 + formN s + 8 * i)).take 8)
def isForm (s : List UInt8) (b : Nat) : Bool := decide (2 ≤ s.length) && decide (1 ≤ formN s) && decide (formN s ≤ 20) && decide (12 + formN s ≤ s.length) && decide (formLong s ≤ 400) && decide (s.length = 12 + formN s + 8 * slicesOfN (formLong s) b)
def formAt (s : List UInt8) (b : Nat) : DescL := ⟨(s.drop 2).take (formN s), formLong s, formHash s, (List.range (slicesOfN (formLong s) b)).map (formSlice s)⟩
def formL (s : List UInt8) (b : Nat) : Option DescL := if isForm s b then some (formAt s b) else none

/-- does an F packet speak of file i, by the hash that M has? -/
def speaksOf (set i hash : Nat) (f : FoundL) : Bool := f.kind == 70 && (f.set == set) && decide (1 ≤ f.body.length) && ((f.body.getD 0 0).toNat == i) && (hashL f.body == hash)
def describedL (l : List FoundL) (set i hash b : Nat) : Option DescL := l.findSome? fun f => if speaksOf set i hash f then formL f.body b else none

/-- the state of a file of the set, by the files that were handed in -/
def stateL (name : List UInt8) (long hash : Nat) (fs : List FileL) : Nat := match fs.find? (fun f => f.1 == name) with
  | none => 3
  | some f => if f.2.length = long ∧ hashL f.2 = hash then 1 else 2
theorem state_step (name : List UInt8) (long hash : Nat) (fs : List FileL) (k : Nat) (hk : k < fs.length) : stateL name long hash (fs.drop k) = if fs[k].1 = name then (if fs[k].2.length = long ∧ hashL fs[k].2 = hash then 1 else 2) else stateL name long hash (fs.drop (k + 1)) := by
  rw [List.drop_eq_getElem_cons hk]
  unfold stateL
  rw [List.find?_cons]
  by_cases h : fs[k].1 = name
  · rw [if_pos h, beq_iff_eq.2 h]
  · rw [if_neg h, beq_eq_false_iff_ne.2 h]

def fillL (data : List UInt8) (b : Nat) : List UInt8 := data ++ List.replicate (b - 1) 0
def pieceAt (data : List UInt8) (b at' : Nat) : List UInt8 := ((fillL data b).drop at').take b
def pieceIn (b hash : Nat) (data : List UInt8) (from' : Nat) : Option (List UInt8) := ((List.range data.length).drop from').findSome? fun j => if hashL (pieceAt data b j) = hash then some (pieceAt data b j) else none
/-- the first piece of some files with a hash -/
def firstPiece (fs : List FileL) (b hash : Nat) : Option (List UInt8) := fs.findSome? fun f => pieceIn b hash f.2 0

theorem row_rd {w : World} {base : Nat} {e : TypeId} {sz : Nat} {v : Value} {n : Nat} {xs : List Value} (h : w.ownsRow base e sz v n xs) : ∃ a cap, v = .slice a n cap ∧ Rd w a xs := by
  rcases h.2 with ⟨rfl, rfl⟩ | ⟨g, cap, cur, rfl, _, hg, _⟩
  · have hx : xs = [] := List.eq_nil_of_length_eq_zero (by simpa using h.1)
    subst hx
    exact ⟨none, 0, rfl, fun k u hu => by simp at hu⟩
  · refine ⟨some ⟨g, 0, none⟩, cap, rfl, fun k u hu => ⟨g, 0, rfl, ?_⟩⟩
    have := h.cells (g := g) rfl k u hu
    have hadd : (⟨g, 0, none⟩ : Addr).add k = ⟨g, 0 + k, none⟩ := by unfold Addr.add; split <;> simp_all
    rw [hadd] at this
    exact this

theorem findG_body : ∀ (k : Nat) (s : List UInt8) (M : Nat), s.length ≤ M → ∀ f ∈ findG k s, f.body.length ≤ M
  | 0, _, _, _, f, hf => by simp [findG] at hf
  | k + 1, [], _, _, f, hf => by simp [findG] at hf
  | k + 1, b :: r, M, h, f, hf => by
    simp only [findG] at hf
    cases hr : rightL (b :: r) with
    | none =>
      rw [hr] at hf
      exact findG_body k r M (by simp only [List.length_cons] at h; omega) f hf
    | some x =>
      obtain ⟨g, n⟩ := x
      rw [hr] at hf
      simp only [List.mem_cons] at hf
      rcases hf with rfl | hf
      · unfold rightL at hr
        split at hr
        · simp only [Option.some.injEq, Prod.mk.injEq] at hr
          rw [← hr.1]
          unfold foundAt
          simp only [List.length_take, List.length_drop]
          omega
        · cases hr
      · exact findG_body k _ M (by rw [List.length_drop]; omega) f hf
theorem findL_body (vs : List (List UInt8)) (M : Nat) (h : ∀ v ∈ vs, v.length ≤ M) : ∀ f ∈ findL vs, f.body.length ≤ M := by
  intro f hf
  unfold findL at hf
  rw [List.mem_flatMap] at hf
  obtain ⟨v, hv, hf⟩ := hf
  exact findG_body _ v M (h v hv) f hf
end Go.Proofs.YtonjphollmdicaaDoor
