import Derived.Test.YtonjphollmdicaaGreatDoorB13
namespace Go.Proofs.YtonjphollmdicaaGreatDoor
open Go.ChangeShapes Go.WideShapes Go.ChangeAt Go.RowKit

def pickI (c : Int) : Int := if c < 0 then -(c + 1) else c
def pickN (c : Int) (n : Nat) : Nat := (pickI c % (n : Int)).toNat
theorem pickN_lt (c : Int) (n : Nat) (h : 0 < n) : pickN c n < n := by
  unfold pickN
  have := Int.emod_lt_of_pos (pickI c) (show (0 : Int) < (n : Int) by omega)
  omega

theorem kpick_walk (c : Int) (n : Nat) (hn : 0 < n) (hn2 : n ≤ 1000) (h1 : -9223372036854775808 ≤ c) (h2 : c ≤ 9223372036854775807) (w : World) :
    Calls Tryz.prog 29 #[.int .i64 c, .int .i64 (n : Int)] w fun e w' => e = .returned (.int .i64 ((pickN c n : Nat) : Int)) ∧ w' = w := by
  by_cases h : c < 0
  · go_enter Tryz.func29, Tryz.ntmps29
    go_wp2
    go_ret
    refine ⟨?_, rfl⟩
    have e : -(c + 1).tmod (n : Int) = ((pickN c n : Nat) : Int) := by
      unfold pickN pickI
      rw [if_pos h, ← Int.neg_tmod, Int.tmod_eq_emod_of_nonneg (by omega)]
      have := Int.emod_nonneg (-(c + 1)) (show (n : Int) ≠ 0 by omega)
      omega
    show Ending.returned (.int .i64 (-(c + 1).tmod (n : Int))) = _
    rw [e]
  · go_enter Tryz.func29, Tryz.ntmps29
    go_wp2
    go_ret
    refine ⟨?_, rfl⟩
    have e : c % (n : Int) = ((pickN c n : Nat) : Int) := by
      unfold pickN pickI
      rw [if_neg (by omega)]
      have := Int.emod_nonneg c (show (n : Int) ≠ 0 by omega)
      omega
    show Ending.returned (.int .i64 (c % (n : Int))) = _
    rw [e]

/-- the raw set that a law is handed -/
structure KSet where
  D : List (List UInt8)
  sl : Int
  ex : Int
def kSize (s : KSet) : Nat := 2 + 2 * pickN s.sl 4
def kExtra (s : KSet) : Nat := pickN s.ex 21
structure KOk (w : World) (s : KSet) (a : Option Addr) (cap : Nat) : Prop where
  rd : Rd w a (strV s.D)
  len : s.D.length ≤ 9223372036854775807
  short : ∀ d ∈ s.D, d.length ≤ 9223372036854775807
  s1 : -9223372036854775808 ≤ s.sl
  s2 : s.sl ≤ 9223372036854775807
  x1 : -9223372036854775808 ≤ s.ex
  x2 : s.ex ≤ 9223372036854775807
theorem KOk.later {w w' : World} {s : KSet} {a : Option Addr} {cap : Nat} (h : KOk w s a cap) (hb : Below w.heap.size w w') : KOk w' s a cap :=
  ⟨h.rd.later (Nat.le_refl _) hb, h.len, h.short, h.s1, h.s2, h.x1, h.x2⟩
def kV (s : KSet) (a : Option Addr) (cap : Nat) : Value := .agg #[.slice a s.D.length cap, .int .i64 s.sl, .int .i64 s.ex]

theorem kslice_walk (s : KSet) (a : Option Addr) (cap : Nat) (w : World) (h : KOk w s a cap) :
    Calls Tryz.prog 26 #[kV s a cap] w fun e w' => e = .returned (.int .i64 ((kSize s : Nat) : Int)) ∧ Below w.heap.size w w' := by
  unfold kV
  have hl := pickN_lt s.sl 4 (by omega)
  have HH := hid_of h
  clear h
  go_enter Tryz.func26, Tryz.ntmps26
  go_wp2_with fail
  refine (kpick_walk s.sl 4 (by omega) (by omega) HH.out.s1 HH.out.s2 _).mono ?_
  rintro e w' ⟨rfl, rfl⟩
  go_wp2_with fail
  go_ret
  refine ⟨?_, (Below.refl _ _).alloc (Nat.le_refl _) _⟩
  show Ending.returned (.int .i64 (2 + 2 * ((pickN s.sl 4 : Nat) : Int))) = _
  unfold kSize
  congr 2
theorem kextra_walk (s : KSet) (a : Option Addr) (cap : Nat) (w : World) (h : KOk w s a cap) :
    Calls Tryz.prog 30 #[kV s a cap] w fun e w' => e = .returned (.int .i64 ((kExtra s : Nat) : Int)) ∧ Below w.heap.size w w' := by
  unfold kV
  have HH := hid_of h
  clear h
  go_enter Tryz.func30, Tryz.ntmps30
  go_wp2_with fail
  refine (kpick_walk s.ex 21 (by omega) (by omega) HH.out.x1 HH.out.x2 _).mono ?_
  rintro e w' ⟨rfl, rfl⟩
  go_wp2_with fail
  go_ret
  exact ⟨rfl, (Below.refl _ _).alloc (Nat.le_refl _) _⟩

def kName (i : Nat) : List UInt8 := [102, UInt8.ofNat (48 + i)]
def kFile (s : KSet) (i : Nat) : FileL := (kName i, (s.D.getD i []).take 30)
def kRaw (s : KSet) (n : Nat) : List FileL := (List.range n).map (kFile s)
def kCount (s : KSet) : Nat := min s.D.length 4
def kOne (s : KSet) : List FileL := if kCount s = 0 then [(kName 0, [120])] else kRaw s (kCount s)
def kFix (l : List FileL) : List FileL := match l with
  | [] => []
  | f :: r => (if f.2 = [] then (f.1, [120]) else f) :: r
def kFiles (s : KSet) : List FileL := kFix (kOne s)

theorem Tryz.infoF : (Tryz.prog.info? 62).map (fun i => (i.zero, i.size, i.bytes)) = some (some (.agg #[.string ByteArray.empty, .string ByteArray.empty]), 2, 32) := by kernel_rfl

theorem byte_string (W : World) (b : Nat) (hb : b < 256) (x : Int) (hx : x = (b : Int)) :
    (convert 67 9 (.slice (some ⟨W.heap.size, 0, none⟩) 1 1)).run Tryz.prog (W.alloc (.cells #[.int .u8 x] 5)) = .ok (.string (str [UInt8.ofNat b])) (W.alloc (.cells #[.int .u8 x] 5)) := by
  subst hx
  have := run_convert_bytes_back (P := Tryz.prog) (W.alloc (.cells #[.int .u8 (b : Int)] 5)) 67 9 5 ⟨W.heap.size, 0, none⟩ 1 [UInt8.ofNat b] Tryz.underlying67 Tryz.underlying5 Tryz.underlying9 (by
    intro j hj
    have : j = 0 := by simpa using hj
    subst this
    simp [Addr.add]
    omega)
  exact this

theorem two_at (W : World) (x y : Value) (t : TypeId) (g : Nat) (hg : g = W.heap.size) : ∀ j u, [x, y][j]? = some u → (W.alloc (.cells #[x, y] t)).cell? ((⟨g, 0, none⟩ : Addr).add j) = some u := by
  subst hg; exact two_new W x y t

set_option maxRecDepth 100000 in
theorem kfiles_walk (s : KSet) (a : Option Addr) (cap : Nat) (w : World) (h : KOk w s a cap) :
    Calls Tryz.prog 52 #[kV s a cap] w fun e w' => ∃ v, e = .returned v ∧ w'.ownsRow w.heap.size 62 2 v (kFiles s).length (filesV (kFiles s)) ∧ Below w.heap.size w w' := by
  unfold kV
  obtain ⟨i0, hi, hz0, hz1, hz2⟩ := info_parts Tryz.infoF
  have hlow : Below w.heap.size w (w.alloc (.cells #[.slice a s.D.length cap, .int .i64 s.sl, .int .i64 s.ex] 54)) := (Below.refl _ _).alloc (Nat.le_refl _) _
  have hbox : (w.alloc (.cells #[.slice a s.D.length cap, .int .i64 s.sl, .int .i64 s.ex] 54)).cell? ⟨w.heap.size, 0, none⟩ = some (.slice a s.D.length cap) := by simp
  obtain ⟨W0, hW0⟩ : ∃ W0, W0 = w.alloc (.cells #[.slice a s.D.length cap, .int .i64 s.sl, .int .i64 s.ex] 54) := ⟨_, rfl⟩
  rw [← hW0] at hlow hbox
  have hs0 : W0.heap.size = w.heap.size + 1 := by rw [hW0]; simp
  have H1 := hid_of hlow
  have H2 := hid_of hbox
  have H3 := hid_of hW0
  have H4 := hid_of hs0
  have H5 := hid_of h
  have hDl := h.len
  clear hlow hbox hW0 hs0 h
  go_enter Tryz.func52, Tryz.ntmps52
  go_wp2_with fail
  rw [← H3.out]
  go_loopw [3, 4, 5] (fun l i _ wr => ∃ k : Nat, k ≤ s.D.length ∧ k ≤ 4 ∧ i = .int .i64 (k : Int) ∧ wr.ownsRow (w.heap.size + 1) 62 2 l k (filesV (kRaw s k)) ∧ Below (w.heap.size + 1) W0 wr)
    (fun _ i _ _ => 4 - (intOf i).toNat)
  case atStart => exact ⟨0, by omega, by omega, rfl, World.ownsRow_nil _ _ _ _, Below.refl _ _⟩
  case round =>
    obtain ⟨k, hk, hk4, rfl, hownr, hbl⟩ := hrel
    have hsz := hbl.size
    rw [H4.out] at hsz
    have hbx : wr.cell? ⟨w.heap.size, 0, none⟩ = some (.slice a s.D.length cap) := by rw [hbl.cell (by simp)]; exact H2.out
    have hww : Below w.heap.size w wr := H1.out.trans (hbl.mono (by omega))
    by_cases hlt : k < s.D.length
    · by_cases hlt4 : k < 4
      · obtain ⟨b, off, rfl, hc⟩ := (H5.out.rd.later (Nat.le_refl _) hww) k (.string (str s.D[k])) (by simp [strV, hlt])
        have hsd : (str s.D[k]).size = s.D[k].length := str_size _
        have hsd2 := H5.out.short s.D[k] (List.getElem_mem hlt)
        have hconv := fun W => byte_string W (48 + k) (by omega) (48 + (k : Int)) (by omega)
        obtain ⟨cb, hcb⟩ : ∃ x, x = UInt8.ofNat (48 + k) := ⟨_, rfl⟩
        rw [← hcb] at hconv
        have HCB := hid_of hcb
        clear hcb
        have hcat : (ByteArray.mk #[102]) ++ str [cb] = str [102, cb] := str_add [102] (str [cb])
        have hext : (str s.D[k]).extract 0 30 = str (s.D[k].take 30) := by rw [str_extract]; simp
        have hraw : filesV (kRaw s (k + 1)) = filesV (kRaw s k) ++ [.string (str [102, cb]), .string (str (s.D[k].take 30))] := by
          unfold kRaw
          rw [List.range_succ, List.map_append]
          unfold filesV
          rw [List.flatMap_append]
          congr 1
          simp only [List.map_cons, List.map_nil, List.flatMap_cons, List.flatMap_nil, List.append_nil, kFile, kName]
          rw [← HCB.out]
          simp [hlt]
        have HRAW := hid_of hraw
        have HBL := hid_of hbl
        have HWW := hid_of hww
        clear hraw hbl hww
        by_cases h30 : 30 < s.D[k].length
        · go_wp2_with (at_builtin; refine wpList_append_own _ rfl (.tmp 27) (.tmp 36) 22 rfl (w.heap.size + 1) 62 i0 (.agg #[.string ByteArray.empty, .string ByteArray.empty]) 2 32 Tryz.underlying22 hi hz0 hz1 hz2 rfl (by decide) _ _ _ rfl ((hownr.alloc _).alloc _) ⟨wr.heap.size + 1, 0, none⟩ 1 1 [.string (str [102, cb]), .string (str (s.D[k].take 30))] rfl rfl ?c1 ?c2 ?c3 ?c4 ?c5 ?_)
          case c1 => exact two_at _ _ _ _ _ (by simp)
          case c2 => intro u hu; simp at hu; rcases hu with rfl | rfl <;> rfl
          case c3 => unfold maxLen; omega
          case c4 => omega
          case c5 => simp; omega
          intro v6 w6 hown6 hg6 _
          have hb6 := below_step (HBL.out.alloc hsz _) (by simp; omega) (hownr.alloc _) hg6
          rw [← HRAW.out] at hown6
          have K1 := hid_of hown6
          have K2 := hid_of hb6
          clear hown6 hg6 hb6 hownr hconv hcat hext
          go_wp2_with fail
          go_roundw
          case rel => exact ⟨k + 1, by omega, by omega, by go_num, K1.out, K2.out⟩
          case measure => simp [intOf]; omega
        · have htk : s.D[k].take 30 = s.D[k] := List.take_of_length_le (by omega)
          rw [htk] at HRAW hext
          clear htk
          go_wp2_with (at_builtin; refine wpList_append_own _ rfl (.tmp 27) (.tmp 36) 22 rfl (w.heap.size + 1) 62 i0 (.agg #[.string ByteArray.empty, .string ByteArray.empty]) 2 32 Tryz.underlying22 hi hz0 hz1 hz2 rfl (by decide) _ _ _ rfl ((hownr.alloc _).alloc _) ⟨wr.heap.size + 1, 0, none⟩ 1 1 [.string (str [102, cb]), .string (str s.D[k])] rfl rfl ?d1 ?d2 ?d3 ?d4 ?d5 ?_)
          case d1 => exact two_at _ _ _ _ _ (by simp)
          case d2 => intro u hu; simp at hu; rcases hu with rfl | rfl <;> rfl
          case d3 => unfold maxLen; omega
          case d4 => omega
          case d5 => simp; omega
          intro v6 w6 hown6 hg6 _
          have hb6 := below_step (HBL.out.alloc hsz _) (by simp; omega) (hownr.alloc _) hg6
          rw [← HRAW.out] at hown6
          have K1 := hid_of hown6
          have K2 := hid_of hb6
          clear hown6 hg6 hb6 hownr hconv hcat hext
          go_wp2_with fail
          go_roundw
          case rel => exact ⟨k + 1, by omega, by omega, by go_num, K1.out, K2.out⟩
          case measure => simp [intOf]; omega
      · obtain hkc : kCount s = k := by unfold kCount; omega
        have hfin : ∀ W, Below (w.heap.size + 1) W0 W → Below w.heap.size w W := fun W hW => H1.out.trans (hW.mono (by omega))
        have HFIN := hid_of hfin
        have HBL := hid_of hbl
        have HKC := hid_of hkc
        clear hfin hkc hbl hww
        by_cases hk0 : k = 0
        · omega
        · have hraw0 : ∃ r, kRaw s k = kFile s 0 :: r := by
            obtain ⟨m, rfl⟩ : ∃ m, k = m + 1 := ⟨k - 1, by omega⟩
            unfold kRaw
            rw [List.range_succ_eq_map]
            exact ⟨_, rfl⟩
          obtain ⟨r, hr⟩ := hraw0
          have hkl : (kRaw s k).length = k := by simp [kRaw]
          have hkf : kFiles s = kFix (kFile s 0 :: r) := by unfold kFiles kOne; rw [HKC.out, if_neg hk0, hr]
          rw [hr] at hownr hkl
          obtain ⟨d0, hd0⟩ : ∃ d, d = (kFile s 0).2 := ⟨_, rfl⟩
          obtain ⟨n0, hn0⟩ : ∃ d, d = (kFile s 0).1 := ⟨_, rfl⟩
          have hf0 : kFile s 0 = (n0, d0) := by rw [hd0, hn0]
          rw [hf0] at hownr hkf hkl
          obtain ⟨g, c6, hv6⟩ : ∃ g c6, u3 = .slice (some ⟨g, 0, none⟩) k c6 := by
            rcases hownr.2 with ⟨_, h1⟩ | ⟨g, c, cur, h1, _⟩
            · omega
            · exact ⟨_, _, h1⟩
          have hgb : w.heap.size + 1 ≤ g := by
            have := (hownr.lt g (by rw [hv6]; rfl)).1
            exact this
          rw [hv6] at hownr ⊢
          have hcell : wr.cell? ⟨g, 1, none⟩ = some (.string (str d0)) := by rw [hownr.cellAt 1 (by omega)]; rfl
          have hfz := hownr.frozenAt 1
          have hst := (hownr.stored 1 (.string ⟨#[120]⟩)).1
          have hB := HBL.out.setCell (p := ⟨g, 1, none⟩) hgb (.string ⟨#[120]⟩)
          have hlen : (kFiles s).length = k := by rw [hkf, ← hkl]; simp [kFix]
          have K1 := hid_of hownr
          have K2 := hid_of hst
          have K3 := hid_of hB
          have K4 := hid_of hkf
          have K5 := hid_of hlen
          have HK := hid_of hk0
          have hk0' : 0 < k := by omega
          clear hownr hst hB hkf hlen hkl hr hf0 hd0 hn0 hv6 hk0
          have htl := str_toList d0
          by_cases hde : d0 = []
          · subst hde
            go_wp2_with fail
            go_ret
            refine ⟨_, rfl, ?_, HFIN.out _ K3.out⟩
            rw [K5.out]
            refine ownsRow_base (base := w.heap.size + 1) (by omega) ?_
            have e : filesV (kFiles s) = (filesV ((n0, []) :: r)).set 1 (.string ⟨#[120]⟩) := by
              rw [K4.out]
              rfl
            rw [e]
            exact K2.out
          · have hne : d0.isEmpty = false := by cases d0 with | nil => exact absurd rfl hde | cons _ _ => rfl
            have HDE := hid_of hde
            clear hde
            go_wp2_with fail
            go_ret
            refine ⟨_, rfl, ?_, HFIN.out _ HBL.out⟩
            rw [K5.out]
            refine ownsRow_base (base := w.heap.size + 1) (by omega) ?_
            have e : kFiles s = (n0, d0) :: r := by
              rw [K4.out]
              simp only [kFix]
              rw [if_neg HDE.out]
            rw [e]
            exact K1.out
    · obtain hkc : kCount s = k := by unfold kCount; omega
      have hfin : ∀ W, Below (w.heap.size + 1) W0 W → Below w.heap.size w W := fun W hW => H1.out.trans (hW.mono (by omega))
      have HFIN := hid_of hfin
      have HBL := hid_of hbl
      have HKC := hid_of hkc
      clear hfin hkc hbl hww
      by_cases hk0 : k = 0
      · subst hk0
        have hform : ∃ ao c, u3 = .slice ao 0 c := by
          rcases hownr.2 with ⟨h1, _⟩ | ⟨g, c, cur, h1, _⟩
          · exact ⟨_, _, h1⟩
          · exact ⟨_, _, h1⟩
        obtain ⟨ao, c3, hu3⟩ := hform
        rw [hu3] at hownr ⊢
        clear hu3
        go_wp2_with (at_builtin; refine wpList_append_own _ rfl (.tmp 41) (.tmp 43) 22 rfl (w.heap.size + 1) 62 i0 (.agg #[.string ByteArray.empty, .string ByteArray.empty]) 2 32 Tryz.underlying22 hi hz0 hz1 hz2 rfl (by decide) _ _ _ rfl (hownr.alloc _) ⟨wr.heap.size, 0, none⟩ 1 1 [.string ⟨#[102, 48]⟩, .string ⟨#[120]⟩] rfl rfl (two_new _ _ _ _) ?q1 ?q2 ?q3 ?q4 ?_)
        case q1 => intro u hu; simp at hu; rcases hu with rfl | rfl <;> rfl
        case q2 => unfold maxLen; omega
        case q3 => omega
        case q4 => simp; omega
        intro v6 w6 hown6 hg6 _
        have hb6 := below_step HBL.out hsz hownr hg6
        have hkf : kFiles s = [(kName 0, [120])] := by unfold kFiles kOne; rw [if_pos HKC.out]; rfl
        have hown6' : w6.ownsRow (w.heap.size + 1) 62 2 v6 1 (filesV [(kName 0, [120])]) := by
          have e : filesV (kRaw s 0) ++ [Value.string ⟨#[102, 48]⟩, .string ⟨#[120]⟩] = filesV [(kName 0, [120])] := rfl
          rw [← e]
          exact hown6
        obtain ⟨g, c6, hv6⟩ : ∃ g c6, v6 = .slice (some ⟨g, 0, none⟩) 1 c6 := by
          rcases hown6'.2 with ⟨_, h1⟩ | ⟨g, c, cur, h1, _⟩
          · omega
          · exact ⟨_, _, h1⟩
        rw [hv6] at hown6' ⊢
        have hcell : w6.cell? ⟨g, 1, none⟩ = some (.string ⟨#[120]⟩) := by rw [hown6'.cellAt 1 (by omega)]; rfl
        have hne : ((ByteArray.mk #[120]).toList == (ByteArray.mk #[]).toList) = false := by decide +kernel
        have hres := ownsRow_base (base' := w.heap.size) (by omega) hown6'
        have hlast := HFIN.out w6 hb6
        have K1 := hid_of hres
        have K2 := hid_of hlast
        have K3 := hid_of hkf
        clear hres hlast hown6' hown6 hg6 hb6 hownr hv6 hkf
        go_wp2_with fail
        go_ret
        refine ⟨_, rfl, ?_, K2.out⟩
        rw [K3.out]
        exact K1.out
      · have hraw0 : ∃ r, kRaw s k = kFile s 0 :: r := by
          obtain ⟨m, rfl⟩ : ∃ m, k = m + 1 := ⟨k - 1, by omega⟩
          unfold kRaw
          rw [List.range_succ_eq_map]
          exact ⟨_, rfl⟩
        obtain ⟨r, hr⟩ := hraw0
        have hkl : (kRaw s k).length = k := by simp [kRaw]
        have hkf : kFiles s = kFix (kFile s 0 :: r) := by unfold kFiles kOne; rw [HKC.out, if_neg hk0, hr]
        rw [hr] at hownr hkl
        obtain ⟨d0, hd0⟩ : ∃ d, d = (kFile s 0).2 := ⟨_, rfl⟩
        obtain ⟨n0, hn0⟩ : ∃ d, d = (kFile s 0).1 := ⟨_, rfl⟩
        have hf0 : kFile s 0 = (n0, d0) := by rw [hd0, hn0]
        rw [hf0] at hownr hkf hkl
        obtain ⟨g, c6, hv6⟩ : ∃ g c6, u3 = .slice (some ⟨g, 0, none⟩) k c6 := by
          rcases hownr.2 with ⟨_, h1⟩ | ⟨g, c, cur, h1, _⟩
          · omega
          · exact ⟨_, _, h1⟩
        have hgb : w.heap.size + 1 ≤ g := by
          have := (hownr.lt g (by rw [hv6]; rfl)).1
          exact this
        rw [hv6] at hownr ⊢
        have hcell : wr.cell? ⟨g, 1, none⟩ = some (.string (str d0)) := by rw [hownr.cellAt 1 (by omega)]; rfl
        have hfz := hownr.frozenAt 1
        have hst := (hownr.stored 1 (.string ⟨#[120]⟩)).1
        have hB := HBL.out.setCell (p := ⟨g, 1, none⟩) hgb (.string ⟨#[120]⟩)
        have hlen : (kFiles s).length = k := by rw [hkf, ← hkl]; simp [kFix]
        have K1 := hid_of hownr
        have K2 := hid_of hst
        have K3 := hid_of hB
        have K4 := hid_of hkf
        have K5 := hid_of hlen
        have HK := hid_of hk0
        have hk0' : 0 < k := by omega
        clear hownr hst hB hkf hlen hkl hr hf0 hd0 hn0 hv6 hk0
        have htl := str_toList d0
        by_cases hde : d0 = []
        · subst hde
          go_wp2_with fail
          go_ret
          refine ⟨_, rfl, ?_, HFIN.out _ K3.out⟩
          rw [K5.out]
          refine ownsRow_base (base := w.heap.size + 1) (by omega) ?_
          have e : filesV (kFiles s) = (filesV ((n0, []) :: r)).set 1 (.string ⟨#[120]⟩) := by
            rw [K4.out]
            rfl
          rw [e]
          exact K2.out
        · have hne : d0.isEmpty = false := by cases d0 with | nil => exact absurd rfl hde | cons _ _ => rfl
          have HDE := hid_of hde
          clear hde
          go_wp2_with fail
          go_ret
          refine ⟨_, rfl, ?_, HFIN.out _ HBL.out⟩
          rw [K5.out]
          refine ownsRow_base (base := w.heap.size + 1) (by omega) ?_
          have e : kFiles s = (n0, d0) :: r := by
            rw [K4.out]
            simp only [kFix]
            rw [if_neg HDE.out]
          rw [e]
          exact K1.out
end Go.Proofs.YtonjphollmdicaaGreatDoor
