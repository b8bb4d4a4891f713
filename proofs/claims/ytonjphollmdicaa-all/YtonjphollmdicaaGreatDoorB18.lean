import Derived.Test.YtonjphollmdicaaGreatDoorB01
import Derived.Test.YtonjphollmdicaaGreatDoorB03
import Derived.Test.YtonjphollmdicaaGreatDoorB08
import Derived.Test.YtonjphollmdicaaGreatDoorB17
import Derived.Lib.ConvBytes
set_option maxRecDepth 100000
set_option maxHeartbeats 4000000
set_option linter.unusedSimpArgs false
namespace Go.Proofs.YtonjphollmdicaaGreatDoor
open Go.ChangeShapes Go.WideShapes Go.ChangeAt Go.RowKit
def Li : DescL := ⟨[], 0, 0, []⟩
def Aq (f : FoundL) : Nat := C0 (f.body.take 2)
def Bs (f : FoundL) : Nat := (f.body.getD 2 0).toNat
def Ex (f : FoundL) (i : Nat) : Nat := C0 ((f.body.drop (3 + 8 * i)).take 8)
def Ec (l : List FoundL) (f : FoundL) (i : Nat) : Option DescL := Bl l f.set i (Ex f i) (Aq f)
def Bv (l : List FoundL) (f : FoundL) (n : Nat) : List DescL := (List.range n).map fun i => (Ec l f i).getD Li
def CN (l : List FoundL) (f : FoundL) (n : Nat) : Bool := (List.range n).all fun i => (Ec l f i).isSome
def Df (ds : List DescL) : List Ak := ds.map fun d => (d.name, [])
def Dc (ds : List DescL) : Nat := (ds.flatMap DescL.slices).length
def KS (l : List FoundL) (f : FoundL) (j : Nat) : List UInt8 := (exL l f.set (Aq f) j).getD []
def FD (l : List FoundL) (f : FoundL) : List (List UInt8) := (List.range 20).map (KS l f)
structure SetL where
 size : Nat
 files : List DescL
 extra : List (List UInt8)
def GZ (l : List FoundL) (f : FoundL) : Bool := CN l f (Bs f) && !DT (Df (Bv l f (Bs f))) && decide (1 ≤ Dc (Bv l f (Bs f))) && decide (Dc (Bv l f (Bs f)) ≤ 60)
def EH (l : List FoundL) : SetL ⊕ Nat := match AV l with
 | none => .inr 3
 | some f => if GZ l f then .inl ⟨Aq f, Bv l f (Bs f), FD l f⟩ else .inr 4
theorem Mk (l : List FoundL) (f : FoundL) (n : Nat) : Bv l f (n + 1) = Bv l f n ++ [(Ec l f n).getD Li] := by
 unfold Bv
 rw [List.range_succ, List.map_append]
 rfl
theorem GP (l : List FoundL) (f : FoundL) (n : Nat) : (Bv l f n).length = n := by simp [Bv]
theorem M8 (ds : List DescL) (d : DescL) : Df (ds ++ [d]) = Df ds ++ [(d.name, [])] := by simp [Df]
theorem Lc (ds : List DescL) (d : DescL) : Dc (ds ++ [d]) = Dc ds + d.slices.length := by simp [Dc]
theorem Oh {l : List FoundL} {f : FoundL} {i n : Nat} (hi : i < n) (h : Ec l f i = none) : CN l f n = false := by
 unfold CN
 rw [List.all_eq_false]
 exact ⟨i, List.mem_range.2 hi, by rw [h]; simp⟩
theorem LT {l : List FoundL} {f : FoundL} {n : Nat} : CN l f (n + 1) = (CN l f n && (Ec l f n).isSome) := by
 unfold CN
 rw [List.range_succ, List.all_append]
 simp
theorem Ht (l : List FoundL) (g : FoundL) (set b j : Nat) : exL (l ++ [g]) set b j = (exL l set b j).or (if Cb set b j g then some (g.body.drop 2) else none) := by
 unfold exL
 rw [List.find?_append, List.find?_cons, List.find?_nil]
 cases l.find? (Cb set b j) with
 | none => cases Cb set b j g <;> rfl
 | some x => rfl
theorem JV {l : List FoundL} {set b j : Nat} {e : List UInt8} (h : exL l set b j = some e) : e.length = b := by
 unfold exL at h
 cases hf : l.find? (Cb set b j) with
 | none => rw [hf] at h; cases h
 | some f =>
  rw [hf] at h
  cases h
  have := List.find?_some hf
  unfold Cb at this
  simp only [Bool.and_eq_true, decide_eq_true_eq] at this
  rw [List.length_drop, this.1.2]
  omega
theorem J0 (l : List FoundL) (f : FoundL) : (FD l f).length = 20 := by simp [FD]
theorem Pf {l : List FoundL} {f g : FoundL} (h : ¬ (g.kind = 82 ∧ g.set = f.set ∧ g.body.length = 2 + Aq f)) : FD (l ++ [g]) f = FD l f := by
 unfold FD
 refine List.map_congr_left (fun j _ => ?_)
 unfold KS
 rw [Ht]
 have : Cb f.set (Aq f) j g = false := by
  cases hc : Cb f.set (Aq f) j g with
  | false => rfl
  | true =>
   unfold Cb at hc
   simp only [Bool.and_eq_true, decide_eq_true_eq, beq_iff_eq] at hc
   exact absurd ⟨hc.1.1.1, hc.1.1.2, hc.1.2⟩ h
 rw [this]
 simp
theorem NE {l : List FoundL} {f g : FoundL} (h : 20 ≤ C0 (g.body.take 2) ∨ KS l f (C0 (g.body.take 2)) ≠ []) : FD (l ++ [g]) f = FD l f := by
 unfold FD
 refine List.map_congr_left (fun j hj => ?_)
 have hj := List.mem_range.1 hj
 unfold KS
 rw [Ht]
 by_cases hc : Cb f.set (Aq f) j g = true
 ·have hn : C0 (g.body.take 2) = j := by
   unfold Cb at hc
   simp only [Bool.and_eq_true, decide_eq_true_eq, beq_iff_eq] at hc
   exact hc.2
  rcases h with h | h
  ·omega
  ·rw [hn] at h
   unfold KS at h
   cases he : exL l f.set (Aq f) j with
   | none => rw [he] at h; exact absurd rfl h
   | some x => rfl
 ·rw [if_neg hc, Option.or_none]
theorem Rg {l : List FoundL} {f g : FoundL} (hb : 0 < Aq f) (h1 : g.kind = 82 ∧ g.set = f.set ∧ g.body.length = 2 + Aq f) (h2 : KS l f (C0 (g.body.take 2)) = []) : FD (l ++ [g]) f = (FD l f).set (C0 (g.body.take 2)) (g.body.drop 2) := by
 refine List.ext_getElem? (fun j => ?_)
 rw [List.getElem?_set, J0]
 unfold FD
 rw [List.getElem?_map, List.getElem?_map]
 by_cases hj : j < 20
 ·rw [List.getElem?_range hj]
  simp only [Option.map_some]
  by_cases c : C0 (g.body.take 2) = j
  ·rw [if_pos c, c, if_pos hj]
   rw [c] at h2
   unfold KS at h2 ⊢
   rw [Ht]
   have hex : Cb f.set (Aq f) j g = true := by unfold Cb; simp [h1.1, h1.2.1, h1.2.2, c]
   rw [hex]
   cases he : exL l f.set (Aq f) j with
   | none => simp
   | some x =>
    rw [he] at h2
    have := JV he
    simp only [Option.getD_some] at h2
    rw [h2] at this
    simp at this
    omega
  ·rw [if_neg c]
   unfold KS
   rw [Ht]
   have hex : Cb f.set (Aq f) j g = false := by unfold Cb; simp [c]
   rw [hex]
   simp
 ·rw [List.getElem?_eq_none (by simp; omega)]
  simp
  omega
def B8 (ds : List DescL) (svs : List Value) : List Value := (ds.zip svs).flatMap fun p => [.string (str p.1.name), .int .i64 (p.1.long : Int), .int .u64 (p.1.hash : Int), p.2]
theorem I9 (ds : List DescL) (svs : List Value) (h : svs.length = ds.length) (d : DescL) (v : Value) : B8 (ds ++ [d]) (svs ++ [v]) = B8 ds svs ++ [.string (str d.name), .int .i64 (d.long : Int), .int .u64 (d.hash : Int), v] := by
 unfold B8
 rw [List.zip_append h.symm, List.flatMap_append]
 rfl
def DescRows (w : World) (base : Nat) (ds : List DescL) (svs : List Value) : Prop := svs.length = ds.length ∧ ∀ (k : Nat) (d : DescL) (v : Value), ds[k]? = some d → svs[k]? = some v → w.ownsRow base 63 1 v d.slices.length (Cz d.slices)
theorem DescRows.nil (w : World) (base : Nat) : DescRows w base [] [] := ⟨rfl, fun k d v h => by simp at h⟩
theorem DescRows.map {w w' : World} {base : Nat} {ds : List DescL} {svs : List Value} (h : DescRows w base ds svs) (hm : ∀ v n xs, w.ownsRow base 63 1 v n xs → w'.ownsRow base 63 1 v n xs) : DescRows w' base ds svs := ⟨h.1, fun k d v h1 h2 => hm _ _ _ (h.2 k d v h1 h2)⟩
theorem DescRows.touch {w w' : World} {base : Nat} {ds : List DescL} {svs : List Value} (h : DescRows w base ds svs) {L : List Nat} (ht : Touch L w w') (hL : ∀ x ∈ L, x < base) : DescRows w' base ds svs := h.map (fun _ _ _ ho => Ac ho ht hL)
theorem DescRows.grown {w w' : World} {base b' : Nat} {ds : List DescL} {svs : List Value} (h : DescRows w base ds svs) {e : TypeId} {s n : Nat} {v : Value} {xs : List Value} (hr : w.ownsRow b' e s v n xs) (hg : w.grownBy w' v.ownBlock) (he : 63 ≠ e) : DescRows w' base ds svs := h.map (fun _ _ _ ho => ho.kept hg (Bn ho hr he))
structure LeftL where
 set : SetL
 slices : List (List UInt8)
 states : List Nat
 flags : List Bool
 lost : Nat
 extra : Nat
def BU (fs : List Ak) (d : DescL) : Nat := D6 d.name d.long d.hash fs
def AF (ds : List DescL) : List Nat := ds.flatMap DescL.slices
def EY (fs : List Ak) (b : Nat) (hs : List Nat) : Nat := (hs.filter fun h => (AL fs b h).isNone).length
def exN (es : List (List UInt8)) : Nat := (es.filter fun e => decide (e ≠ [])).length
def CI (fs : List Ak) (b : Nat) (hs : List Nat) : List (List UInt8) := hs.map fun h => (AL fs b h).getD []
def CW (fs : List Ak) (b : Nat) (hs : List Nat) : List Bool := hs.map fun h => (AL fs b h).isSome
def Ct (fs : List Ak) (s : SetL) : LeftL := ⟨s, CI fs s.size (AF s.files), s.files.map (BU fs), CW fs s.size (AF s.files), EY fs s.size (AF s.files), exN s.extra⟩
def DZ (fs : List Ak) (vs : List (List UInt8)) : Bool := decide (fs.length ≤ 12) && decide (vs.length ≤ 40) && fs.all (fun f => decide (f.2.length ≤ 400)) && vs.all (fun v => decide (v.length ≤ 4000))
def AH (fs : List Ak) (vs : List (List UInt8)) : LeftL ⊕ Nat := if DZ fs vs then (match EH (At vs) with
 | .inr n => .inr n
 | .inl s => .inl (Ct fs s)) else .inr 1
theorem NM (fs : List Ak) (b : Nat) (hs : List Nat) (h : Nat) : EY fs b (hs ++ [h]) = EY fs b hs + if (AL fs b h).isNone then 1 else 0 := by
 unfold EY
 rw [List.filter_append, List.length_append]
 cases hf : AL fs b h <;> simp [hf]
theorem Rb (es : List (List UInt8)) (e : List UInt8) : exN (es ++ [e]) = exN es + if e = [] then 0 else 1 := by
 unfold exN
 rw [List.filter_append, List.length_append]
 by_cases h : e = [] <;> simp [h]
theorem Ng (fs : List Ak) (b : Nat) (hs : List Nat) : EY fs b hs ≤ hs.length := List.length_filter_le _ _
theorem Pk (es : List (List UInt8)) : exN es ≤ es.length := List.length_filter_le _ _
structure RdAt (B : Nat) (s : List UInt8 × Bool) (w : World) : Prop where
  c0 : w.cell? ⟨B, 0, none⟩ = some (.string (str s.1))
  c1 : w.cell? ⟨B, 1, none⟩ = some (.bool s.2)
  f0 : w.frozen? ⟨B, 0, none⟩ = false
  f1 : w.frozen? ⟨B, 1, none⟩ = false
theorem RdAt.lt {B : Nat} {s : List UInt8 × Bool} {w : World} (h : RdAt B s w) : B < w.heap.size := World.block_lt_of_cell? w _ h.c0
theorem RdAt.touch {B : Nat} {s : List UInt8 × Bool} {w w' : World} (h : RdAt B s w) {L : List Nat} (ht : Touch L w w') (hL : B ∉ L) : RdAt B s w' :=
  ⟨by rw [ht.cell (x := ⟨B, 0, none⟩) h.lt hL]; exact h.c0, by rw [ht.cell (x := ⟨B, 1, none⟩) h.lt hL]; exact h.c1, by rw [ht.frozen (x := ⟨B, 0, none⟩) h.lt hL]; exact h.f0, by rw [ht.frozen (x := ⟨B, 1, none⟩) h.lt hL]; exact h.f1⟩
theorem RdAt.set0 {B : Nat} {r r' : List UInt8} {sh : Bool} {w : World} (h : RdAt B (r, sh) w) : RdAt B (r', sh) (w.setCell ⟨B, 0, none⟩ (.string (str r'))) := by
  obtain ⟨c0, c1, f0, f1⟩ := h
  exact ⟨World.cell?_setCell_same _ _ _ c0, by rw [World.cell?_setCell_other _ _ _ _ (by simp)]; exact c1, by rw [World.frozen?_setCell]; exact f0, by rw [World.frozen?_setCell]; exact f1⟩
theorem RdAt.set1 {B : Nat} {r : List UInt8} {sh sh' : Bool} {w : World} (h : RdAt B (r, sh) w) : RdAt B (r, sh') (w.setCell ⟨B, 1, none⟩ (.bool sh')) := by
  obtain ⟨c0, c1, f0, f1⟩ := h
  exact ⟨by rw [World.cell?_setCell_other _ _ _ _ (by simp)]; exact c0, World.cell?_setCell_same _ _ _ c1, by rw [World.frozen?_setCell]; exact f0, by rw [World.frozen?_setCell]; exact f1⟩
theorem E5 (B : Nat) (s : List UInt8 × Bool) (n : Nat) (hs : s.1.length ≤ 1000000) (w : World) (h : RdAt B s w) :
    Calls Tryz.prog 139 #[.pointer (some ⟨B, 0, none⟩), .int .i64 (n : Int)] w fun e w' => e = .returned (.string (str (rdT s n))) ∧ RdAt B (rdS s n) w' ∧ Touch [B] w w' := by
  obtain ⟨r, sh⟩ := s
  have H := Aa h
  obtain ⟨c0, c1, f0, f1⟩ := h
  simp only at c0 c1 hs
  have hss := Ae r
  by_cases hc : n ≤ r.length
  · have a1 : ¬ ((r.length : Int) < (n : Int)) := by omega
    have e1 : rdT (r, sh) n = r.take n := CM hc
    have e2 : rdS (r, sh) n = (r.drop n, sh) := BL hc
    have ex1 : (str r).extract 0 n = str (r.take n) := by rw [AB]; simp
    have ex2 : (str r).extract n r.length = str (r.drop n) := by rw [AB]; rw [List.take_of_length_le (by simp)]
    rw [e1, e2]
    clear e1 e2
    go_enter Tryz.func139, Tryz.ntmps139
    go_wp2_with fail
    go_ret
    exact ⟨rfl, H.out.set0, (Touch.refl _ _).setCell (.inl (by simp)) _⟩
  · have a1 : (r.length : Int) < (n : Int) := by omega
    have e1 : rdT (r, sh) n = [] := SK (by simpa using hc)
    have e2 : rdS (r, sh) n = ([], true) := DC (by simpa using hc)
    rw [e1, e2]
    clear e1 e2
    go_enter Tryz.func139, Tryz.ntmps139
    go_wp2_with fail
    go_ret
    exact ⟨rfl, H.out.set0.set1, ((Touch.refl _ _).setCell (.inl (by simp)) _).setCell (.inl (by simp)) _⟩
theorem PY (n : Nat) (b : UInt8) : bits BinOp.or IntKind.u64 (IntKind.u64.wrap ((n : Int) * 256)) (IntKind.u64.wrap (b.toNat : Int)) = ((CZ n b : Nat) : Int) := by
  have hb := b.toNat_lt
  have e1 : IntKind.u64.wrap ((n : Int) * 256) = ((2 ^ 8 * (n % 72057594037927936) : Nat) : Int) := by rw [IntKind.wrap_u64]; omega
  have e2 : IntKind.u64.wrap (b.toNat : Int) = (b.toNat : Int) := by rw [IntKind.wrap_u64]; omega
  rw [e1, e2, u64_or_nat _ b.toNat (by omega) (by omega), ← Nat.two_pow_add_eq_or_of_lt (i := 8) (b := b.toNat) (by omega)]
  unfold CZ P64
  omega
theorem Bx (B : Nat) (s : List UInt8 × Bool) (n : Nat) (hs : s.1.length ≤ 1000000) (hn : n ≤ 1000000) (w : World) (h : RdAt B s w) :
    Calls Tryz.prog 140 #[.pointer (some ⟨B, 0, none⟩), .int .i64 (n : Int)] w fun e w' => e = .returned (.int .u64 ((C0 (rdT s n) : Nat) : Int)) ∧ RdAt B (rdS s n) w' ∧ Touch [B] w w' := by
  have HT := Aa (E5 B s n hs w h)
  obtain ⟨l, hl⟩ : ∃ l, l = rdT s n := ⟨_, rfl⟩
  have hll : l.length ≤ 1000000 := by rw [hl]; exact Nat.le_trans (Dl s n) hn
  rw [← hl] at HT ⊢
  clear hl h
  have hcv := fun W => Lib.run_convert_string_bytes (P := Tryz.prog) W 9 67 5 (str l) Tryz.underlying9 Tryz.underlying67 Tryz.underlying5
  go_enter Tryz.func140, Tryz.ntmps140
  go_wp2_with fail
  refine HT.out.mono ?_
  rintro e w1 ⟨rfl, hr1, ht1⟩
  have hss := Ae l
  have hcell := fun j (hj : j < l.length) => Lib.bytesWorld_cell w1 5 (str l) j (by rw [hss]; exact hj)
  have hbw : Below w1.heap.size w1 (Lib.bytesWorld w1 5 (str l)) := ⟨rfl, rfl, rfl, by rw [Lib.bytesWorld_size]; omega, fun k hk => Lib.bytesWorld_at_old _ _ _ _ hk⟩
  have HR : Hid (RdAt B (rdS s n) (Lib.bytesWorld w1 5 (str l))) := Aa (hr1.touch (Touch.of_below hbw []) (by simp))
  have HTT : Hid (Touch [B] w (Lib.bytesWorld w1 5 (str l))) := Aa (ht1.andThen (Touch.of_below hbw []) (by simp))
  go_wp2_with fail
  obtain ⟨W, hW⟩ : ∃ W, W = Lib.bytesWorld w1 5 (str l) := ⟨_, rfl⟩
  rw [← hW] at hcell HR HTT ⊢
  have HCELL := Aa hcell
  obtain ⟨g, hg⟩ : ∃ g, g = w1.heap.size := ⟨_, rfl⟩
  obtain ⟨cp, hcp⟩ : ∃ cp, cp = grownCap w1 l.length 0 5 := ⟨_, rfl⟩
  rw [← hg, ← hcp]
  rw [← hg] at HCELL
  clear hW hg hcp hcell hbw hr1 ht1 hcv HT
  go_loop [5, 13] (fun x i => ∃ k h' : Nat, k ≤ l.length ∧ h' < P64 ∧ Hid ((l.drop k).foldl CZ h' = C0 l) ∧ x = .int .u64 (h' : Int) ∧ i = .int .i64 (k : Int))
                    (fun _ i => l.length - (intOf i).toNat)
  case atStart => exact ⟨0, 0, by omega, by decide, Aa rfl, rfl, rfl⟩
  case round =>
    obtain ⟨k, h', hk, hh', hm, rfl, rfl⟩ := hrel
    by_cases hlt : k < l.length
    · have hc := HCELL.out k hlt
      have e1 : (str l).data.toList.getD k 0 = l[k] := by simp [str, hlt]
      rw [e1] at hc
      have hsp := PY h' l[k]
      obtain ⟨b, hb⟩ : ∃ b, b = l[k] := ⟨_, rfl⟩
      rw [← hb] at hc hsp
      have HB := Aa hb
      clear hb e1
      go_wp2_with fail
      refine ⟨⟨k + 1, CZ h' b, by omega, GE _ _, Aa ?_, rfl, by go_num⟩, ?_⟩
      · have := hm.out
        rw [List.drop_eq_getElem_cons hlt, List.foldl_cons, ← HB.out] at this
        exact this
      · simp [intOf]; omega
    · have hk2 : k = l.length := by omega
      subst hk2
      go_wp2_with fail
      go_ret
      have := hm.out
      rw [List.drop_eq_nil_of_le (Nat.le_refl _)] at this
      simp only [List.foldl_nil] at this
      rw [← this]
      exact ⟨rfl, HR.out, HTT.out⟩
def Mf (B : Nat) (W : World) : Nat := match W.cell? ⟨B, 0, none⟩ with | some (.string t) => t.size | _ => 0
theorem RdAt.rest {B : Nat} {s : List UInt8 × Bool} {w : World} (h : RdAt B s w) : Mf B w = s.1.length := by
  unfold Mf
  rw [h.c0]
  exact Ae _
theorem Tryz.infoU64 : (Tryz.prog.info? 63).map (fun i => (i.zero, i.size, i.bytes)) = some (some (.int .u64 0), 1, 8) := by kernel_rfl
theorem Im (B : Nat) (s : List UInt8 × Bool) (hs : s.1.length ≤ 1000000) (w : World) (h : RdAt B s w) :
    Calls Tryz.prog 194 #[.pointer (some ⟨B, 0, none⟩)] w fun e w' => ∃ v, e = .returned v ∧ w'.ownsRow w.heap.size 63 1 v (KW s.1).length (Cz (KW s.1)) ∧ RdAt B (IZ s) w' ∧ Touch [B] w w' := by
  obtain ⟨i0, hi, hz0, hz1, hz2⟩ := info_parts Tryz.infoU64
  have HR := Aa h
  clear h
  go_enter Tryz.func194, Tryz.ntmps194
  go_wp2_with fail
  have hlt := HR.out.lt
  go_loopw [3] (fun v W => ∃ (D : List Nat) (s' : List UInt8 × Bool), W.ownsRow w.heap.size 63 1 v D.length (Cz D) ∧ RdAt B s' W ∧ Touch [B] w W ∧ Hid (D ++ KW s'.1 = KW s.1) ∧ Hid (IZ s' = IZ s) ∧ s'.1.length ≤ s.1.length)
    (fun _ W => Mf B W)
  case atStart =>
    refine ⟨[], s, World.ownsRow_made (base := w.heap.size) (e := 63) (size := 1) w #[] 0 (Nat.le_refl _) (by unfold maxLen; omega) rfl, ?_, (Touch.refl _ _).alloc _, Aa (by simp), Aa rfl, Nat.le_refl _⟩
    exact HR.out.touch ((Touch.refl [] _).alloc _) (by simp)
  case round =>
    obtain ⟨D, s', hown, hra, htc, HD, HS, hle⟩ := hrel
    have hrest := hra.rest
    have hbsz : B < wr.heap.size := hra.lt
    have hDl : D.length + (s'.1.length + 7) / 8 ≤ 1000000 := by
      have := congrArg List.length HD.out
      rw [List.length_append, Dp, Dp] at this
      omega
    have hss := Ae s'.1
    have HO := Aa hown
    have HRA := Aa hra
    have HT := Aa htc
    obtain ⟨c0, c1, f0, f1⟩ := hra
    by_cases hz : s'.1.length = 0
    · have hnil : s'.1 = [] := List.length_eq_zero_iff.1 hz
      have a1 : ¬ ((0 : Int) < (s'.1.length : Int)) := by omega
      clear hown htc
      go_wp2_with fail
      go_ret
      refine ⟨_, rfl, ?_, ?_, HT.out⟩
      · have := HD.out
        rw [hnil, Rw, List.append_nil] at this
        rw [← this]
        exact HO.out
      · rw [← HS.out]
        have e : IZ s' = s' := by
          unfold IZ
          rw [hz, ← hnil]
          simp
        rw [e]
        exact HRA.out
    · have hne : s'.1 ≠ [] := fun e => hz (by rw [e]; rfl)
      have a1 : (0 : Int) < (s'.1.length : Int) := by omega
      have hN := Aa (Bx B s' 8 (by omega) (by omega) wr HRA.out)
      have h1 := Qo s' hne
      have h2 := Qv s' hne
      have H1 : Hid ((D ++ [C0 (rdT s' 8)]) ++ KW (rdS s' 8).1 = KW s.1) := Aa (by rw [← HD.out, h1]; simp)
      have H2 : Hid (IZ (rdS s' 8) = IZ s) := Aa (by rw [h2, HS.out])
      have hlen8 : (rdS s' 8).1.length < s'.1.length := by
        unfold rdS
        split
        · simp; omega
        · simp; omega
      have hle2 : (rdS s' 8).1.length ≤ s.1.length := by omega
      obtain ⟨x, hx⟩ : ∃ x, x = C0 (rdT s' 8) := ⟨_, rfl⟩
      rw [← hx] at hN H1
      obtain ⟨s2, hs2⟩ : ∃ x, x = rdS s' 8 := ⟨_, rfl⟩
      rw [← hs2] at hN H1 H2 hlen8 hle2
      clear hown htc hx hs2 h1 h2 HD HS
      go_wp2_with fail
      refine hN.out.mono ?_
      rintro e w2 ⟨rfl, hr2, ht2⟩
      have L1 := Aa (Ac HO.out ht2 (by simpa using hlt))
      have L2 := Aa (HT.out.trans ht2)
      have HR2 := Aa hr2
      have hsz2 : w.heap.size ≤ w2.heap.size := L2.out.size
      clear hr2 ht2 HO HT HRA
      go_wp2_with (at_builtin; refine wpList_append_own _ rfl (.tmp 11) (.tmp 14) 99 rfl w.heap.size 63 i0 (.int .u64 0) 1 8 Tryz.underlying99 hi hz0 hz1 hz2 rfl (by decide) _ _ _ rfl (L1.out.alloc _) ⟨w2.heap.size, 0, none⟩ 1 1 [.int .u64 (x : Int)] rfl rfl (cell_one_new _ _ _) ?c2 ?c3 ?c4 ?c5 ?_)
      case c2 =>
        intro u hu
        simp at hu
        subst hu
        rfl
      case c3 => unfold maxLen; omega
      case c4 => omega
      case c5 => simp; omega
      intro v6 w6 hown6 hg6 _
      have ht6 := (L2.out.alloc (.cells #[.int .u64 (x : Int)] 63)).row (L1.out.alloc _) (Nat.le_refl _) hg6
      have hr6 : RdAt B s2 w6 := by
        have h9 : RdAt B s2 (w2.alloc (.cells #[.int .u64 (x : Int)] 63)) := HR2.out.touch ((Touch.refl [] _).alloc _) (by simp)
        have hblk : w6.heap[B]? = (w2.alloc (.cells #[.int .u64 (x : Int)] 63)).heap[B]? := hg6.block B h9.lt (fun e => by
          have := (L1.out.lt B e.symm).1
          omega)
        exact ⟨by rw [World.cell?_of_block (a := ⟨B, 0, none⟩) hblk]; exact h9.c0, by rw [World.cell?_of_block (a := ⟨B, 1, none⟩) hblk]; exact h9.c1, by rw [World.frozen?_of_block (a := ⟨B, 0, none⟩) hblk]; exact h9.f0, by rw [World.frozen?_of_block (a := ⟨B, 1, none⟩) hblk]; exact h9.f1⟩
      have hrest6 := hr6.rest
      have K1 := Aa hown6
      have K2 := Aa ht6
      have K3 := Aa hr6
      clear hown6 hg6 ht6 hr6 L1 L2 HR2
      go_wp2_with fail
      refine ⟨⟨D ++ [x], s2, ?_, K3.out, K2.out, H1, H2, hle2⟩, by rw [hrest6, hrest]; exact hlen8⟩
      have e : Cz (D ++ [x]) = Cz D ++ [.int .u64 (x : Int)] := by simp [Cz]
      rw [List.length_append, e]
      exact K1.out
end Go.Proofs.YtonjphollmdicaaGreatDoor
