import Derived.Test.YtonjphollmdicaaGreatDoorB10
import Derived.Test.YtonjphollmdicaaGreatDoorB18
import Derived.Test.YtonjphollmdicaaGreatDoorB28
import Derived.Test.YtonjphollmdicaaGreatDoorB32
import Derived.Test.YtonjphollmdicaaGreatDoorB33
import Derived.Test.YtonjphollmdicaaGreatDoorB34
set_option maxRecDepth 100000
set_option maxHeartbeats 4000000
set_option linter.unusedSimpArgs false
namespace Go.Proofs.YtonjphollmdicaaGreatDoor
open Go.ChangeShapes Go.WideShapes Go.ChangeAt Go.RowKit
theorem DescRows.snoc {w : World} {base : Nat} {ds : List DescL} {svs : List Value} (h : DescRows w base ds svs) {d : DescL} {v : Value} (hv : w.ownsRow base 63 1 v d.slices.length (Cz d.slices)) : DescRows w base (ds ++ [d]) (svs ++ [v]) := by
 refine ⟨by simp [h.1], fun k d' v' h1 h2 => ?_⟩
 by_cases c : k < ds.length
 ·rw [List.getElem?_append_left c] at h1
  rw [List.getElem?_append_left (by rw [h.1]; exact c)] at h2
  exact h.2 k d' v' h1 h2
 ·rw [List.getElem?_append_right (by omega)] at h1
  rw [List.getElem?_append_right (by rw [h.1]; omega), h.1] at h2
  have : k - ds.length = 0 := by
   cases hk : k - ds.length with
   | zero => rfl
   | succ n => rw [hk] at h1; simp at h1
  rw [this] at h1 h2
  simp only [List.getElem?_cons_zero, Option.some.injEq] at h1 h2
  subst h1 h2
  exact hv
def GJ : Value := .agg #[.int .i64 0, .slice none 0 0, .slice none 0 0]
def SZ (w : World) (base : Nat) (v : Value) (s : SetL) : Prop := ∃ fv xv svs, v = .agg #[.int .i64 (s.size : Int), fv, xv] ∧
 w.ownsRow base 101 4 fv s.files.length (B8 s.files svs) ∧ DescRows w base s.files svs ∧ w.ownsRow base 9 1 xv s.extra.length (AM s.extra)
def EO (r : SetL ⊕ Nat) (w : World) (e : Ending) (w' : World) : Prop := Below w.heap.size w w' ∧ match r with
 | .inr n => e = .returned (.tuple #[GJ, .int .i64 (n : Int)])
 | .inl s => ∃ v, e = .returned (.tuple #[v, .int .i64 0]) ∧ SZ w' (w.heap.size + 1) v s
theorem Tryz.infoDe : (Tryz.prog.info? 101).map (fun i => (i.zero, i.size, i.bytes)) = some (some (.agg #[.string ByteArray.empty, .int .i64 0, .int .u64 0, .slice none 0 0]), 4, 56) := by kernel_rfl
theorem Tryz.infoTx : (Tryz.prog.info? 9).map (fun i => (i.zero, i.size, i.bytes)) = some (some (.string ByteArray.empty), 1, 16) := by kernel_rfl
theorem QU {G : Prop} {P : Nat → Nat → World → Prop} (Rest : Nat → Nat → World → Prop) (hB : ∀ x s W, P x s W → Rest x s W) (hA : (∀ x s W, P x s W → Rest x s W) → G) : G := hA hB
theorem Rq {G : Prop} {P : Nat → World → Prop} (Rest : Nat → World → Prop) (hB : ∀ x W, P x W → Rest x W) (hA : (∀ x W, P x W → Rest x W) → G) : G := hA hB
theorem Re {G : Prop} {P : Nat → Option Addr → Nat → World → Prop} (Rest : Nat → Option Addr → Nat → World → Prop) (hB : ∀ x a c W, P x a c W → Rest x a c W) (hA : (∀ x a c W, P x a c W → Rest x a c W) → G) : G := hA hB
theorem FV {l : List FoundL} {f : FoundL} (h : AV l = some f) : f ∈ l ∧ 1 ≤ Bs f ∧ Bs f ≤ 6 ∧ f.body.length = 3 + 8 * Bs f ∧ 2 ≤ Aq f ∧ Aq f ≤ 32 := by
 have h1 := List.find?_some h
 have h2 := List.mem_of_find?_eq_some h
 unfold BW at h1
 simp only [Bool.and_eq_true, decide_eq_true_eq] at h1
 obtain ⟨_, ⟨⟨⟨h3, _⟩, h4⟩, h5⟩, h6⟩ := h1
 unfold Ay at h3
 simp only [decide_eq_true_eq] at h3
 refine ⟨h2, h4, h5, h6, ?_, ?_⟩ <;> unfold Aq <;> omega
theorem Hl {l : List FoundL} {set i hash b : Nat} {d : DescL} (hb : 2 ≤ b) (h : Bl l set i hash b = some d) : d.name.length ≤ 20 ∧ d.long ≤ 400 ∧ d.slices.length ≤ 200 := by
 unfold Bl at h
 obtain ⟨f, _, hf⟩ := List.exists_of_findSome?_eq_some h
 split at hf
 ·unfold Hn at hf
  split at hf
  ·rename_i hform
   cases hf
   unfold Dj at hform
   simp only [Bool.and_eq_true, decide_eq_true_eq] at hform
   unfold Hh
   simp only [List.length_take, List.length_drop, List.length_map, List.length_range]
   have : Aj (BA f.body) b ≤ 200 := by
    unfold Aj
    have : (BA f.body + b - 1) / b ≤ 200 := by
     rw [Nat.div_le_iff_le_mul_add_pred (by omega)]
     have h1 : b * 200 = 200 * b := Nat.mul_comm _ _
     have h2 : 200 * 2 ≤ 200 * b := Nat.mul_le_mul_left _ hb
     omega
    exact this
   omega
  ·cases hf
 ·cases hf
structure RBlk (w W : World) (MB SB XB base : Nat) (m : FoundL) (fv : Value) (exs : List (List UInt8)) : Prop where
 res : Blk W w.heap.size [.int .i64 0, .slice none 0 0, .slice none 0 0]
 chief : Blk W MB [.int .u8 (m.kind.toNat : Int), .int .u64 (m.set : Int), .string (str m.body)]
 s : Blk W SB [.int .i64 (Aq m : Int), fv, .slice (some ⟨XB, 0, none⟩) 20 20]
 ex : W.ownsRow (w.heap.size + 1) 9 1 (.slice (some ⟨XB, 0, none⟩) 20 20) 20 (AM exs)
 below : Below w.heap.size w W
 size : base ≤ W.heap.size
structure RNe (w : World) (MB SB XB base : Nat) : Prop where
 m : w.heap.size < MB
 s : w.heap.size < SB
 x : w.heap.size < XB
 m' : MB < base
 s' : SB < base
 x' : XB < base
 ms : MB ≠ SB
 mx : MB ≠ XB
 sx : SB ≠ XB
theorem RBlk.later {w W W' : World} {MB SB XB base : Nat} {m : FoundL} {fv : Value} {exs : List (List UInt8)} (h : RBlk w W MB SB XB base m fv exs) (hb : Below W.heap.size W W') : RBlk w W' MB SB XB base m fv exs := by
 have ht := Touch.of_below hb []
 exact ⟨h.res.touch ht (by simp), h.chief.touch ht (by simp), h.s.touch ht (by simp), Ab h.ex (Nat.le_refl _) hb, Below.next h.below hb, Nat.le_trans h.size hb.size⟩
theorem RBlk.touch {w W W' : World} {MB SB XB base : Nat} {m : FoundL} {fv : Value} {exs : List (List UInt8)} (h : RBlk w W MB SB XB base m fv exs) (hn : RNe w MB SB XB base) {L : List Nat} (ht : Touch L W W') (hL : ∀ x ∈ L, base ≤ x) : RBlk w W' MB SB XB base m fv exs := by
 have hw : w.heap.size ≤ W.heap.size := h.below.size
 have nl : ∀ x, x < base → x ∉ L := fun x hx hm => by have := hL x hm; omega
 have h1 := hn.m
 have h2 := hn.m'
 exact ⟨h.res.touch ht (nl _ (by omega)), h.chief.touch ht (nl _ hn.m'), h.s.touch ht (nl _ hn.s'), AQ h.ex ht (fun k hk => by
  simp only [Value.ownBlock, Option.some.injEq] at hk
  subst hk
  exact nl _ hn.x'), h.below.trans (ht.below hw (fun x hx => by have := hL x hx; omega)), Nat.le_trans h.size ht.size⟩
theorem RBlk.files {w W : World} {MB SB XB base : Nat} {m : FoundL} {fv : Value} {exs : List (List UInt8)} (h : RBlk w W MB SB XB base m fv exs) (hn : RNe w MB SB XB base) (v : Value) : RBlk w (W.setCell ⟨SB, 1, none⟩ v) MB SB XB base m v exs := by
 have h1 := hn.s
 have ht : Touch [SB] W (W.setCell ⟨SB, 1, none⟩ v) := (Touch.refl _ _).setCell (by simp) v
 exact ⟨h.res.touch ht (by simp; omega), h.chief.touch ht (by simpa using hn.ms), h.s.set 1 v, AQ h.ex ht (fun k hk => by
  simp only [Value.ownBlock, Option.some.injEq] at hk
  subst hk
  simpa using hn.sx.symm), h.below.setCell (Nat.le_of_lt h1) v, by simpa using h.size⟩
theorem RBlk.extra {w W : World} {MB SB XB base : Nat} {m : FoundL} {fv : Value} {exs : List (List UInt8)} (h : RBlk w W MB SB XB base m fv exs) (hn : RNe w MB SB XB base) (j : Nat) (t : List UInt8) : RBlk w (W.setCell ⟨XB, j, none⟩ (.string (str t))) MB SB XB base m fv (exs.set j t) := by
 have h1 := hn.x
 have ht : Touch [XB] W (W.setCell ⟨XB, j, none⟩ (.string (str t))) := (Touch.refl _ _).setCell (by simp) _
 refine ⟨h.res.touch ht (by simp; omega), h.chief.touch ht (by simpa using hn.mx), h.s.touch ht (by simpa using hn.sx), ?_, h.below.setCell (Nat.le_of_lt h1) _, by simpa using h.size⟩
 have e : AM (exs.set j t) = (AM exs).set j (.string (str t)) := by simp [AM, List.map_set]
 rw [e]
 exact (h.ex.stored j _).1
theorem LC {X w5 : World} (hb : Below (X.drew.alloc (.cells #[.string ⟨#[]⟩, .int .i64 0, .int .u64 0, .slice none 0 0] 101)).heap.size (X.drew.alloc (.cells #[.string ⟨#[]⟩, .int .i64 0, .int .u64 0, .slice none 0 0] 101)) w5) :
  (w5.cell? ⟨X.heap.size, 0, none⟩ = some (.string ⟨#[]⟩) ∧ w5.cell? ⟨X.heap.size, 1, none⟩ = some (.int .i64 0) ∧ w5.cell? ⟨X.heap.size, 2, none⟩ = some (.int .u64 0) ∧ w5.cell? ⟨X.heap.size, 3, none⟩ = some (.slice none 0 0)) ∧
  (w5.frozen? ⟨X.heap.size, 0, none⟩ = false ∧ w5.frozen? ⟨X.heap.size, 1, none⟩ = false ∧ w5.frozen? ⟨X.heap.size, 2, none⟩ = false ∧ w5.frozen? ⟨X.heap.size, 3, none⟩ = false) ∧ X.heap.size < w5.heap.size := by
 have h := (Blk.new X.drew #[.string ⟨#[]⟩, .int .i64 0, .int .u64 0, .slice none 0 0] 101).touch (Touch.of_below hb []) (by simp)
 have hs : X.heap.size < w5.heap.size := by have := hb.size; simp at this; omega
 exact ⟨⟨(h 0 _ rfl).1, (h 1 _ rfl).1, (h 2 _ rfl).1, (h 3 _ rfl).1⟩, ⟨(h 0 _ rfl).2, (h 1 _ rfl).2, (h 2 _ rfl).2, (h 3 _ rfl).2⟩, hs⟩
def PD (wr W : World) (b0 DB : Nat) (d : DescL) (sa : Option Addr) (sc : Nat) : Prop := Touch [] wr W ∧ Blk W DB [.string (str d.name), .int .i64 (d.long : Int), .int .u64 (d.hash : Int), .slice sa d.slices.length sc] ∧ W.ownsRow b0 63 1 (.slice sa d.slices.length sc) d.slices.length (Cz d.slices) ∧ wr.heap.size ≤ DB
theorem Oc {wr w5 W : World} {b0 : Nat} {d : DescL} {sa : Option Addr} {sc : Nat} (hb0 : b0 ≤ wr.heap.size) (hb5 : Below wr.drew.heap.size wr.drew w5) (hv5 : w5.ownsRow wr.drew.heap.size 63 1 (.slice sa d.slices.length sc) d.slices.length (Cz d.slices))
  (hW : W = w5.alloc (.cells #[.string (str d.name), .int .i64 (d.long : Int), .int .u64 (d.hash : Int), .slice sa d.slices.length sc] 101)) : PD wr W b0 w5.heap.size d sa sc := by
 subst hW
 have hs : wr.heap.size ≤ w5.heap.size := hb5.size
 exact ⟨(((Touch.refl [] wr).drew).trans (Touch.of_below hb5 [])).alloc _, Blk.new w5 _ _, (Ad hb0 hv5).alloc _, hs⟩
theorem Om {wr w5 W : World} {b0 : Nat} {d : DescL} {sa : Option Addr} {sc : Nat} (hb0 : b0 ≤ wr.heap.size) (hb5 : Below (wr.drew.alloc (.cells #[.string ⟨#[]⟩, .int .i64 0, .int .u64 0, .slice none 0 0] 101)).heap.size (wr.drew.alloc (.cells #[.string ⟨#[]⟩, .int .i64 0, .int .u64 0, .slice none 0 0] 101)) w5) (hv5 : w5.ownsRow (wr.drew.alloc (.cells #[.string ⟨#[]⟩, .int .i64 0, .int .u64 0, .slice none 0 0] 101)).heap.size 63 1 (.slice sa d.slices.length sc) d.slices.length (Cz d.slices))
  (hW : W = (((w5.setCell ⟨wr.heap.size, 0, none⟩ (.string (str d.name))).setCell ⟨wr.heap.size, 1, none⟩ (.int .i64 (d.long : Int))).setCell ⟨wr.heap.size, 2, none⟩ (.int .u64 (d.hash : Int))).setCell ⟨wr.heap.size, 3, none⟩ (.slice sa d.slices.length sc)) : PD wr W b0 wr.heap.size d sa sc := by
 have h := (Blk.new wr.drew #[.string ⟨#[]⟩, .int .i64 0, .int .u64 0, .slice none 0 0] 101).touch (Touch.of_below hb5 []) (by simp)
 have t0 : Touch [] wr w5 := ((Touch.refl [] wr).drew.alloc _).trans (Touch.of_below hb5 [])
 have t1 : Touch [wr.heap.size] w5 W := by
  subst hW
  exact ((((Touch.refl _ _).setCell (by simp) _).setCell (by simp) _).setCell (by simp) _).setCell (by simp) _
 refine ⟨t0.andThen t1 (by simp), ?_, Ad (Nat.le_trans hb0 (by simp)) (Ac hv5 t1 (by simp)), Nat.le_refl _⟩
 subst hW
 exact (((h.set 0 (.string (str d.name))).set 1 (.int .i64 (d.long : Int))).set 2 (.int .u64 (d.hash : Int))).set 3 (.slice sa d.slices.length sc)
structure RAll (w W : World) (MB SB XB b0 : Nat) (f : FoundL) (fv nm lv : Value) (ds : List DescL) (svs : List Value) (l : List FoundL) : Prop where
 blk : RBlk w W MB SB XB b0 f fv (List.replicate 20 [])
 files : W.ownsRow b0 101 4 fv ds.length (B8 ds svs)
 rows : DescRows W b0 ds svs
 names : W.ownsRow b0 62 2 nm ds.length (As (Df ds))
 found : W.ownsRow (w.heap.size + 1) 148 3 lv l.length (A8 l)
 apart : ∀ k, lv.ownBlock = some k → k ≠ SB ∧ k ≠ XB
theorem RAll.touch {w W W' : World} {MB SB XB b0 : Nat} {f : FoundL} {fv nm lv : Value} {ds : List DescL} {svs : List Value} {l : List FoundL} (h : RAll w W MB SB XB b0 f fv nm lv ds svs l) (hn : RNe w MB SB XB b0) (ht : Touch [] W W') : RAll w W' MB SB XB b0 f fv nm lv ds svs l :=
 ⟨h.blk.touch hn ht (by simp), Ac h.files ht (by simp), h.rows.touch ht (by simp), Ac h.names ht (by simp), Ac h.found ht (by simp), h.apart⟩
theorem O9 {W W' : World} {DB b : Nat} {vs : List Value} (h : Blk W DB vs) {e : TypeId} {sz n : Nat} {v : Value} {xs : List Value} (_ : W.ownsRow b e sz v n xs) (hv : v.ownBlock ≠ some DB) (hg : W.grownBy W' v.ownBlock) : Blk W' DB vs :=
 h.touch (Touch.of_row hg) (fun hm => hv (blkL_mem.1 hm))
theorem QG {w W w6 : World} {MB SB XB b0 DB : Nat} {f : FoundL} {fv nm lv v6 sv : Value} {ds : List DescL} {svs : List Value} {l : List FoundL} {d : DescL} {dvs : List Value} (h : RAll w W MB SB XB b0 f fv nm lv ds svs l) (hn : RNe w MB SB XB b0) (hd : Blk W DB dvs) (hDB : fv.ownBlock ≠ some DB) (hSD : SB ≠ DB) (hrow : W.ownsRow b0 63 1 sv d.slices.length (Cz d.slices))
  (hg : W.grownBy w6 fv.ownBlock) (ho : w6.ownsRow b0 101 4 v6 (ds.length + 1) (B8 ds svs ++ [.string (str d.name), .int .i64 (d.long : Int), .int .u64 (d.hash : Int), sv])) :
  (w6.cell? ⟨SB, 1, none⟩ = some fv ∧ w6.frozen? ⟨SB, 1, none⟩ = false) ∧
  (RBlk w (w6.setCell ⟨SB, 1, none⟩ v6) MB SB XB b0 f v6 (List.replicate 20 []) ∧ (w6.setCell ⟨SB, 1, none⟩ v6).ownsRow b0 101 4 v6 (ds ++ [d]).length (B8 (ds ++ [d]) (svs ++ [sv])) ∧ DescRows (w6.setCell ⟨SB, 1, none⟩ v6) b0 (ds ++ [d]) (svs ++ [sv]) ∧
   (w6.setCell ⟨SB, 1, none⟩ v6).ownsRow b0 62 2 nm ds.length (As (Df ds)) ∧ (w6.setCell ⟨SB, 1, none⟩ v6).ownsRow (w.heap.size + 1) 148 3 lv l.length (A8 l) ∧ Blk (w6.setCell ⟨SB, 1, none⟩ v6) DB dvs) := by
 have hb6 : RBlk w w6 MB SB XB b0 f fv (List.replicate 20 []) := h.blk.touch hn (Touch.of_row hg) (fun x hx => (h.files.lt x (blkL_mem.1 hx)).1)
 have ht : Touch [SB] w6 (w6.setCell ⟨SB, 1, none⟩ v6) := (Touch.refl _ _).setCell (by simp) _
 have hL : ∀ x ∈ [SB], x < b0 := by intro x hx; simp at hx; subst hx; exact hn.s'
 refine ⟨hb6.s 1 _ rfl, hb6.files hn v6, ?_, ?_, Ac (h.names.kept hg (Bn h.names h.files (by decide))) ht hL, ?_, (O9 hd h.files hDB hg).touch ht (by simpa using hSD.symm)⟩
 ·rw [I9 _ _ h.rows.1, List.length_append]
  exact Ac ho ht hL
 ·exact ((h.rows.grown h.files hg (by decide)).snoc (hrow.kept hg (Bn hrow h.files (by decide)))).touch ht hL
 ·have h1 := h.found.kept hg (Bn h.found h.files (by decide))
  refine AQ h1 ht (fun k hk => ?_)
  simp only [List.mem_singleton]
  intro e
  subst e
  exact (h.apart k hk).1 rfl
theorem Qb {w W w8 : World} {MB SB XB b0 DB : Nat} {f : FoundL} {fv nm lv v8 : Value} {ds : List DescL} {svs : List Value} {l : List FoundL} {d : DescL} {dvs : List Value} (hb : RBlk w W MB SB XB b0 f fv (List.replicate 20 [])) (hn : RNe w MB SB XB b0) (hf : W.ownsRow b0 101 4 fv (ds ++ [d]).length (B8 (ds ++ [d]) svs)) (hr : DescRows W b0 (ds ++ [d]) svs)
  (hm : W.ownsRow b0 62 2 nm ds.length (As (Df ds))) (hl : W.ownsRow (w.heap.size + 1) 148 3 lv l.length (A8 l)) (ha : ∀ k, lv.ownBlock = some k → k ≠ SB ∧ k ≠ XB) (hd : Blk W DB dvs) (hDB : nm.ownBlock ≠ some DB)
  (hg : W.grownBy w8 nm.ownBlock) (ho : w8.ownsRow b0 62 2 v8 (ds.length + 1) (As (Df ds) ++ [.string (str d.name), .string ⟨#[]⟩])) : RAll w w8 MB SB XB b0 f fv v8 lv (ds ++ [d]) svs l ∧ Blk w8 DB dvs := by
 refine ⟨⟨hb.touch hn (Touch.of_row hg) (fun x hx => (hm.lt x (blkL_mem.1 hx)).1), hf.kept hg (Bn hf hm (by decide)), hr.grown hm hg (by decide), ?_, hl.kept hg (Bn hl hm (by decide)), ha⟩, O9 hd hm hDB hg⟩
 rw [M8, DH, List.length_append]
 exact ho
theorem Ro (w : World) (x y z u4 : Value) (t : TypeId) : ∀ j u, [x, y, z, u4][j]? = some u → (w.alloc (.cells #[x, y, z, u4] t)).cell? ((⟨w.heap.size, 0, none⟩ : Addr).add j) = some u := fun j u h => by
 have hadd : (⟨w.heap.size, 0, none⟩ : Addr).add j = ⟨w.heap.size, j, none⟩ := by unfold Addr.add; split <;> simp_all
 rw [hadd]
 exact (Blk.new w #[x, y, z, u4] t j u h).1
structure RTwo (w W : World) (MB SB XB b0 : Nat) (f : FoundL) (fv lv : Value) (ds : List DescL) (svs : List Value) (l : List FoundL) (exs : List (List UInt8)) : Prop where
 blk : RBlk w W MB SB XB b0 f fv exs
 files : W.ownsRow b0 101 4 fv ds.length (B8 ds svs)
 rows : DescRows W b0 ds svs
 found : W.ownsRow (w.heap.size + 1) 148 3 lv l.length (A8 l)
 apart : ∀ k, lv.ownBlock = some k → k ≠ SB ∧ k ≠ XB
theorem RTwo.touch {w W W' : World} {MB SB XB b0 : Nat} {f : FoundL} {fv lv : Value} {ds : List DescL} {svs : List Value} {l : List FoundL} {exs : List (List UInt8)} (h : RTwo w W MB SB XB b0 f fv lv ds svs l exs) (hn : RNe w MB SB XB b0) (ht : Touch [] W W') : RTwo w W' MB SB XB b0 f fv lv ds svs l exs :=
 ⟨h.blk.touch hn ht (by simp), Ac h.files ht (by simp), h.rows.touch ht (by simp), Ac h.found ht (by simp), h.apart⟩
theorem RTwo.put {w W : World} {MB SB XB b0 : Nat} {f : FoundL} {fv lv : Value} {ds : List DescL} {svs : List Value} {l : List FoundL} {exs : List (List UInt8)} (h : RTwo w W MB SB XB b0 f fv lv ds svs l exs) (hn : RNe w MB SB XB b0) (j : Nat) (t : List UInt8) : RTwo w (W.setCell ⟨XB, j, none⟩ (.string (str t))) MB SB XB b0 f fv lv ds svs l (exs.set j t) := by
 have ht : Touch [XB] W (W.setCell ⟨XB, j, none⟩ (.string (str t))) := (Touch.refl _ _).setCell (by simp) _
 have hL : ∀ x ∈ [XB], x < b0 := by intro x hx; simp at hx; subst hx; exact hn.x'
 refine ⟨h.blk.extra hn j t, Ac h.files ht hL, h.rows.touch ht hL, AQ h.found ht (fun k hk => ?_), h.apart⟩
 simp only [List.mem_singleton]
 exact (h.apart k hk).2
theorem QC {w W : World} {MB SB XB b0 : Nat} {f : FoundL} {fv : Value} {exs : List (List UInt8)} (h : RBlk w W MB SB XB b0 f fv exs) (j : Nat) (t : List UInt8) (hj : exs[j]? = some t) : W.cell? ⟨XB, j, none⟩ = some (.string (str t)) ∧ W.frozen? ⟨XB, j, none⟩ = false := by
 have h1 := h.ex.cells (g := XB) rfl j (.string (str t)) (by simp [AM, hj])
 have hadd : (⟨XB, 0, none⟩ : Addr).add j = ⟨XB, j, none⟩ := by unfold Addr.add; split <;> simp_all
 rw [hadd] at h1
 refine ⟨h1, ?_⟩
 rcases h.ex.2 with ⟨hv, _⟩ | ⟨g, cap, cur, hv, _, hg, _⟩
 ·cases hv
 ·cases hv
  simp [World.frozen?, hg]
theorem JN (n : Nat) : (madeCells #[Value.string ByteArray.empty] n).toList = AM (List.replicate n []) := by
 apply List.ext_getElem?
 intro i
 by_cases h : i < n
 ·simp [AM, madeCells, h, Nat.mod_one]
  rfl
 ·rw [List.getElem?_eq_none (by simp [madeCells]; omega), List.getElem?_eq_none (by simp [AM]; omega)]
theorem Nr {w : World} {base : Nat} {e : TypeId} (n : Nat) (cs : Array Value) (hb : base ≤ w.heap.size) (hn : n ≤ maxLen) (hc : cs.size = n) : (w.alloc (.cells cs e)).ownsRow base e 1 (.slice (some ⟨w.heap.size, 0, none⟩) n n) n cs.toList :=
 ⟨by simp [hc], .inr ⟨w.heap.size, n, cs, rfl, hb, heap_alloc_new w _, Nat.le_refl _, hn, by simp [hc], by simp; exact List.take_of_length_le (by simp [hc])⟩⟩
def Ld (w W : World) (MB SB XB : Nat) (f : FoundL) (v : Value) (l : List FoundL) : Prop := RBlk w W MB SB XB W.heap.size f (.slice none 0 0) (List.replicate 20 []) ∧ RNe w MB SB XB W.heap.size ∧ W.ownsRow (w.heap.size + 1) 148 3 v l.length (A8 l) ∧ (∀ k, v.ownBlock = some k → k ≠ SB ∧ k ≠ XB)
theorem OB {w w2 W : World} {f : FoundL} {v : Value} {l : List FoundL} (hkq : Blk w2 w.heap.size [.int .i64 0, .slice none 0 0, .slice none 0 0]) (hbw : Below w.heap.size w w2) (hsz : w.heap.size < w2.heap.size) (ho : w2.ownsRow (w.heap.size + 1) 148 3 v l.length (A8 l)) {M : World} (hM : M = w2.alloc (.cells #[.int .u8 (f.kind.toNat : Int), .int .u64 (f.set : Int), .string (str f.body)] 148))
  (h : (W = ((M.alloc (.cells (madeCells #[.string ByteArray.empty] 20) 9)).alloc (.cells #[.int .i64 (Aq f : Int), .slice none 0 0, .slice (some ⟨w2.heap.size + 1, 0, none⟩) 20 20] 40)).drew)) : Ld w W w2.heap.size (w2.heap.size + 1 + 1) (w2.heap.size + 1) f v l := by
 have hMs : M.heap.size = w2.heap.size + 1 := by rw [hM]; simp
 have t1 : Touch [] w2 M := by rw [hM]; exact (Touch.refl _ _).alloc _
 have t2 : Touch [] M W := by rw [h]; exact (((Touch.refl _ _).alloc _).alloc _).drew
 have hWs : W.heap.size = w2.heap.size + 3 := by rw [h]; simp [hMs]
 obtain ⟨X, hX⟩ : ∃ X, X = M.alloc (.cells (madeCells #[.string ByteArray.empty] 20) 9) := ⟨_, rfl⟩
 have t3 : Touch [] X W := by rw [h, hX]; exact ((Touch.refl _ _).alloc _).drew
 have hXs : X.heap.size = w2.heap.size + 1 + 1 := by rw [hX]; simp [hMs]
 have hrow : X.ownsRow (w.heap.size + 1) 9 1 (.slice (some ⟨w2.heap.size + 1, 0, none⟩) 20 20) 20 (AM (List.replicate 20 [])) := by
  rw [← JN, hX, ← hMs]
  exact Nr 20 _ (by omega) (by unfold maxLen; omega) (by simp [madeCells])
 refine ⟨⟨(hkq.touch t1 (by simp)).touch t2 (by simp), ?_, ?_, Ac hrow t3 (by simp), hbw.trans ((t1.trans t2).below (Nat.le_of_lt hsz) (by simp)), Nat.le_refl _⟩, ⟨hsz, by omega, by omega, by omega, by omega, by omega, by omega, by omega, by omega⟩, Ac ho (t1.trans t2) (by simp), fun k hk => by have := (ho.lt k hk).2; omega⟩
 ·refine Blk.touch (w := M) ?_ t2 (by simp)
  rw [hM]
  exact Blk.new w2 _ _
 ·rw [h, ← hX, ← hXs]
  exact (Blk.new X _ _).drew
theorem Mz {w w2 W : World} {f : FoundL} {v : Value} {l : List FoundL} (hkq : Blk w2 w.heap.size [.int .i64 0, .slice none 0 0, .slice none 0 0]) (hbw : Below w.heap.size w w2) (hsz : w.heap.size < w2.heap.size) (ho : w2.ownsRow (w.heap.size + 1) 148 3 v l.length (A8 l)) {M : World} (hM : M = w2.alloc (.cells #[.int .u8 (f.kind.toNat : Int), .int .u64 (f.set : Int), .string (str f.body)] 148))
  (h : (W = ((M.alloc (.cells #[.int .i64 (Aq f : Int), .slice none 0 0, .slice (some ⟨w2.heap.size + 1 + 1, 0, none⟩) 20 20] 40)).alloc (.cells (madeCells #[.string ByteArray.empty] 20) 9)).drew)) : Ld w W w2.heap.size (w2.heap.size + 1) (w2.heap.size + 1 + 1) f v l := by
 have hMs : M.heap.size = w2.heap.size + 1 := by rw [hM]; simp
 have t1 : Touch [] w2 M := by rw [hM]; exact (Touch.refl _ _).alloc _
 have t2 : Touch [] M W := by rw [h]; exact (((Touch.refl _ _).alloc _).alloc _).drew
 have hWs : W.heap.size = w2.heap.size + 3 := by rw [h]; simp [hMs]
 obtain ⟨X, hX⟩ : ∃ X, X = M.alloc (.cells #[.int .i64 (Aq f : Int), .slice none 0 0, .slice (some ⟨w2.heap.size + 1 + 1, 0, none⟩) 20 20] 40) := ⟨_, rfl⟩
 have t3 : Touch [] X W := by rw [h, hX]; exact ((Touch.refl _ _).alloc _).drew
 have hXs : X.heap.size = w2.heap.size + 1 + 1 := by rw [hX]; simp [hMs]
 have hrow : W.ownsRow (w.heap.size + 1) 9 1 (.slice (some ⟨w2.heap.size + 1 + 1, 0, none⟩) 20 20) 20 (AM (List.replicate 20 [])) := by
  rw [← JN, h, ← hX, ← hXs]
  exact Ac (Nr 20 _ (by omega) (by unfold maxLen; omega) (by simp [madeCells])) (Touch.refl [] _).drew (by simp)
 refine ⟨⟨(hkq.touch t1 (by simp)).touch t2 (by simp), ?_, ?_, hrow, hbw.trans ((t1.trans t2).below (Nat.le_of_lt hsz) (by simp)), Nat.le_refl _⟩, ⟨hsz, by omega, by omega, by omega, by omega, by omega, by omega, by omega, by omega⟩, Ac ho (t1.trans t2) (by simp), fun k hk => by have := (ho.lt k hk).2; omega⟩
 ·refine Blk.touch (w := M) ?_ t2 (by simp)
  rw [hM]
  exact Blk.new w2 _ _
 ·refine Blk.touch (w := X) ?_ t3 (by simp)
  rw [hX, ← hMs]
  exact Blk.new M _ _
def Kj (l : List Nat) : List Value := l.map fun n : Nat => Value.int .i64 (n : Int)
def FL (l : List Bool) : List Value := l.map Value.bool
def Res8 (w W : World) : Prop := Blk W w.heap.size [.int .i64 0, .slice none 0 0, .slice none 0 0, .slice none 0 0, .slice none 0 0, .slice none 0 0, .int .i64 0, .int .i64 0] ∧ Below w.heap.size w W
theorem Res8.start (w : World) : Res8 w (w.alloc (.cells #[.int .i64 0, .slice none 0 0, .slice none 0 0, .slice none 0 0, .slice none 0 0, .slice none 0 0, .int .i64 0, .int .i64 0] 42)) := ⟨Blk.new w _ _, (Below.refl _ _).alloc (Nat.le_refl _) _⟩
theorem Res8.later {w W W' : World} (h : Res8 w W) (hb : Below W.heap.size W W') : Res8 w W' := ⟨h.1.touch (Touch.of_below hb []) (by simp), Below.next h.2 hb⟩
theorem Res8.touch {w W W' : World} (h : Res8 w W) {L : List Nat} (ht : Touch L W W') (hL : ∀ x ∈ L, w.heap.size < x) : Res8 w W' := ⟨h.1.touch ht (fun hm => by have := hL _ hm; omega), h.2.trans (ht.below h.2.size (fun x hx => Nat.le_of_lt (hL x hx)))⟩
theorem Tryz.infoBo : (Tryz.prog.info? 4).map (fun i => (i.zero, i.size, i.bytes)) = some (some (.bool false), 1, 1) := by kernel_rfl
theorem Tryz.infoIn : (Tryz.prog.info? 3).map (fun i => (i.zero, i.size, i.bytes)) = some (some (.int .i64 0), 1, 8) := by kernel_rfl
theorem Fb (w : World) (x : Value) (t : TypeId) : ∀ j u, [x][j]? = some u → (w.alloc (.cells #[x] t)).cell? ((⟨w.heap.size, 0, none⟩ : Addr).add j) = some u := fun j u h => by
 have hadd : (⟨w.heap.size, 0, none⟩ : Addr).add j = ⟨w.heap.size, j, none⟩ := by unfold Addr.add; split <;> simp_all
 rw [hadd]
 exact (Blk.new w #[x] t j u h).1
theorem El {x : Value} (h : x.oneCell' = true) : ∀ u ∈ [x], u.oneCell' = true := fun u hu => by
 simp at hu
 subst hu
 exact h
theorem Ee (ds : List DescL) (d : DescL) : AF (ds ++ [d]) = AF ds ++ d.slices := by simp [AF]
structure OldSet (W : World) (rb SB : Nat) (s : SetL) (fv xv : Value) (svs : List Value) : Prop where
 files : W.ownsRow rb 101 4 fv s.files.length (B8 s.files svs)
 rows : DescRows W rb s.files svs
 ex : W.ownsRow rb 9 1 xv s.extra.length (AM s.extra)
 lf : ∀ k, fv.ownBlock = some k → k < SB
 lx : ∀ k, xv.ownBlock = some k → k < SB
 lr : ∀ v ∈ svs, ∀ k, v.ownBlock = some k → k < SB
theorem OldSet.start {W : World} {rb : Nat} {s : SetL} {fv xv : Value} {svs : List Value} (hf : W.ownsRow rb 101 4 fv s.files.length (B8 s.files svs)) (hr : DescRows W rb s.files svs) (hx : W.ownsRow rb 9 1 xv s.extra.length (AM s.extra)) : OldSet W rb W.heap.size s fv xv svs :=
 ⟨hf, hr, hx, fun k hk => (hf.lt k hk).2, fun k hk => (hx.lt k hk).2, fun v hv k hk => by
  obtain ⟨j, hj, rfl⟩ := List.mem_iff_getElem.1 hv
  have hj2 : j < s.files.length := by rw [← hr.1]; exact hj
  exact ((hr.2 j s.files[j] svs[j] (List.getElem?_eq_getElem hj2) (List.getElem?_eq_getElem hj)).lt k hk).2⟩
theorem OldSet.touch {W W' : World} {rb SB : Nat} {s : SetL} {fv xv : Value} {svs : List Value} (h : OldSet W rb SB s fv xv svs) {L : List Nat} (ht : Touch L W W') (hL : ∀ x ∈ L, SB ≤ x) : OldSet W' rb SB s fv xv svs := by
 refine ⟨AQ h.files ht (fun k hk hm => ?_), ⟨h.rows.1, fun k d v h1 h2 => AQ (h.rows.2 k d v h1 h2) ht (fun j hj hm => ?_)⟩, AQ h.ex ht (fun k hk hm => ?_), h.lf, h.lx, h.lr⟩
 ·have := h.lf k hk; have := hL k hm; omega
 ·have := h.lr v (List.mem_of_getElem? h2) j hj; have := hL j hm; omega
 ·have := h.lx k hk; have := hL k hm; omega
structure LBase (w W : World) (rb SB LB b1 : Nat) (s : SetL) (fv xv : Value) (svs : List Value) (lc : List Value) : Prop where
 res : Res8 w W
 sb : Blk W SB [.int .i64 (s.size : Int), fv, xv]
 lb : Blk W LB lc
 old : OldSet W rb SB s fv xv svs
 size : b1 ≤ W.heap.size
structure LNe (w : World) (SB LB b1 : Nat) : Prop where
 h1 : w.heap.size < SB
 h2 : SB < LB
 h3 : LB < b1
theorem LBase.touch {w W W' : World} {rb SB LB b1 : Nat} {s : SetL} {fv xv : Value} {svs lc : List Value} (h : LBase w W rb SB LB b1 s fv xv svs lc) (hn : LNe w SB LB b1) {L : List Nat} (ht : Touch L W W') (hL : ∀ x ∈ L, b1 ≤ x) : LBase w W' rb SB LB b1 s fv xv svs lc := by
 have h1 := hn.h1
 have h2 := hn.h2
 have h3 := hn.h3
 exact ⟨h.res.touch ht (fun x hx => by have := hL x hx; omega), h.sb.touch ht (fun hm => by have := hL _ hm; omega), h.lb.touch ht (fun hm => by have := hL _ hm; omega), h.old.touch ht (fun x hx => by have := hL x hx; omega), Nat.le_trans h.size ht.size⟩
theorem LBase.set {w W : World} {rb SB LB b1 : Nat} {s : SetL} {fv xv : Value} {svs lc : List Value} (h : LBase w W rb SB LB b1 s fv xv svs lc) (hn : LNe w SB LB b1) (j : Nat) (v : Value) : LBase w (W.setCell ⟨LB, j, none⟩ v) rb SB LB b1 s fv xv svs (lc.set j v) := by
 have h1 := hn.h1
 have h2 := hn.h2
 have ht : Touch [LB] W (W.setCell ⟨LB, j, none⟩ v) := (Touch.refl _ _).setCell (by simp) _
 exact ⟨h.res.touch ht (by simp; omega), h.sb.touch ht (by simp; omega), h.lb.set j v, h.old.touch ht (by simp; omega), by simpa using h.size⟩
structure LNew (W : World) (b1 : Nat) (slv stv prv : Value) (ps : List (List UInt8)) (sts : List Nat) (fl : List Bool) : Prop where
 sl : W.ownsRow b1 9 1 slv ps.length (AM ps)
 st : W.ownsRow b1 3 1 stv sts.length (Kj sts)
 pr : W.ownsRow b1 4 1 prv fl.length (FL fl)
theorem LNew.touch {W W' : World} {b1 : Nat} {slv stv prv : Value} {ps : List (List UInt8)} {sts : List Nat} {fl : List Bool} (h : LNew W b1 slv stv prv ps sts fl) {L : List Nat} (ht : Touch L W W') (hL : ∀ x ∈ L, x < b1) : LNew W' b1 slv stv prv ps sts fl := ⟨Ac h.sl ht hL, Ac h.st ht hL, Ac h.pr ht hL⟩
theorem RM {w W w6 : World} {rb SB LB b1 : Nat} {s : SetL} {fv xv slv stv prv lo ex v6 : Value} {svs : List Value} {ps : List (List UInt8)} {sts : List Nat} {fl : List Bool} {x : Nat} (h : LBase w W rb SB LB b1 s fv xv svs [.int .i64 (s.size : Int), fv, xv, slv, stv, prv, lo, ex]) (hn : LNe w SB LB b1) (hw : LNew W b1 slv stv prv ps sts fl)
  (hg : W.grownBy w6 stv.ownBlock) (ho : w6.ownsRow b1 3 1 v6 (sts.length + 1) (Kj sts ++ [.int .i64 (x : Int)])) :
  (w6.cell? ⟨LB, 4, none⟩ = some stv ∧ w6.frozen? ⟨LB, 4, none⟩ = false) ∧ LBase w (w6.setCell ⟨LB, 4, none⟩ v6) rb SB LB b1 s fv xv svs [.int .i64 (s.size : Int), fv, xv, slv, v6, prv, lo, ex] ∧ LNew (w6.setCell ⟨LB, 4, none⟩ v6) b1 slv v6 prv ps (sts ++ [x]) fl := by
 have h6 : LBase w w6 rb SB LB b1 s fv xv svs _ := h.touch hn (Touch.of_row hg) (fun k hk => (hw.st.lt k (blkL_mem.1 hk)).1)
 have h3 := hn.h3
 have ht : Touch [LB] w6 (w6.setCell ⟨LB, 4, none⟩ v6) := (Touch.refl _ _).setCell (by simp) _
 refine ⟨h6.lb 4 _ rfl, h6.set hn 4 v6, LNew.touch (W := w6) ⟨hw.sl.kept hg (Bn hw.sl hw.st (by decide)), ?_, hw.pr.kept hg (Bn hw.pr hw.st (by decide))⟩ ht (by simpa using h3)⟩
 rw [List.length_append]
 unfold Kj at ho ⊢
 rw [List.map_append]
 exact ho
theorem Qj {w W w6 : World} {rb SB LB b1 : Nat} {s : SetL} {fv xv slv stv prv lo ex v6 : Value} {svs : List Value} {ps : List (List UInt8)} {sts : List Nat} {fl : List Bool} {x : List UInt8} (h : LBase w W rb SB LB b1 s fv xv svs [.int .i64 (s.size : Int), fv, xv, slv, stv, prv, lo, ex]) (hn : LNe w SB LB b1) (hw : LNew W b1 slv stv prv ps sts fl)
  (hg : W.grownBy w6 slv.ownBlock) (ho : w6.ownsRow b1 9 1 v6 (ps.length + 1) (AM ps ++ [.string (str x)])) :
  (w6.cell? ⟨LB, 3, none⟩ = some slv ∧ w6.frozen? ⟨LB, 3, none⟩ = false) ∧ LBase w (w6.setCell ⟨LB, 3, none⟩ v6) rb SB LB b1 s fv xv svs [.int .i64 (s.size : Int), fv, xv, v6, stv, prv, lo, ex] ∧ LNew (w6.setCell ⟨LB, 3, none⟩ v6) b1 v6 stv prv (ps ++ [x]) sts fl := by
 have h6 : LBase w w6 rb SB LB b1 s fv xv svs _ := h.touch hn (Touch.of_row hg) (fun k hk => (hw.sl.lt k (blkL_mem.1 hk)).1)
 have h3 := hn.h3
 have ht : Touch [LB] w6 (w6.setCell ⟨LB, 3, none⟩ v6) := (Touch.refl _ _).setCell (by simp) _
 refine ⟨h6.lb 3 _ rfl, h6.set hn 3 v6, LNew.touch (W := w6) ⟨?_, hw.st.kept hg (Bn hw.st hw.sl (by decide)), hw.pr.kept hg (Bn hw.pr hw.sl (by decide))⟩ ht (by simpa using h3)⟩
 rw [List.length_append]
 unfold AM at ho ⊢
 rw [List.map_append]
 exact ho
theorem PJ {w W w6 : World} {rb SB LB b1 : Nat} {s : SetL} {fv xv slv stv prv lo ex v6 : Value} {svs : List Value} {ps : List (List UInt8)} {sts : List Nat} {fl : List Bool} {x : Bool} (h : LBase w W rb SB LB b1 s fv xv svs [.int .i64 (s.size : Int), fv, xv, slv, stv, prv, lo, ex]) (hn : LNe w SB LB b1) (hw : LNew W b1 slv stv prv ps sts fl)
  (hg : W.grownBy w6 prv.ownBlock) (ho : w6.ownsRow b1 4 1 v6 (fl.length + 1) (FL fl ++ [.bool x])) :
  (w6.cell? ⟨LB, 5, none⟩ = some prv ∧ w6.frozen? ⟨LB, 5, none⟩ = false) ∧ LBase w (w6.setCell ⟨LB, 5, none⟩ v6) rb SB LB b1 s fv xv svs [.int .i64 (s.size : Int), fv, xv, slv, stv, v6, lo, ex] ∧ LNew (w6.setCell ⟨LB, 5, none⟩ v6) b1 slv stv v6 ps sts (fl ++ [x]) := by
 have h6 : LBase w w6 rb SB LB b1 s fv xv svs _ := h.touch hn (Touch.of_row hg) (fun k hk => (hw.pr.lt k (blkL_mem.1 hk)).1)
 have h3 := hn.h3
 have ht : Touch [LB] w6 (w6.setCell ⟨LB, 5, none⟩ v6) := (Touch.refl _ _).setCell (by simp) _
 refine ⟨h6.lb 5 _ rfl, h6.set hn 5 v6, LNew.touch (W := w6) ⟨hw.sl.kept hg (Bn hw.sl hw.pr (by decide)), hw.st.kept hg (Bn hw.st hw.pr (by decide)), ?_⟩ ht (by simpa using h3)⟩
 rw [List.length_append]
 unfold FL at ho ⊢
 rw [List.map_append]
 exact ho
theorem LNew.set {W : World} {b1 LB : Nat} {slv stv prv : Value} {ps : List (List UInt8)} {sts : List Nat} {fl : List Bool} (h : LNew W b1 slv stv prv ps sts fl) (hl : LB < b1) (j : Nat) (v : Value) : LNew (W.setCell ⟨LB, j, none⟩ v) b1 slv stv prv ps sts fl :=
 h.touch (L := [LB]) ((Touch.refl _ _).setCell (by simp) _) (by simpa using hl)
theorem OldSet.file {W : World} {rb SB : Nat} {s : SetL} {fa : Option Addr} {n fc : Nat} {xv : Value} {svs : List Value} (h : OldSet W rb SB s (.slice fa n fc) xv svs) (i : Nat) (hi : i < s.files.length) :
  ∃ bb off sa sc, fa = some ⟨bb, off, none⟩ ∧ W.cell? ⟨bb, off + i * 4, none⟩ = some (.string (str s.files[i].name)) ∧ W.cell? ⟨bb, off + i * 4 + 1, none⟩ = some (.int .i64 (s.files[i].long : Int)) ∧ W.cell? ⟨bb, off + i * 4 + 2, none⟩ = some (.int .u64 (s.files[i].hash : Int)) ∧
   W.cell? ⟨bb, off + i * 4 + 3, none⟩ = some (.slice sa s.files[i].slices.length sc) ∧ Rd W sa (Cz s.files[i].slices) := by
 have hsl : i < svs.length := by rw [h.rows.1]; exact hi
 have hrow := h.rows.2 i s.files[i] svs[i] (List.getElem?_eq_getElem hi) (List.getElem?_eq_getElem hsl)
 obtain ⟨sa, sc, hsv, hrd⟩ := AE hrow
 obtain ⟨a', c', he, hr⟩ := AE h.files
 cases he
 have hz : i < (s.files.zip svs).length := by rw [List.length_zip]; omega
 have hzi : (s.files.zip svs)[i] = (s.files[i], svs[i]) := by simp
 have key : ∀ j, j < 4 → (B8 s.files svs)[i * 4 + j]? = [Value.string (str s.files[i].name), .int .i64 (s.files[i].long : Int), .int .u64 (s.files[i].hash : Int), svs[i]][j]? := fun j hj => by
  have := Kx (fun p : DescL × Value => [Value.string (str p.1.name), .int .i64 (p.1.long : Int), .int .u64 (p.1.hash : Int), p.2]) 4 (s.files.zip svs) (fun _ _ => rfl) i j hz hj
  rw [hzi] at this
  exact this
 obtain ⟨b0, o0, e0, k0⟩ := hr _ _ (key 0 (by omega))
 obtain ⟨b1, o1, e1, k1⟩ := hr _ _ (key 1 (by omega))
 obtain ⟨b2, o2, e2, k2⟩ := hr _ _ (key 2 (by omega))
 obtain ⟨b3, o3, e3, k3⟩ := hr _ _ (key 3 (by omega))
 subst e0
 cases e1
 cases e2
 cases e3
 rw [hsv] at k3
 exact ⟨b0, o0, sa, sc, rfl, k0, by rw [Nat.add_assoc]; exact k1, by rw [Nat.add_assoc]; exact k2, by rw [Nat.add_assoc]; exact k3, hrd⟩
end Go.Proofs.YtonjphollmdicaaGreatDoor
