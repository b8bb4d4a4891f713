import Derived.Test.YtonjphollmdicaaGreatDoorB13
set_option maxRecDepth 100000
set_option maxHeartbeats 4000000
set_option linter.unusedSimpArgs false
namespace Go.Proofs.YtonjphollmdicaaGreatDoor
open Go.ChangeShapes Go.WideShapes Go.ChangeAt Go.RowKit Math
theorem RR {W : World} {ad : Addr} {xs : List Value} (h : Rd W (some ad) xs) (o : Obj) : ∀ j u, xs[j]? = some u → (W.alloc o).cell? (ad.add j) = some u := by
 intro j u hj
 obtain ⟨b, off, e, hc⟩ := h j u hj
 cases e
 rw [show (⟨b, off, none⟩ : Addr).add j = ⟨b, off + j, none⟩ from by simp [Addr.add], An (World.block_lt_of_cell? W _ hc)]
 exact hc
theorem QF (l : List Nat) : ∀ u ∈ A9 l, u.oneCell' = true := by
 intro u hu
 simp only [A9, List.mem_map] at hu
 obtain ⟨x, _, rfl⟩ := hu
 rfl
theorem G8 (W : World) (p q : Addr) (v : Value) {x y : Value} (hp : W.cell? p = some x) (hq : W.cell? q = some y) : ∃ val, (W.setCell p v).cell? q = some val := by
 by_cases e : p = q
 ·subst e
  exact ⟨v, World.cell?_setCell_same _ _ _ hp⟩
 ·exact ⟨y, by rw [World.cell?_setCell_other _ _ _ _ e]; exact hq⟩
theorem Grid.rd {W : World} {B : Nat} {v : Value} {n wd : Nat} {M : List (List Nat)} {g cp : Nat → Nat} (h : Grid W B v n wd M g cp) (i : Nat) (hi : i < n) : Rd W (some ⟨g i, 0, none⟩) (A9 (M.getD i [])) := by
 obtain ⟨a', c', hv', _, _, hrd⟩ := Aw (h.row i hi)
 cases hv'
 exact hrd
theorem Grid.heads_kept {W W' : World} {B : Nat} {n wd hd cap : Nat} {M : List (List Nat)} {g cp : Nat → Nat} (h : Grid W B (.slice (some ⟨hd, 0, none⟩) n cap) n wd M g cp) (i j k : Nat) (hi : i < n) (hj : j < n) (hk : k < n) (hg : W.grownBy W' (some (g i))) :
  W'.cell? ⟨hd, j, none⟩ = some (.slice (some ⟨g j, 0, none⟩) wd (cp j)) ∧ W'.cell? ⟨hd, k, none⟩ = some (.slice (some ⟨g k, 0, none⟩) wd (cp k)) := by
 have hne := Bn h.own (h.row i hi) (by decide)
 have hne' : hd ≠ g i := by
  rcases hne with e | e
  ·simp [Value.ownBlock] at e
  ·intro e'; exact e (by simp [Value.ownBlock, e'])
 exact ⟨hg.cell (h.head j hj).1 (by intro e; exact hne' (by simpa using e)), hg.cell (h.head k hk).1 (by intro e; exact hne' (by simpa using e))⟩
structure Elim (B : Nat) (w W : World) (ha capa hy capy K wd : Nat) (A0 Y0 A Y : List (List Nat)) (gA cA gY cY : Nat → Nat) (c : Nat) : Prop where
 ga : Grid W B (.slice (some ⟨ha, 0, none⟩) K capa) K K A gA cA
 gy : Grid W B (.slice (some ⟨hy, 0, none⟩) K capy) K wd Y gY cY
 ap : Apart K gA K gY
 snd : Sound A0 Y0 A Y K wd
 unit : Un9 A K c
 below : Below B w W
theorem Elim.drew {B : Nat} {w W : World} {ha capa hy capy K wd : Nat} {A0 Y0 A Y : List (List Nat)} {gA cA gY cY : Nat → Nat} {c : Nat} (h : Elim B w W ha capa hy capy K wd A0 Y0 A Y gA cA gY cY c) : Elim B w W.drew ha capa hy capy K wd A0 Y0 A Y gA cA gY cY c :=
 ⟨h.ga.drew, h.gy.drew, h.ap, h.snd, h.unit, h.below.drew⟩
theorem Elim.next {B : Nat} {w W : World} {ha capa hy capy K wd : Nat} {A0 Y0 A Y : List (List Nat)} {gA cA gY cY : Nat → Nat} {c : Nat} (h : Elim B w W ha capa hy capy K wd A0 Y0 A Y gA cA gY cY c) (hc : Col A c K) : Elim B w W ha capa hy capy K wd A0 Y0 A Y gA cA gY cY (c + 1) :=
 ⟨h.ga, h.gy, h.ap, h.snd, Qk h.unit hc, h.below⟩
theorem ON {w w' : World} {r : Option Nat} (h : w.grownBy w' r) : w.grownBy w'.drew r := ⟨h.os, h.tape, h.output, h.size, h.block⟩
theorem Elim.start {B : Nat} {w W : World} {ha capa hy capy K wd : Nat} {A Y : List (List Nat)} {gA cA gY cY : Nat → Nat} (h1 : Grid W B (.slice (some ⟨ha, 0, none⟩) K capa) K K A gA cA) (h2 : Grid W B (.slice (some ⟨hy, 0, none⟩) K capy) K wd Y gY cY) (h3 : Apart K gA K gY) (hb : Below B w W) :
  Elim B w W ha capa hy capy K wd A Y A Y gA cA gY cY 0 :=
 ⟨h1, h2, h3, Sound.refl _ _ _ _, fun _ hj => absurd hj (Nat.not_lt_zero _), hb⟩
theorem Elim.pivot {B : Nat} {w W : World} {ha capa hy capy K wd : Nat} {ts : List Nat} {Y0 A Y : List (List Nat)} {gA cA gY cY : Nat → Nat} {c : Nat} (h : Elim B w W ha capa hy capy K wd (Fu ts K K) Y0 A Y gA cA gY cY c)
  (htx : ∀ x ∈ ts, x < 65536) (hnd : ts.Nodup) (hts : ts.length = K) (hc : c < K) (hwd : 0 < wd) (hz : ∀ i, c ≤ i → i < K → (A.getD i []).getD c 0 = 0) : False :=
 MI (IR ts K htx) (fun a b ha hb => NP ts hnd htx a b (by omega) (by omega)) hwd h.snd h.unit hc (fun p h1 h2 => (Py h.ga.full).2 (hz p h1 h2))
theorem Elim.swapA {B : Nat} {w W : World} {ha capa hy capy K wd : Nat} {A0 Y0 A Y : List (List Nat)} {gA cA gY cY : Nat → Nat} {c : Nat} (h : Elim B w W ha capa hy capy K wd A0 Y0 A Y gA cA gY cY c) (q : Nat) (hq : q < K) (hc : c < K) (X : World)
  (hX : X = ((W.setCell ⟨ha, q, none⟩ (.slice (some ⟨gA c, 0, none⟩) K (cA c))).setCell ⟨ha, c, none⟩ (.slice (some ⟨gA q, 0, none⟩) K (cA q))).drew) :
  Grid X B (.slice (some ⟨ha, 0, none⟩) K capa) K K (FK A q c) (fun i => gA (sw q c i)) (fun i => cA (sw q c i)) ∧ Grid X B (.slice (some ⟨hy, 0, none⟩) K capy) K wd Y gY cY ∧ Apart K (fun i => gA (sw q c i)) K gY ∧ Below B w X := by
 subst hX
 obtain ⟨h1, h2⟩ := h.ga.swap q c hq hc
 obtain ⟨hd, cap, e, hb, _⟩ := h.ga.form (by omega)
 cases e
 have hsz : B ≤ W.heap.size := by have := (h.ga.lt q hq); omega
 exact ⟨h1.drew, (h.gy.keptHead h.ga h.ap h2).drew, fun i j hi hj => h.ap _ _ (LS hq hc hi) hj, (h.below.grown h2 hsz (by intro k hk; cases hk; exact hb)).drew⟩
theorem Elim.swapY {B : Nat} {w W X : World} {ha capa hy capy K wd : Nat} {A0 Y0 A Y : List (List Nat)} {gA cA gY cY : Nat → Nat} {c q : Nat} (h : Elim B w W ha capa hy capy K wd A0 Y0 A Y gA cA gY cY c) (hq : q < K) (hc : c < K) (hcq : c ≤ q)
  (h' : Grid X B (.slice (some ⟨ha, 0, none⟩) K capa) K K (FK A q c) (fun i => gA (sw q c i)) (fun i => cA (sw q c i)) ∧ Grid X B (.slice (some ⟨hy, 0, none⟩) K capy) K wd Y gY cY ∧ Apart K (fun i => gA (sw q c i)) K gY ∧ Below B w X) (X2 : World)
  (hX : X2 = ((X.setCell ⟨hy, q, none⟩ (.slice (some ⟨gY c, 0, none⟩) wd (cY c))).setCell ⟨hy, c, none⟩ (.slice (some ⟨gY q, 0, none⟩) wd (cY q))).drew) :
  Elim B w X2 ha capa hy capy K wd A0 Y0 (FK A q c) (FK Y q c) (fun i => gA (sw q c i)) (fun i => cA (sw q c i)) (fun i => gY (sw q c i)) (fun i => cY (sw q c i)) c := by
 subst hX
 obtain ⟨h1, h2, h3, h4⟩ := h'
 obtain ⟨k1, k2⟩ := h2.swap q c hq hc
 obtain ⟨hd, cap, e, hb, _⟩ := h2.form (by omega)
 cases e
 have hsz : B ≤ X.heap.size := by have := (h1.lt q hq); omega
 exact ⟨(h1.keptHead h2 (fun i j hi hj e => h3 j i hj hi e.symm) k2).drew, k1.drew, fun i j hi hj => h.ap _ _ (LS hq hc hi) (LS hq hc hj), h.snd.step (Ot h.ga.full h.gy.full q c hq hc), PK h.ga.full h.unit hq hcq hc, (h4.grown k2 hsz (by intro k hk; cases hk; exact hb)).drew⟩
theorem Elim.scaled {B : Nat} {w X X3 X4 : World} {ha capa hy capy K wd : Nat} {A0 Y0 A Y : List (List Nat)} {gA cA gY cY : Nat → Nat} {c b : Nat} (h : Elim B w X ha capa hy capy K wd A0 Y0 A Y gA cA gY cY c) (hc : c < K) (hb : b < 65536) (hb1 : en A c c * F.ofNat b = F.one)
  (r1 : Row X3 B (gA c) (cA c) (BE (A.getD c []) b)) (g1 : X.grownBy X3 (some (gA c))) (r2 : Row X4 B (gY c) (cY c) (BE (Y.getD c []) b)) (g2 : X3.grownBy X4 (some (gY c))) :
  Elim B w X4 ha capa hy capy K wd A0 Y0 (A.set c (BE (A.getD c []) b)) (Y.set c (BE (Y.getD c []) b)) gA cA gY cY c ∧ Col (A.set c (BE (A.getD c []) b)) c 0 := by
 have hb0 : b ≠ 0 := by
  intro e
  subst e
  have e2 : F.ofNat 0 = F.zero := rfl
  rw [e2, F.mul_zero] at hb1
  exact absurd (congrArg Subtype.val hb1) (show ¬ (0 : Nat) = 1 from by decide)
 have hA3 := h.ga.changed c hc r1 (by rw [BR]; exact h.ga.full.wide c hc) (FG (h.ga.full.low c)) g1
 have hY3 := h.gy.kept (h.ga.row c hc) g1 (fun i hi e => h.ap c i hc hi e.symm)
 have hA4 := hA3.kept (hY3.row c hc) g2 (fun i hi => h.ap i c hi hc)
 have hY4 := hY3.changed c hc r2 (by rw [BR]; exact h.gy.full.wide c hc) (FG (h.gy.full.low c)) g2
 have hsz : B ≤ X.heap.size := by have := (h.ga.lt c hc); omega
 have hsz3 : B ≤ X3.heap.size := by have := g1.size; omega
 have b3 := h.below.grown g1 hsz (by intro k hk; cases hk; exact (h.ga.lt c hc).2)
 have b4 := b3.grown g2 hsz3 (by intro k hk; cases hk; exact (h.gy.lt c hc).2)
 exact ⟨⟨hA4, hY4, h.ap, h.snd.step (L6 h.ga.full h.gy.full c b hc hb hb0), Oj h.ga.full h.unit hc hb, b4⟩, PB h.ga.full hc hb hb1⟩
theorem Elim.added {B : Nat} {w X X3 X4 : World} {ha capa hy capy K wd : Nat} {A0 Y0 A Y : List (List Nat)} {gA cA gY cY : Nat → Nat} {c i f : Nat} (h : Elim B w X ha capa hy capy K wd A0 Y0 A Y gA cA gY cY c) (hcol : Col A c i) (hc : c < K) (hi : i < K) (hne : i ≠ c) (hf : f = (A.getD i []).getD c 0)
  (r1 : Row X3 B (gA i) (cA i) (D8 (A.getD i []) (A.getD c []) f)) (g1 : X.grownBy X3 (some (gA i))) (r2 : Row X4 B (gY i) (cY i) (D8 (Y.getD i []) (Y.getD c []) f)) (g2 : X3.grownBy X4 (some (gY i))) :
  Elim B w X4 ha capa hy capy K wd A0 Y0 (A.set i (D8 (A.getD i []) (A.getD c []) f)) (Y.set i (D8 (Y.getD i []) (Y.getD c []) f)) gA cA gY cY c ∧ Col (A.set i (D8 (A.getD i []) (A.getD c []) f)) c (i + 1) := by
 have hfl : f < 65536 := by rw [hf]; exact AP (h.ga.full.low i) c
 have hA3 := h.ga.changed i hi r1 (by rw [Em]; exact h.ga.full.wide i hi) (Kw (h.ga.full.low i) (h.ga.full.low c)) g1
 have hY3 := h.gy.kept (h.ga.row i hi) g1 (fun j hj e => h.ap i j hi hj e.symm)
 have hA4 := hA3.kept (hY3.row i hi) g2 (fun j hj => h.ap j i hj hi)
 have hY4 := hY3.changed i hi r2 (by rw [Em]; exact h.gy.full.wide i hi) (Kw (h.gy.full.low i) (h.gy.full.low c)) g2
 have hsz : B ≤ X.heap.size := by have := (h.ga.lt c hc); omega
 have hsz3 : B ≤ X3.heap.size := by have := g1.size; omega
 have b3 := h.below.grown g1 hsz (by intro k hk; cases hk; exact (h.ga.lt i hi).2)
 have b4 := b3.grown g2 hsz3 (by intro k hk; cases hk; exact (h.gy.lt i hi).2)
 exact ⟨⟨hA4, hY4, h.ap, h.snd.step (Po h.ga.full h.gy.full i c f hi hc hne hfl), RC h.ga.full h.unit hc hi hfl, b4⟩, R7 h.ga.full hcol hc hi hne hf⟩
theorem Hi (ts : List Nat) (rows : List (List Nat)) (K wd : Nat) (a1 a2 : Option Addr) (c1 c2 : Nat) (hts : ts.length = K) (hrs : rows.length = K) (hK0 : 0 < K) (hK : K ≤ 100) (hw : ∀ r ∈ rows, r.length = wd ∧ ∀ x ∈ r, x < 65536) (hwd0 : 0 < wd) (hwd : wd ≤ 100)
  (htx : ∀ x ∈ ts, x < 65536) (hnd : ts.Nodup) (w : World) (hrt : Rd w a1 (NB ts)) (hrr : RdRows w a2 rows) :
  Calls Tryz.prog 72 #[.slice a1 K c1, .slice a2 K c2] w fun e w' => ∃ v ys, e = .returned v ∧ OwnRowsU w' w.heap.size v ys ∧ ys.length = K ∧ (∀ r ∈ ys, r.length = wd ∧ ∀ x ∈ r, x < 65536) ∧ Below w.heap.size w w' ∧
   ∀ i, i < K → ∀ p, p < wd → ev (KT ys p) (F.ofNat (ts.getD i 0)) = F.ofNat ((rows.getD i []).getD p 0) := by
 obtain ⟨i0, hi, hz0, hz1, hz2⟩ := info_parts Tryz.info16
 obtain ⟨j0, hj, hy0, hy1, hy2⟩ := info_parts Tryz.infoU16s
 have HRT := Aa hrt
 have HRR := Aa hrr
 have HW := Aa hw
 have HTX := Aa htx
 have HND := Aa hnd
 clear hrt hrr hw htx hnd
 go_enter Tryz.func72, Tryz.ntmps72
 go_wp2_with fail
 go_loopw [6, 7, 8, 9, 10, 11] (fun a y i _ _ _ wr => ∃ k : Nat, k ≤ K ∧ i = .int .i64 (k : Int) ∧ Sys0 w.heap.size wr a y k K wd (Fu ts K k) (rows.take k) ∧ Below w.heap.size w wr)
  (fun _ _ i _ _ _ _ => K - (intOf i).toNat)
 case atStart => exact ⟨0, by omega, rfl, by simpa [Fu] using Sys0.start _ _ _ _, Below.refl _ _⟩
 case round =>
  obtain ⟨W0, rfl⟩ : ∃ W0, W0 = wr := ⟨_, rfl⟩
  obtain ⟨k, hk, rfl, hsys, hbl⟩ := hrel
  have hsz := hbl.size
  by_cases hlt : k < K
  ·obtain ⟨b1, off1, e1, hct0⟩ := Sp HRT.out k (by omega)
   subst e1
   have hct : W0.cell? ⟨b1, off1 + k, none⟩ = some (.int .i64 ((ts.getD k 0 : Nat) : Int)) := by
    rw [hbl.cell (World.block_lt_of_cell? w _ hct0)]; exact hct0
   have htl := AP HTX.out k
   obtain ⟨t, ht⟩ : ∃ t, t = ts.getD k 0 := ⟨_, rfl⟩
   rw [← ht] at hct htl
   have HS := Aa hsys
   have HB := Aa hbl
   have HT := Aa ht
   clear hsys hbl ht hct0
   go_wp2_with fail
   have hrow0 : (W0.alloc (.cells #[.int .u16 1] 80)).ownsRow W0.heap.size 80 1 (.slice (some ⟨W0.heap.size, 0, none⟩) 1 1) 1 (A9 (EI t 1)) := by
    have := World.ownsRow_lit (base := W0.heap.size) (e := 80) (size := 1) W0 #[.int .u16 1] 1 (Nat.le_refl _) (by unfold maxLen; omega) rfl
    simpa [A9, EI, OU] using this
   have HR0 := Aa hrow0
   clear hrow0
   go_loopw [9, 10, 11] (fun l j _ W => ∃ q m : Nat, m = q + 1 ∧ m ≤ K ∧ j = .int .i64 (m : Int) ∧ W.ownsRow W0.heap.size 80 1 l m (A9 (EI t m)) ∧ Below W0.heap.size W0 W)
    (fun _ j _ _ => K - (intOf j).toNat)
   case atStart => exact ⟨0, 1, rfl, by omega, rfl, HR0.out, (Below.refl _ _).alloc (Nat.le_refl _) _⟩
   case round =>
    clear HR0
    obtain ⟨q, m, hqm, hq, rfl, hownl, hbq⟩ := hrel
    have hszq := hbq.size
    rcases hownl.2 with ⟨_, h0⟩ | ⟨g, cap, cur, rfl, hgb, hgc, _, _, _, _⟩
    ·omega
    have hHO := Aa hownl
    have hHB := Aa hbq
    by_cases hqk : m < K
    ·have hcl : wr.cell? ⟨g, q, none⟩ = some (.int .u16 ((OU t q : Nat) : Int)) := by
      rw [hownl.cellAt q (by omega)]
      rw [hqm]
      simp [A9, EI]
     have hm1 : (m : Int) - 1 = (q : Int) := by omega
     have hqlm : q < m := by omega
     have hm2 : IntKind.i64.wrap ((m : Int) - 1) = (q : Int) := by rw [IntKind.wrap_i64]; omega
     have hm3 : IntKind.i64.wrap (q : Int) = (q : Int) := by rw [IntKind.wrap_i64]; omega
     have hpl := JW t q
     have hct1 : wr.cell? ⟨b1, off1 + k, none⟩ = some (.int .i64 ((t : Nat) : Int)) := by
      rw [hbq.cell (World.block_lt_of_cell? W0 _ hct)]; exact hct
     have wat : IntKind.u16.wrap (t : Int) = (t : Int) := by rw [IntKind.wrap_u16]; omega
     have hline : A9 (EI t (m + 1)) = A9 (EI t m) ++ [.int .u16 ((Math.mul (OU t q) t : Nat) : Int)] := by
      rw [Ob t m, A9, List.map_append, hqm]
      rfl
     have HL := Aa hline
     obtain ⟨x, hx⟩ : ∃ x, x = OU t q := ⟨_, rfl⟩
     rw [← hx] at HL hcl hpl
     have hTi := fun W => CL x t hpl htl W
     have hDT := Aa hTi
     have HQM := Aa hqm
     clear hownl hbq hgc hx hct hline hTi hqm
     go_wp2_with fail
     go_region_held (fun W => W.cell? ⟨g, q, none⟩ = some (.int .u16 (x : Int)) ∧ W.cell? ⟨b1, off1 + k, none⟩ = some (.int .i64 (t : Int)) ∧ W.heap = wr.heap ∧ W.os = wr.os ∧ W.tape = wr.tape ∧ W.output = wr.output)
      (first | assumption | exact ⟨hcl, hct1, rfl, rfl, rfl, rfl⟩)
      (first | (go_at_call 53; refine (hDT.out _).mono ?_; rintro e w' ⟨rfl, rfl⟩))
     have HO1 : Hid (wr.drew.ownsRow W0.heap.size 80 1 (.slice (some ⟨g, 0, none⟩) m cap) m (A9 (EI t m))) := Aa hHO.out
     have HB1 : Hid (Below W0.heap.size W0 wr.drew) := Aa hHB.out.drew
     have hsz1 : W0.heap.size ≤ wr.drew.heap.size := hszq
     clear hHO hHB hcl hct1
     obtain ⟨W1, hW1⟩ : ∃ W1, W1 = wr.drew := ⟨_, rfl⟩
     rw [← hW1] at HO1 HB1 hsz1 ⊢
     clear hW1
     go_wp2_with (at_builtin; refine wpList_append_own _ rfl (.tmp 41) (.tmp 43) 121 rfl W0.heap.size 80 i0 (.int .u16 0) 1 2 Tryz.underlying121 hi hz0 hz1 hz2 rfl (by decide) _ _ _ rfl (HO1.out.alloc _) ⟨W1.heap.size, 0, none⟩ 1 1 [.int .u16 ((Math.mul x t : Nat) : Int)] rfl rfl (cell_one_new _ _ _) ?d2 ?d3 ?d4 ?d5 ?_)
     case d2 => intro u hu; simp at hu; subst hu; rfl
     case d3 => unfold maxLen; omega
     case d4 => omega
     case d5 => simp; omega
     intro v2 w2 hown2 hg2 _
     have hbl2 := Az HB1.out hsz1 HO1.out hg2
     go_wp2_with fail
     refine ⟨⟨m, m + 1, rfl, by omega, by go_num, ?_, hbl2⟩, by simp [intOf]; omega⟩
     rw [HL.out]
     exact hown2
    ·have hmK : m = K := by omega
     subst hmK
     obtain ⟨gA, cA, gY, cY, hA0, hY0, hAp⟩ := HS.out
     have hA1 := hA0.later (Nat.le_refl _) hbq
     have HA := Aa hA1
     have HO := Aa hownl
     have HBq := Aa hbq
     have HA0 := Aa hA0
     have HY0 := Aa hY0
     have HAP := Aa hAp
     have HQM := Aa hqm
     clear HS hA0 hY0 hAp hA1 hownl hbq hgc hqm hHO hHB
     go_wp2_with (at_builtin; refine wpList_append_own _ rfl (.tmp 45) (.tmp 47) 120 rfl w.heap.size 121 j0 (.slice none 0 0) 1 24 Tryz.underlying120 hj hy0 hy1 hy2 rfl (by decide) _ _ _ rfl (HA.out.own.alloc _) ⟨wr.heap.size, 0, none⟩ 1 1 [.slice (some ⟨g, 0, none⟩) m cap] rfl rfl (cell_one_new _ _ _) ?d2 ?d3 ?d4 ?d5 ?_)
     case d2 => intro u hu; simp at hu; subst hu; rfl
     case d3 => unfold maxLen; omega
     case d4 => omega
     case d5 => simp; omega
     intro va2 w2 hown2 hg2 _
     have hB1 : Below w.heap.size w (wr.alloc (.cells #[.slice (some ⟨g, 0, none⟩) m cap] 121)) := (HB.out.trans (HBq.out.mono hsz)).alloc (by omega) _
     have hB2 : Below w.heap.size w w2 := Cy hB1 hB1.size (HA.out.own.alloc _) hg2
     have hsz2 := hB2.size
     obtain ⟨b2, off2, a4, c4, rfl, hcr0, hrow0⟩ := HRR.out k rows[k] (List.getElem?_eq_getElem (by omega))
     have hcr : w2.cell? ⟨b2, off2 + k, none⟩ = some (.slice a4 rows[k].length c4) := by
      rw [hB2.cell (World.block_lt_of_cell? w _ hcr0)]; exact hcr0
     have hrow : Rd w2 a4 (A9 rows[k]) := hrow0.later (Nat.le_refl _) hB2
     have hrl := (HW.out rows[k] (List.getElem_mem (by omega))).1
     have hrx := (HW.out rows[k] (List.getElem_mem (by omega))).2
     have htake : rows.take (k + 1) = rows.take k ++ [rows[k]] := Ap rows k (by omega)
     obtain ⟨r, hr⟩ : ∃ r, r = rows[k] := ⟨_, rfl⟩
     rw [← hr] at hcr hrow hrl hrx htake
     rw [hrl] at hcr
     obtain ⟨b5, off5, rfl, hc5⟩ := Ds hrow 0 (by omega)
     have hyo := MP HA0.out HY0.out HAP.out (HBq.out.alloc (by omega) _) hg2
     have HYO := Aa hyo
     have HROW := Aa hrow
     have HRX := Aa hrx
     have HTK := Aa htake
     have HOWN2 := Aa hown2
     have HG2 := Aa hg2
     have HB2 := Aa hB2
     have hcr' : ∀ o, (w2.alloc o).cell? ⟨b2, off2 + k, none⟩ = some (.slice (some ⟨b5, off5, none⟩) wd c4) := by
      intro o
      rw [An (World.block_lt_of_cell? w2 _ hcr)]; exact hcr
     clear hyo hrow hrx htake hown2 hg2 hB2 hB1 hrow0 hcr0 hr hc5 HA
     have hrl' : (A9 r).length = wd := by simp [A9, hrl]
     have hemp := World.ownsRow_made (base := w2.heap.size) (e := 80) (size := 1) w2 #[] 0 (Nat.le_refl _) (by unfold maxLen; omega) rfl
     have HEMP := Aa hemp
     have HNEWS := Aa (RR HROW.out (.cells #[] 80))
     clear hemp
     go_wp2_with (at_builtin; refine wpList_append_own _ rfl (.tmp 50) (.tmp 54) 121 rfl w2.heap.size 80 i0 (.int .u16 0) 1 2 Tryz.underlying121 hi hz0 hz1 hz2 rfl (by decide) _ _ _ rfl HEMP.out ⟨b5, off5, none⟩ wd c4 (A9 r) rfl ?d1 ?d6 ?d2 ?d3 ?d4 ?d5 ?_)
     case d1 => rw [hrl', Nat.mul_one]
     case d6 => exact HNEWS.out
     case d2 => exact QF r
     case d3 => unfold maxLen; omega
     case d4 => omega
     case d5 => simp
     intro v3 w3 hown3 hg3 _
     rcases hown3.2 with ⟨_, h0⟩ | ⟨gm, cm, curm, rfl, hgmb, hgmc, _, _, _, _⟩
     ·omega
     have hb23 : Below w2.heap.size w2 w3 := ((Below.refl _ _).alloc (Nat.le_refl _) _).grown hg3 (by simp) (by intro kk hkk; simp [Value.ownBlock] at hkk; omega)
     have hyo3 := Ab HYO.out (Nat.le_refl _) hb23
     have hB3 : Below w.heap.size w w3 := HB2.out.trans (hb23.mono hsz2)
     have hsz3 := hB3.size
     have HY3 := Aa hyo3
     have HB3 := Aa hB3
     have HB23 := Aa hb23
     have HOWN3 := Aa hown3
     clear hyo3 hB3 hb23 hown3 hg3 hgmc HEMP HNEWS
     go_wp2_with (at_builtin; refine wpList_append_own _ rfl (.tmp 49) (.tmp 56) 120 rfl w.heap.size 121 j0 (.slice none 0 0) 1 24 Tryz.underlying120 hj hy0 hy1 hy2 rfl (by decide) _ _ _ rfl (HY3.out.alloc _) ⟨w3.heap.size, 0, none⟩ 1 1 [.slice (some ⟨gm, 0, none⟩) wd cm] rfl rfl (cell_one_new _ _ _) ?d2 ?d3 ?d4 ?d5 ?_)
     case d2 => intro u hu; simp at hu; subst hu; rfl
     case d3 => unfold maxLen; omega
     case d4 => omega
     case d5 => simp; omega
     intro vy2 w4 hown4 hg4 _
     have hB4 : Below w.heap.size w w4 := Cy (HB3.out.alloc hsz3 _) (by simp; omega) (HY3.out.alloc _) hg4
     have hsys4 := Ou HA0.out HY0.out HAP.out hsz (HBq.out.alloc (by omega) _) (HO.out.alloc _) (LK t m) (Qy t m) HOWN2.out HG2.out (HB23.out.alloc HB23.out.size _) (HOWN3.out.alloc _) hrl HRX.out hown4 hg4
     rw [HT.out, ← My, ← HTK.out] at hsys4
     go_wp2_with fail
     refine ⟨⟨k + 1, by omega, by go_num, hsys4, hB4⟩, by simp [intOf]; omega⟩
  ·have hkK : k = K := by omega
   subst hkK
   obtain ⟨gA, cA, gY, cY, hA0, hY0, hAp⟩ := hsys
   obtain ⟨ha, capa, rfl, hab, hal⟩ := hA0.form hK0
   obtain ⟨hy, capy, rfl, hyb, hyl⟩ := hY0.form hK0
   have helim := Elim.start hA0 hY0 hAp hbl
   rw [List.take_of_length_le (by omega)] at helim
   have HE := Aa helim
   clear hA0 hY0 hAp hbl helim
   go_wp2_with fail
   obtain ⟨K, rfl⟩ : ∃ K, K = k := ⟨_, rfl⟩
   go_loopw [12, 13, 14, 15, 16] (fun c _ _ _ _ W => ∃ (k : Nat) (A Y : List (List Nat)) (gA cA gY cY : Nat → Nat), k ≤ K ∧ c = .int .i64 (k : Int) ∧ Hid (Elim w.heap.size w W ha capa hy capy K wd (Fu ts K K) rows A Y gA cA gY cY k))
    (fun c _ _ _ _ _ => K - (intOf c).toNat)
   case atStart => exact ⟨0, _, _, _, _, _, _, by omega, rfl, HE⟩
   case round =>
    clear HE
    obtain ⟨W1, rfl⟩ : ∃ W1, W1 = wr := ⟨_, rfl⟩
    obtain ⟨k, A, Y, gA, cA, gY, cY, hk, rfl, HE⟩ := hrel
    by_cases hlt : k < K
    ·go_wp2_with fail
     go_loopw [13] (fun p W => ∃ q : Nat, k ≤ q ∧ q ≤ K ∧ p = .int .i64 (q : Int) ∧ W = W1 ∧ Hid (∀ i, k ≤ i → i < q → (A.getD i []).getD k 0 = 0))
      (fun p _ => K - (intOf p).toNat)
     case atStart => exact ⟨k, by omega, by omega, rfl, rfl, Aa (fun i h1 h2 => by omega)⟩
     case round =>
      obtain ⟨q, hkq, hqK, rfl, rfl, HZ⟩ := hrel
      by_cases hqk : q < K
      ·have hca := (HE.out.ga.head q hqk).1
       have hcb := HE.out.ga.cell q hqk k hlt
       obtain ⟨x, hx⟩ : ∃ x, x = (A.getD q []).getD k 0 := ⟨_, rfl⟩
       rw [← hx] at hcb
       have hxl : x < 65536 := by rw [hx]; exact AP (HE.out.ga.full.low q) k
       have HX := Aa hx
       clear hx
       by_cases hx0 : x = 0
       ·subst hx0
        go_wp2_with fail
        refine ⟨⟨q + 1, by omega, by omega, by go_num, by first | rfl | trivial, Aa ?_⟩, by simp [intOf]; omega⟩
        intro i h1 h2
        by_cases e : i = q
        ·rw [e]; exact HX.out.symm
        ·exact HZ.out i h1 (by omega)
       ·have hxi : ¬ (x : Int) = 0 := by omega
        have hqne : ¬ (q : Int) = (K : Int) := by omega
        have hcf := (HE.out.ga.head q hqk).2
        obtain ⟨hda, hdf⟩ := HE.out.ga.head k hlt
        obtain ⟨val, hval⟩ := G8 wr ⟨ha, q, none⟩ ⟨ha, k, none⟩ (.slice (some ⟨gA k, 0, none⟩) K (cA k)) hca hda
        go_wp2_with fail
        go_region
        obtain ⟨X1, hX1⟩ : ∃ X, X = ((wr.setCell ⟨ha, q, none⟩ (.slice (some ⟨gA k, 0, none⟩) K (cA k))).setCell ⟨ha, k, none⟩ (.slice (some ⟨gA q, 0, none⟩) K (cA q))).drew := ⟨_, rfl⟩
        rw [← hX1]
        have HS1 := Aa (HE.out.swapA q hqk hlt X1 hX1)
        clear hX1 hval hca hcb hcf hda hdf
        obtain ⟨hca, hcf⟩ := HS1.out.2.1.head q hqk
        obtain ⟨hda, hdf⟩ := HS1.out.2.1.head k hlt
        obtain ⟨val2, hval⟩ := G8 X1 ⟨hy, q, none⟩ ⟨hy, k, none⟩ (.slice (some ⟨gY k, 0, none⟩) wd (cY k)) hca hda
        go_wp2_with fail
        go_region
        obtain ⟨X2, hX2⟩ : ∃ X, X = ((X1.setCell ⟨hy, q, none⟩ (.slice (some ⟨gY k, 0, none⟩) wd (cY k))).setCell ⟨hy, k, none⟩ (.slice (some ⟨gY q, 0, none⟩) wd (cY q))).drew := ⟨_, rfl⟩
        rw [← hX2]
        have HE2 := Aa (HE.out.swapY hqk hlt hkq HS1.out X2 hX2)
        clear hX2 hval hca hcf hda hdf HS1 val val2
        have hxe : ((FK A q k).getD k []).getD k 0 = x := by
         rw [JR A q k k (by rw [HE.out.ga.full.len]; exact hqk) (by rw [HE.out.ga.full.len]; exact hlt), HX.out]
         simp [sw]
        clear HX HZ HE
        obtain ⟨A1, hA1⟩ : ∃ M, M = FK A q k := ⟨_, rfl⟩
        obtain ⟨Y1, hY1⟩ : ∃ M, M = FK Y q k := ⟨_, rfl⟩
        obtain ⟨g1, hg1⟩ : ∃ M, M = fun i => gA (sw q k i) := ⟨_, rfl⟩
        obtain ⟨c3, hc3⟩ : ∃ M, M = fun i => cA (sw q k i) := ⟨_, rfl⟩
        obtain ⟨g2, hg2⟩ : ∃ M, M = fun i => gY (sw q k i) := ⟨_, rfl⟩
        obtain ⟨c4, hc4⟩ : ∃ M, M = fun i => cY (sw q k i) := ⟨_, rfl⟩
        rw [← hA1, ← hY1, ← hg1, ← hc3, ← hg2, ← hc4] at HE2
        rw [← hA1] at hxe
        clear hA1 hY1 hg1 hc3 hg2 hc4
        have hh1 := (HE2.out.ga.head k hlt).1
        have hh2 := HE2.out.ga.cell k hlt k hlt
        rw [hxe] at hh2
        go_wp2_with fail
        refine (JU x hxl X2).mono ?_
        rintro e w' ⟨rfl, rfl⟩
        have hbl := Math.inv_lt hxl
        have hb1 : en A1 k k * F.ofNat (Math.inv x) = F.one := by
         have e1 : en A1 k k = F.ofNat x := by unfold en; rw [hxe]
         rw [e1, ← Cl hxl hbl, Math.mul_inv hxl hx0]
         rfl
        obtain ⟨b, hb⟩ : ∃ b, b = Math.inv x := ⟨_, rfl⟩
        rw [← hb] at hbl hb1 ⊢
        have HB1 := Aa hb1
        clear hb1 hb hh2 hxe hx0 hxi
        go_wp2_with fail
        have hwA := HE2.out.ga.full.wide k hlt
        have hwY := HE2.out.gy.full.wide k hlt
        have SC := Aa (F8 (A1.getD k []) b w.heap.size (g1 k) (c3 k) w' (HE2.out.ga.row k hlt) (by omega) (HE2.out.ga.full.low k) hbl)
        rw [hwA] at SC
        refine SC.out.mono ?_
        rintro e w3 ⟨rfl, hr3, hg3⟩
        have hY3 := HE2.out.gy.kept (HE2.out.ga.row k hlt) hg3 (fun i hi e => HE2.out.ap k i hlt hi e.symm)
        have hh3 := (hY3.head k hlt).1
        have SC2 := Aa (F8 (Y1.getD k []) b w.heap.size (g2 k) (c4 k) w3 (hY3.row k hlt) (by omega) (hY3.full.low k) hbl)
        rw [hwY] at SC2
        have HR3 := Aa hr3
        have HG3 := Aa hg3
        clear hr3 hg3 hY3 SC
        go_wp2_with fail
        refine SC2.out.mono ?_
        rintro e w4 ⟨rfl, hr4, hg4⟩
        have hel := HE2.out.scaled hlt hbl HB1.out HR3.out HG3.out hr4 hg4
        have HE4 := Aa hel.1
        have HC4 := Aa hel.2
        clear hel hr4 hg4 HR3 HG3 SC2 HE2 hwA hwY hh1 hh3 HB1
        go_wp2_with fail
        go_loopw [15, 16] (fun i _ W => ∃ (j : Nat) (A Y : List (List Nat)), j ≤ K ∧ i = .int .i64 (j : Int) ∧ Hid (Elim w.heap.size w W ha capa hy capy K wd (Fu ts K K) rows A Y g1 c3 g2 c4 k) ∧ Hid (Col A k j))
         (fun i _ _ => K - (intOf i).toNat)
        case atStart => exact ⟨0, _, _, by omega, rfl, HE4, HC4⟩
        case round =>
         clear HE4 HC4
         obtain ⟨j, A2, Y2, hjK, rfl, HE5, HC5⟩ := hrel
         by_cases hj2 : j < K
         ·by_cases hjk : j = k
          ·subst hjk
           go_wp2_with fail
           exact ⟨⟨j + 1, A2, Y2, by omega, by go_num, HE5, Aa (Nc HC5.out (.inl rfl))⟩, by simp [intOf]; omega⟩
          ·have hi1 := (HE5.out.ga.head j hj2).1
           have hi2 := HE5.out.ga.cell j hj2 k hlt
           have hi3 := (HE5.out.ga.head k hlt).1
           have hne : ¬ (j : Int) = (k : Int) := by omega
           obtain ⟨f, hf⟩ : ∃ f, f = (A2.getD j []).getD k 0 := ⟨_, rfl⟩
           rw [← hf] at hi2
           have hfl : f < 65536 := by rw [hf]; exact AP (HE5.out.ga.full.low j) k
           have HF := Aa hf
           clear hf
           by_cases hf0 : f = 0
           ·subst hf0
            go_wp2_with fail
            exact ⟨⟨j + 1, A2, Y2, by omega, by go_num, HE5, Aa (Nc HC5.out (.inr ((Py HE5.out.ga.full).2 HF.out.symm)))⟩, by simp [intOf]; omega⟩
           ·have hbf : ((f : Int) != 0) = true := by simp; omega
            have hbne : ((j : Int) != (k : Int)) = true := by simp; omega
            have hG := HE5.out.ga.drew
            have hGy := HE5.out.gy.drew
            have hwj := hG.full.wide j hj2
            have hwk := hG.full.wide k hlt
            have AD := Aa (Ik (A2.getD j []) (A2.getD k []) f w.heap.size (g1 j) (c3 j) (some ⟨g1 k, 0, none⟩) K (c3 k) wr.drew (hG.row j hj2) (by omega) (hG.full.low j) hfl hwk (by omega) (hG.rd k hlt) (by intro c' hc'; cases hc'; exact fun e => hjk (hG.inj j k hj2 hlt e.symm)) (hG.full.low k))
            rw [hwj] at AD
            have HKA : Hid (∀ W', wr.drew.grownBy W' (some (g1 j)) → W'.cell? ⟨ha, j, none⟩ = some (.slice (some ⟨g1 j, 0, none⟩) K (c3 j)) ∧ W'.cell? ⟨ha, k, none⟩ = some (.slice (some ⟨g1 k, 0, none⟩) K (c3 k))) :=
             Aa (fun W' hW => hG.heads_kept j j k hj2 hj2 hlt hW)
            have HG := Aa hG
            have HGY := Aa hGy
            clear hG hGy hwj hwk
            go_wp2_with fail
            go_region_held (fun W => W.cell? ⟨ha, j, none⟩ = some (.slice (some ⟨g1 j, 0, none⟩) K (c3 j)) ∧ W.cell? ⟨ha, k, none⟩ = some (.slice (some ⟨g1 k, 0, none⟩) K (c3 k)))
             (first | assumption | exact ⟨hi1, hi3⟩ | exact HKA.out _ (by assumption))
             (first | (go_at_call 107; refine AD.out.mono ?_; rintro e w5 ⟨rfl, hr5, hg5⟩))
            clear AD HKA hi1 hi2 hi3
            have hg5' := ON hg5
            have hr5' : Row w5.drew w.heap.size (g1 j) (c3 j) (D8 (A2.getD j []) (A2.getD k []) f) := hr5
            have hGy := HGY.out.kept (HG.out.row j hj2) hg5' (fun i hi e => HE5.out.ap j i hj2 hi e.symm)
            have hi1 : w5.cell? ⟨hy, j, none⟩ = some (.slice (some ⟨g2 j, 0, none⟩) wd (c4 j)) := (hGy.head j hj2).1
            have hi3 : w5.cell? ⟨hy, k, none⟩ = some (.slice (some ⟨g2 k, 0, none⟩) wd (c4 k)) := (hGy.head k hlt).1
            have hwj := hGy.full.wide j hj2
            have hwk := hGy.full.wide k hlt
            have AD := Aa (Ik (Y2.getD j []) (Y2.getD k []) f w.heap.size (g2 j) (c4 j) (some ⟨g2 k, 0, none⟩) wd (c4 k) w5.drew (hGy.row j hj2) (by omega) (hGy.full.low j) hfl hwk (by omega) (hGy.rd k hlt) (by intro c' hc'; cases hc'; exact fun e => hjk (hGy.inj j k hj2 hlt e.symm)) (hGy.full.low k))
            rw [hwj] at AD
            have HKA : Hid (∀ W', w5.drew.grownBy W' (some (g2 j)) → W'.cell? ⟨hy, j, none⟩ = some (.slice (some ⟨g2 j, 0, none⟩) wd (c4 j)) ∧ W'.cell? ⟨hy, k, none⟩ = some (.slice (some ⟨g2 k, 0, none⟩) wd (c4 k))) :=
             Aa (fun W' hW => hGy.heads_kept j j k hj2 hj2 hlt hW)
            have HR5 := Aa hr5'
            have HG5 := Aa hg5'
            clear hGy hwj hwk HG HGY hr5 hg5 hr5' hg5'
            go_wp2_with fail
            go_region_held (fun W => W.cell? ⟨hy, j, none⟩ = some (.slice (some ⟨g2 j, 0, none⟩) wd (c4 j)) ∧ W.cell? ⟨hy, k, none⟩ = some (.slice (some ⟨g2 k, 0, none⟩) wd (c4 k)))
             (first | assumption | exact ⟨hi1, hi3⟩ | exact HKA.out _ (by assumption))
             (first | (go_at_call 107; refine AD.out.mono ?_; rintro e w6 ⟨rfl, hr6, hg6⟩))
            have hel := HE5.out.drew.added HC5.out hlt hj2 hjk HF.out HR5.out HG5.out hr6 hg6
            have HE6 := Aa hel.1
            have HC6 := Aa hel.2
            clear hel hr6 hg6 HR5 HG5 AD HKA hi1 hi3
            go_wp2_with fail
            exact ⟨⟨j + 1, _, _, by omega, by go_num, HE6, HC6⟩, by simp [intOf]; omega⟩
         ·obtain rfl : K = j := by omega
          have hnx := Aa (HE5.out.next HC5.out)
          clear HE5 HC5
          go_wp2_with fail
          exact ⟨⟨k + 1, A2, Y2, g1, c3, g2, c4, by omega, by go_num, hnx⟩, by simp [intOf]; omega⟩
      ·exfalso
       obtain rfl : q = K := by omega
       exact Elim.pivot HE.out HTX.out HND.out hts hlt hwd0 HZ.out
    ·obtain rfl : K = k := by omega
     go_wp2_with fail
     go_ret
     have h := HE.out
     refine ⟨_, Y, rfl, h.gy.ownRows, h.gy.full.len, fun r hr => ?_, h.below, fun i hi p hp => ?_⟩
     ·obtain ⟨j, hj', rfl⟩ := List.mem_iff_getElem.1 hr
      have e : Y.getD j [] = Y[j] := by simp [hj']
      have h1 := h.gy.full.wide j (by rw [h.gy.full.len] at hj'; exact hj')
      have h2 := h.gy.full.low j
      rw [e] at h1 h2
      exact ⟨h1, h2⟩
     ·exact Sy (IR ts K HTX.out) h.snd h.unit h.gy.full.len p hp i hi
end Go.Proofs.YtonjphollmdicaaGreatDoor
