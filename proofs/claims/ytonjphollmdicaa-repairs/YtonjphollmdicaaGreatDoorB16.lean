import Derived.Test.YtonjphollmdicaaGreatDoorB01
import Derived.Test.YtonjphollmdicaaGreatDoorB04
import Derived.Test.YtonjphollmdicaaGreatDoorB15
namespace Go.Proofs.YtonjphollmdicaaGreatDoor
open Go.ChangeShapes Go.WideShapes Go.ChangeAt Go.RowKit
open Go.Maps
set_option linter.unusedSimpArgs false in
set_option maxRecDepth 100000 in
theorem Size_walk (B : Nat) (kn : Bool) (h sz : Nat) (fl : Value) (F E : Nat) (w : World) (hB : Blk w B (setCellsV kn h sz fl F E)) :
  Calls Tryz.prog 80 #[.pointer (some ⟨B, 0, none⟩)] w fun e w' => e = .returned (.int .i64 (sz : Int)) ∧ w' = w := by
 have b2 := (hB 2 _ rfl).1
 go_enter Tryz.func80, Tryz.ntmps80
 go_wp2_with fail
 go_ret
 exact ⟨rfl, rfl⟩
set_option linter.unusedSimpArgs false in
set_option maxRecDepth 100000 in
set_option maxHeartbeats 2000000 in
theorem Extras_walk (B : Nat) (kn : Bool) (h sz : Nat) (fl : Value) (F E c N : Nat) (D : DataW Value) (g : FoundL → Option Nat) (l : List FoundL) (R : Value → FoundL → Prop) (hN : N ≤ 1000) (hRF : ∀ v f, R v f → IsEI v) (w : World) (hB : Blk w B (setCellsV kn h sz fl F E)) (hm : w.ownsMap Tryz.prog 3 rawE E c D) (hk : KMap D g l N R) :
  Calls Tryz.prog 82 #[.pointer (some ⟨B, 0, none⟩)] w fun e w' => ∃ v, e = .returned v ∧ w'.ownsRow w.heap.size 192 2 v (keysOf g l N).length (valsAt D (keysOf g l N)) ∧ Below w.heap.size w w' := by
 have b5 := (hB 5 _ rfl).1
 have hI := hid_of (inOrderE_walk E c N D g l R hN hRF w hm hk)
 clear hm hk
 go_enter Tryz.func82, Tryz.ntmps82
 go_wp2_with fail
 refine hI.out.mono ?_
 rintro e w1 ⟨v, rfl, h1, h2⟩
 have H1 := hid_of h1
 have H2 := hid_of h2
 clear h1 h2
 go_wp2_with fail
 go_ret
 exact ⟨_, rfl, H1.out, H2.out⟩
set_option linter.unusedSimpArgs false in
set_option maxRecDepth 100000 in
set_option maxHeartbeats 2000000 in
theorem Files_walk (B : Nat) (kn : Bool) (h sz : Nat) (fa : Option Addr) (fn fc F E c N : Nat) (D : DataW Value) (g : FoundL → Option Nat) (l : List FoundL) (R : Value → FoundL → Prop) (hN : N ≤ 1000) (hRF : ∀ v f, R v f → IsFI v) (w : World) (hB : Blk w B (setCellsV kn h sz (.slice fa fn fc) F E)) (hm : w.ownsMap Tryz.prog 3 rawE F c D) (hk : KMap D g l N R) :
  Calls Tryz.prog 77 #[.pointer (some ⟨B, 0, none⟩)] w fun e w' => ∃ v, e = .returned (.tuple #[v, .bool (decide ((keysOf g l N).length = fn))]) ∧ w'.ownsRow w.heap.size 143 5 v (keysOf g l N).length (valsAt D (keysOf g l N)) ∧ Below w.heap.size w w' := by
 have hBlt : B < w.heap.size := hB.lt (by simp [setCellsV])
 have hsz := hk.size
 have hI := hid_of (fun W (hW : Touch [] w W) => inOrderF_walk F c N D g l R hN hRF W (ownsMap_touch hm hW (by simp)) hk)
 have HM := hid_of hm
 have HB := hid_of hB
 have HSZ := hid_of hsz
 clear hm hk hB hsz
 go_enter Tryz.func77, Tryz.ntmps77
 go_wp2_with fail
 have hS : ∀ X : World, Touch [] w X → X.cell? ⟨B, 4, none⟩ = some (.map (some F)) ∧ X.cell? ⟨B, 3, none⟩ = some (.slice fa fn fc) ∧ X.ownsMap Tryz.prog 3 rawE F c D := fun X hX =>
  ⟨(HB.out.touch hX (by simp) 4 _ rfl).1, (HB.out.touch hX (by simp) 3 _ rfl).1, ownsMap_touch HM.out hX (by simp)⟩
 have HS := hid_of hS
 clear hS
 refine wp_region_held_drew (S := fun X => X.cell? ⟨B, 4, none⟩ = some (.map (some F)) ∧ X.cell? ⟨B, 3, none⟩ = some (.slice fa fn fc) ∧ X.ownsMap Tryz.prog 3 rawE F c D) (by kernel_rfl) (HS.out _ (Touch.refl _ _).drew) (fun hHeld => ?_)
 (refine tY 0 4 ?v1 ?a1 rfl (by kernel_rfl) (by rfl) (fun _ _ _ h => h) ?y1 (by assumption) rfl ?p1 ?_; (case y1 => (intro w hSw; (try dsimp only at hSw); simp only [gA, gB, gC, gD, gE]; go_simp; (try with_reducible rfl))); (case p1 => (simp only [Act.put, sA, sB, sC]; try rfl)))
 (refine tY 1 5 ?v2 ?a2 rfl (by kernel_rfl) (by rfl) (fun _ _ _ h => h) ?y2 (by assumption) rfl ?p2 ?_; (case y2 => (intro w hSw; (try dsimp only at hSw); simp only [gA, gB, gC, gD, gE]; go_simp; (try with_reducible rfl))); (case p2 => (simp only [Act.put, sA, sB, sC]; try rfl)))
 (refine tY 2 6 ?v3 ?a3 rfl (by kernel_rfl) (by rfl) (fun _ _ _ h => h) ?y3 (by assumption) rfl ?p3 ?_; (case y3 => (intro w hSw; (try dsimp only at hSw); simp only [gA, gB, gC, gD, gE]; go_simp; (try with_reducible rfl))); (case p3 => (simp only [Act.put, sA, sB, sC]; try rfl)))
 (refine tY 3 7 ?v4 ?a4 rfl (by kernel_rfl) (by rfl) (fun _ _ _ h => h) ?y4 (by assumption) rfl ?p4 ?_; (case y4 => (intro w hSw; (try dsimp only at hSw); simp only [gA, gB, gC, gD, gE]; go_simp; (try with_reducible rfl))); (case p4 => (simp only [Act.put, sA, sB, sC]; try rfl)))
 (refine tY 5 9 ?v5 ?a5 rfl (by kernel_rfl) (by rfl) (fun _ _ _ h => h) ?y5 (by assumption) rfl ?p5 ?_; (case y5 => (intro w hSw; (try dsimp only at hSw); simp only [gA, gB, gC, gD, gE]; go_simp; (try with_reducible rfl))); (case p5 => (simp only [Act.put, sA, sB, sC]; try rfl)))
 (refine tY 6 10 ?v6 ?a6 rfl (by kernel_rfl) (by rfl) (fun _ _ _ h => h) ?y6 (by assumption) rfl ?p6 ?_; (case y6 => (intro w hSw; (try dsimp only at hSw); simp only [gA, gB, gC, gD, gE]; go_simp; (try with_reducible rfl))); (case p6 => (simp only [Act.put, sA, sB, sC]; try rfl)))
 (refine tY 7 11 ?v7 ?a7 rfl (by kernel_rfl) (by rfl) (fun _ _ _ h => h) ?y7 (by assumption) rfl ?p7 ?_; (case y7 => (intro w hSw; (try dsimp only at hSw); simp only [gA, gB, gC, gD, gE]; go_simp; (try with_reducible rfl))); (case p7 => (simp only [Act.put, sA, sB, sC]; try rfl)))
 (refine tY 8 12 ?v8 ?a8 rfl (by kernel_rfl) (by rfl) (fun _ _ _ h => h) ?y8 (by assumption) rfl ?p8 ?_; (case y8 => (intro w hSw; (try dsimp only at hSw); simp only [gA, gB, gC, gD, gE]; go_simp; (try with_reducible rfl))); (case p8 => (simp only [Act.put, sA, sB, sC]; try rfl)))
 (refine tY 10 14 ?v9 ?a9 rfl (by kernel_rfl) (by rfl) (fun _ _ _ h => h) ?y9 (by assumption) rfl ?p9 ?_; (case y9 => (intro w hSw; (try dsimp only at hSw); simp only [gA, gB, gC, gD, gE]; go_simp; (try with_reducible rfl))); (case p9 => (simp only [Act.put, sA, sB, sC]; try rfl)))
 (refine tY 11 15 ?v10 ?a10 rfl (by kernel_rfl) (by rfl) (fun _ _ _ h => h) ?y10 (by assumption) rfl ?p10 ?_; (case y10 => (intro w hSw; (try dsimp only at hSw); simp only [gA, gB, gC, gD, gE]; go_simp; (try with_reducible rfl))); (case p10 => (simp only [Act.put, sA, sB, sC]; try rfl)))
 (refine tY 12 16 ?v11 ?a11 rfl (by kernel_rfl) (by rfl) (fun _ _ _ h => h) ?y11 (by assumption) rfl ?p11 ?_; (case y11 => (intro w hSw; (try dsimp only at hSw); simp only [gA, gB, gC, gD, gE]; go_simp; (try with_reducible rfl))); (case p11 => (simp only [Act.put, sA, sB, sC]; try rfl)))
 (refine tY 13 17 ?v12 ?a12 rfl (by kernel_rfl) (by rfl) (fun _ _ _ h => h) ?y12 (by assumption) rfl ?p12 ?_; (case y12 => (intro w hSw; (try dsimp only at hSw); simp only [gA, gB, gC, gD, gE]; go_simp; (try with_reducible rfl))); (case p12 => (simp only [Act.put, sA, sB, sC]; try rfl)))
 (refine tY 14 18 ?v13 ?a13 rfl (by kernel_rfl) (by rfl) (fun _ _ _ h => h) ?y13 (by assumption) rfl ?p13 ?_; (case y13 => (intro w hSw; (try dsimp only at hSw); simp only [gA, gB, gC, gD, gE]; go_simp; (try with_reducible rfl))); (case p13 => (simp only [Act.put, sA, sB, sC]; try rfl)))
 (refine tY 15 19 ?v14 ?a14 rfl (by kernel_rfl) (by rfl) (fun _ _ _ h => h) ?y14 (by assumption) rfl ?p14 ?_; (case y14 => (intro w hSw; (try dsimp only at hSw); simp only [gA, gB, gC, gD, gE]; go_simp; (try with_reducible rfl))); (case p14 => (simp only [Act.put, sA, sB, sC]; try rfl)))
 refine step_one (i := 4) (by kernel_rfl) (fun K o ho hK => ?_)
 simp only [List.getElem?_toArray, List.getElem?_cons_succ, List.getElem?_cons_zero, Option.some.injEq] at ho
 subst ho
 go_simp
 refine (hI.out _ (Touch.refl _ _).drew).mono ?_
 rintro e w1 ⟨v, rfl, ho, hb⟩
 have ht : Touch [] w w1 := (Touch.refl [] w).drew.trans (Touch.of_below hb [])
 refine hK.out _ _ ?_ (fun hHeld => ?_)
 focus exact HS.out _ ht
 clear hK K
 try simp only [Act.put, List.setIfInBounds_toArray, List.set_cons_zero, List.set_cons_succ]
 refine take_yes (i := 9) (d := some 13) (v := .int .i64 (Maps.size D : Int)) rfl (by kernel_rfl) (by kernel_rfl) (by kernel_rfl) (by rfl) (fun _ _ _ h => h) ?_ (by assumption) ?_
 focus
  intro X hSX
  have hl := fun ty => hSX.2.2.len Tryz.underlying129 ty
  simp only [List.getElem?_toArray, List.getElem?_cons_succ, List.getElem?_cons_zero, Option.map_some, Option.some.injEq]
  simp [execOp, resolve, invoke, builtin, hl, Result.andThen, Act.eval]
 try simp only [Act.put, List.setIfInBounds_toArray, List.set_cons_zero, List.set_cons_succ]
 have hbool : ((Maps.size D : Int) == (fn : Int)) = decide ((keysOf g l N).length = fn) := by
  rw [← HSZ.out, Bool.eq_iff_iff]
  simp
  omega
 have HO := hid_of ho
 have HBL := hid_of hb
 have HBO := hid_of hbool
 clear ho hb hbool ht
 (refine tY 16 20 ?v15 ?a15 rfl (by kernel_rfl) (by rfl) (fun _ _ _ h => h) ?y15 (by assumption) rfl ?p15 ?_; (case y15 => (intro w hSw; (try dsimp only at hSw); simp only [gA, gB, gC, gD, gE]; go_simp; (try with_reducible rfl))); (case p15 => (simp only [Act.put, sA, sB, sC]; try rfl)))
 (refine tY 17 2 ?v16 ?a16 rfl (by kernel_rfl) (by rfl) (fun _ _ _ h => h) ?y16 (by assumption) rfl ?p16 ?_; (case y16 => (intro w hSw; (try dsimp only at hSw); simp only [gA, gB, gC, gD, gE]; go_simp; (try with_reducible rfl))); (case p16 => (simp only [Act.put, sA, sB, sC]; try rfl)))
 (refine tY 18 3 ?v17 ?a17 rfl (by kernel_rfl) (by rfl) (fun _ _ _ h => h) ?y17 (by assumption) rfl ?p17 ?_; (case y17 => (intro w hSw; (try dsimp only at hSw); simp only [gA, gB, gC, gD, gE]; go_simp; (try with_reducible rfl))); (case p17 => (simp only [Act.put, sA, sB, sC]; try rfl)))
 refine wpAnyH_done (by kernel_rfl) ?_ _
 go_wp2_with fail
 go_ret2
 refine ⟨_, ?_, HO.out, ?_⟩
 ·rw [← HBO.out]
  rfl
 ·exact ⟨HBL.out.os, HBL.out.tape, HBL.out.output, HBL.out.size, HBL.out.block⟩
end Go.Proofs.YtonjphollmdicaaGreatDoor
namespace Go.Proofs.YtonjphollmdicaaGreatDoor
open Go.ChangeShapes Go.WideShapes Go.ChangeAt Go.RowKit
open Go.Maps
def FRow (w : World) (base : Nat) (a : Option Addr) (fl : List FoundL) : Prop := ∀ k (h : k < fl.length), ∃ bb off sa sc, a = some ⟨bb, off, none⟩ ∧
 w.cell? ⟨bb, off + k * 5, none⟩ = some (.int .i64 (fNumber fl[k].body : Int)) ∧ w.cell? ⟨bb, off + k * 5 + 1, none⟩ = some (.string (str (fName fl[k].body))) ∧ w.cell? ⟨bb, off + k * 5 + 2, none⟩ = some (.int .i64 (fLong fl[k].body : Int)) ∧
 w.cell? ⟨bb, off + k * 5 + 3, none⟩ = some (.int .u64 (fHash fl[k].body : Int)) ∧ w.cell? ⟨bb, off + k * 5 + 4, none⟩ = some (.slice sa (fSlices fl[k].body).length sc) ∧ w.ownsRow base 63 1 (.slice sa (fSlices fl[k].body).length sc) (fSlices fl[k].body).length (u64V (fSlices fl[k].body))
theorem FRow.later {w w' : World} {base : Nat} {a : Option Addr} {fl : List FoundL} (h : FRow w base a fl) (hb : Below w.heap.size w w') : FRow w' base a fl := fun k hk => by
 obtain ⟨bb, off, sa, sc, e, c0, c1, c2, c3, c4, c5⟩ := h k hk
 have hl := World.block_lt_of_cell? w _ c0
 refine ⟨bb, off, sa, sc, e, ?_, ?_, ?_, ?_, ?_, ownsRow_later c5 (Nat.le_refl _) hb⟩
 ·rw [hb.cell hl]; exact c0
 ·rw [hb.cell (show bb < w.heap.size from hl)]; exact c1
 ·rw [hb.cell (show bb < w.heap.size from hl)]; exact c2
 ·rw [hb.cell (show bb < w.heap.size from hl)]; exact c3
 ·rw [hb.cell (show bb < w.heap.size from hl)]; exact c4
set_option linter.unusedSimpArgs false in
set_option maxRecDepth 100000 in
set_option maxHeartbeats 2000000 in
theorem sliceHashes_walk (fl : List FoundL) (base : Nat) (a : Option Addr) (cap : Nat) (hn : fl.length ≤ 1000) (hs : ∀ f ∈ fl, (fSlices f.body).length ≤ 1000) (w : World) (hf : FRow w base a fl) :
  Calls Tryz.prog 78 #[.slice a fl.length cap] w fun e w' => ∃ v, e = .returned v ∧ w'.ownsRow w.heap.size 63 1 v (fl.flatMap fun f => fSlices f.body).length (u64V (fl.flatMap fun f => fSlices f.body)) ∧ Below w.heap.size w w' := by
 obtain ⟨i0, hi, hz0, hz1, hz2⟩ := info_parts Tryz.infoU64
 have HF := hid_of hf
 have HSL := hid_of hs
 clear hf hs
 go_enter Tryz.func78, Tryz.ntmps78
 go_wp2_with fail
 go_loopw [3, 9] (fun hv i W => ∃ k : Nat, k ≤ fl.length ∧ i = .int .i64 (k : Int) ∧ W.ownsRow w.heap.size 63 1 hv ((fl.take k).flatMap fun f => fSlices f.body).length (u64V ((fl.take k).flatMap fun f => fSlices f.body)) ∧ ((fl.take k).flatMap fun f => fSlices f.body).length ≤ k * 1000 ∧ Below w.heap.size w W)
  (fun _ i _ => fl.length - (intOf i).toNat)
 case atStart => exact ⟨0, by omega, rfl, World.ownsRow_made (base := w.heap.size) (e := 63) (size := 1) w #[] 0 (Nat.le_refl _) (by unfold maxLen; omega) rfl, by simp, (Below.refl _ _).alloc (Nat.le_refl _) _⟩
 case round =>
  obtain ⟨k, hk, rfl, hown, hlen, hbl⟩ := hrel
  have hsz := hbl.size
  by_cases hlt : k < fl.length
  ·have hfr := HF.out.later hbl
   obtain ⟨bb, off, sa, sc, rfl, c0, c1, c2, c3, c4, c5⟩ := hfr k hlt
   have hsl := HSL.out fl[k] (List.getElem_mem hlt)
   have hsn : (fl.take (k + 1)).flatMap (fun f => fSlices f.body) = (fl.take k).flatMap (fun f => fSlices f.body) ++ fSlices fl[k].body := by rw [take_snoc fl k hlt, List.flatMap_append]; simp
   obtain ⟨f, hf⟩ : ∃ f, f = fl[k] := ⟨_, rfl⟩
   rw [← hf] at c0 c1 c2 c3 c4 c5 hsl hsn
   obtain ⟨P, hP⟩ : ∃ P, P = (fl.take k).flatMap (fun f => fSlices f.body) := ⟨_, rfl⟩
   rw [← hP] at hown hlen hsn
   have HSN := hid_of hsn
   have HO := hid_of (hown.alloc (Obj.cells #[Value.int .i64 (fNumber f.body : Int), .string (str (fName f.body)), .int .i64 (fLong f.body : Int), .int .u64 (fHash f.body : Int), .slice sa (fSlices f.body).length sc] 143))
   have HB := hid_of (hbl.alloc hsz (Obj.cells #[Value.int .i64 (fNumber f.body : Int), .string (str (fName f.body)), .int .i64 (fLong f.body : Int), .int .u64 (fHash f.body : Int), .slice sa (fSlices f.body).length sc] 143))
   have C5 := hid_of (c5.alloc (Obj.cells #[Value.int .i64 (fNumber f.body : Int), .string (str (fName f.body)), .int .i64 (fLong f.body : Int), .int .u64 (fHash f.body : Int), .slice sa (fSlices f.body).length sc] 143))
   have hsz2 : w.heap.size ≤ (wr.alloc (Obj.cells #[Value.int .i64 (fNumber f.body : Int), .string (str (fName f.body)), .int .i64 (fLong f.body : Int), .int .u64 (fHash f.body : Int), .slice sa (fSlices f.body).length sc] 143)).heap.size := by simp; omega
   have eV : ∀ l1 l2 : List Nat, u64V (l1 ++ l2) = u64V l1 ++ u64V l2 := fun l1 l2 => by simp [u64V]
   have EV := hid_of eV
   clear hown hbl hf hfr hsn hP eV
   rcases c5.2 with ⟨hnil, hm0⟩ | ⟨g, cc, cur, hsome, _⟩
   ·simp only [Value.slice.injEq] at hnil
    obtain ⟨rfl, -, rfl⟩ := hnil
    have hnil : fSlices f.body = [] := List.length_eq_zero_iff.1 hm0
    have HNIL := hid_of hnil
    rw [hm0] at c4 HO HB
    clear c5 hnil C5 hsz2
    go_wp2_with (at_builtin; refine wpList_append_own_none rfl (.tmp 13) (.tmp 15) 99 rfl w.heap.size 63 i0 1 Tryz.underlying99 hi _ _ _ rfl HO.out rfl ?_)
    go_wp2_with fail
    refine ⟨⟨k + 1, by omega, by go_num, ?_, by rw [HSN.out, List.length_append, hm0]; omega, HB.out⟩, by simp [intOf]; omega⟩
    rw [HSN.out, HNIL.out, List.append_nil]
    exact HO.out
   ·cases hsome
    clear c5
    go_wp2_with (at_builtin; refine wpList_append_own _ rfl (.tmp 13) (.tmp 15) 99 rfl w.heap.size 63 i0 (.int .u64 0) 1 8 Tryz.underlying99 hi hz0 hz1 hz2 rfl (by decide) _ _ _ rfl HO.out ⟨g, 0, none⟩ (fSlices f.body).length sc (u64V (fSlices f.body)) rfl ?d1 ?d0 ?d2 ?d3 ?d4 ?d5 ?_)
    case d1 => exact C5.out.1
    case d0 => intro j u hj; exact C5.out.cells (g := g) rfl j u hj
    case d2 => intro u hu; simp only [u64V, List.mem_map] at hu; obtain ⟨x, _, rfl⟩ := hu; rfl
    case d3 => unfold maxLen; omega
    case d4 => omega
    case d5 => exact hsz2
    intro v2 w2 hown2 hg2 _
    have hbl2 := below_grown HB.out hsz2 HO.out hg2
    have O2 := hid_of hown2
    have B2 := hid_of hbl2
    clear hown2 hbl2 hg2
    go_wp2_with fail
    refine ⟨⟨k + 1, by omega, by go_num, ?_, by rw [HSN.out, List.length_append]; omega, B2.out⟩, by simp [intOf]; omega⟩
    rw [HSN.out, EV.out, List.length_append]
    exact O2.out
  ·obtain rfl : k = fl.length := by omega
   rw [List.take_length] at hown
   have HO := hid_of hown
   have HB := hid_of hbl
   clear hown hbl hlen
   go_wp2_with fail
   go_ret
   exact ⟨_, rfl, HO.out, HB.out⟩
end Go.Proofs.YtonjphollmdicaaGreatDoor
namespace Go.Proofs.YtonjphollmdicaaGreatDoor
open Go.ChangeShapes Go.WideShapes Go.ChangeAt Go.RowKit
open Go.Maps
def takenL (g : FoundL → Option Nat) (l : List FoundL) (N : Nat) : List FoundL := (keysOf g l N).map fun i => (firstOf g l i).getD ⟨0, 0, []⟩
theorem takenL_len (g : FoundL → Option Nat) (l : List FoundL) (N : Nat) : (takenL g l N).length = (keysOf g l N).length := by simp [takenL]
theorem keysOf_some {g : FoundL → Option Nat} {l : List FoundL} {N i : Nat} (h : i ∈ keysOf g l N) : i < N ∧ ∃ f, firstOf g l i = some f := by
 unfold keysOf at h
 rw [List.mem_filter, List.mem_range] at h
 exact ⟨h.1, Option.isSome_iff_exists.1 h.2⟩
theorem firstOf_some {g : FoundL → Option Nat} {l : List FoundL} {i : Nat} {f : FoundL} (h : firstOf g l i = some f) : f ∈ l ∧ g f = some i := by
 unfold firstOf at h
 exact ⟨List.mem_of_find?_eq_some h, by simpa using List.find?_some h⟩
theorem takenL_mem {g : FoundL → Option Nat} {l : List FoundL} {N : Nat} {f : FoundL} (h : f ∈ takenL g l N) : f ∈ l ∧ ∃ i, i < N ∧ g f = some i := by
 unfold takenL at h
 obtain ⟨i, hi, rfl⟩ := List.mem_map.1 h
 obtain ⟨h1, f, hf⟩ := keysOf_some hi
 rw [hf]
 obtain ⟨h2, h3⟩ := firstOf_some hf
 exact ⟨h2, i, h1, h3⟩
theorem flat_get {α : Type} (c : α → List Value) (n : Nat) : ∀ (ks : List α), (∀ x ∈ ks, (c x).length = n) → ∀ (k i : Nat) (h : k < ks.length), i < n → (ks.flatMap c)[k * n + i]? = (c ks[k])[i]?
 | [], _, k, _, h, _ => by simp at h
 | x :: r, hc, 0, i, h, hi => by
  have := hc x (List.mem_cons_self ..)
  rw [List.flatMap_cons, Nat.zero_mul, Nat.zero_add, List.getElem?_append_left (by omega)]
  rfl
 | x :: r, hc, k + 1, i, h, hi => by
  have hx := hc x (List.mem_cons_self ..)
  have e : (k + 1) * n + i = (c x).length + (k * n + i) := by rw [hx, Nat.succ_mul]; omega
  rw [List.flatMap_cons, e, List.getElem?_append_right (by omega), Nat.add_sub_cancel_left]
  exact flat_get c n r (fun y hy => hc y (List.mem_cons_of_mem _ hy)) k i (by simpa using h) hi
theorem FRow_of {w : World} {b0 base N : Nat} {D : DataW Value} {g : FoundL → Option Nat} {l : List FoundL} {v : Value} (h : w.ownsRow b0 143 5 v (keysOf g l N).length (valsAt D (keysOf g l N))) (hk : KMap D g l N (IsFile w base)) : ∃ a c, v = .slice a (takenL g l N).length c ∧ FRow w base a (takenL g l N) := by
 obtain ⟨a, c, rfl, hr⟩ := row_rd h
 refine ⟨a, c, by rw [takenL_len], fun k hk' => ?_⟩
 have hkl : k < (keysOf g l N).length := by rw [← takenL_len]; exact hk'
 have hall : ∀ x ∈ keysOf g l N, (cellsL ((atM D (numK x)).getD undef)).length = 5 := by
  intro x hx
  obtain ⟨_, f, hf⟩ := keysOf_some hx
  obtain ⟨v, hv, a, c, rfl, _⟩ := hk.there x f hf
  rw [hv]
  rfl
 obtain ⟨_, f, hf⟩ := keysOf_some (List.getElem_mem hkl)
 obtain ⟨v, hv, sa, sc, rfl, hrow⟩ := hk.there _ f hf
 have e : (takenL g l N)[k] = f := by simp [takenL, hf]
 rw [e]
 have hget : ∀ i u, (cellsL ((atM D (numK (keysOf g l N)[k])).getD undef))[i]? = some u → i < 5 → ∃ b off, a = some ⟨b, off, none⟩ ∧ w.cell? ⟨b, off + (k * 5 + i), none⟩ = some u := fun i u hu hi =>
  hr (k * 5 + i) u (by unfold valsAt; rw [flat_get _ 5 _ hall k i hkl hi]; exact hu)
 rw [hv] at hget
 obtain ⟨bb, off, rfl, c0⟩ := hget 0 _ rfl (by omega)
 refine ⟨bb, off, sa, sc, rfl, c0, ?_, ?_, ?_, ?_, hrow⟩
 ·obtain ⟨b1, o1, e1, c1⟩ := hget 1 _ rfl (by omega)
  cases e1
  exact c1
 ·obtain ⟨b1, o1, e1, c1⟩ := hget 2 _ rfl (by omega)
  cases e1
  exact c1
 ·obtain ⟨b1, o1, e1, c1⟩ := hget 3 _ rfl (by omega)
  cases e1
  exact c1
 ·obtain ⟨b1, o1, e1, c1⟩ := hget 4 _ rfl (by omega)
  cases e1
  exact c1
theorem FRow.touch {w w' : World} {base : Nat} {a : Option Addr} {fl : List FoundL} (h : FRow w base a fl) {L : List Nat} (ht : Touch L w w') (ha : ∀ bb off, a = some ⟨bb, off, none⟩ → bb ∉ L) (hL : ∀ x ∈ L, x < base) : FRow w' base a fl := fun k hk => by
 obtain ⟨bb, off, sa, sc, e, c0, c1, c2, c3, c4, c5⟩ := h k hk
 have hl := World.block_lt_of_cell? w _ c0
 have hb := ha bb off e
 refine ⟨bb, off, sa, sc, e, ?_, ?_, ?_, ?_, ?_, owns_touch c5 ht hL⟩
 ·rw [ht.cell (x := ⟨bb, off + k * 5, none⟩) hl hb]; exact c0
 ·rw [ht.cell (x := ⟨bb, off + k * 5 + 1, none⟩) hl hb]; exact c1
 ·rw [ht.cell (x := ⟨bb, off + k * 5 + 2, none⟩) hl hb]; exact c2
 ·rw [ht.cell (x := ⟨bb, off + k * 5 + 3, none⟩) hl hb]; exact c3
 ·rw [ht.cell (x := ⟨bb, off + k * 5 + 4, none⟩) hl hb]; exact c4
theorem own_block_le {w : World} {base : Nat} {e : TypeId} {sz : Nat} {a : Option Addr} {n c : Nat} {xs : List Value} (h : w.ownsRow base e sz (.slice a n c) n xs) : ∀ bb off, a = some ⟨bb, off, none⟩ → base ≤ bb := by
 rintro bb off rfl
 exact (h.lt bb rfl).1
theorem chief_bounds {l : List FoundL} {f : FoundL} (h : chiefL l = some f) : f ∈ l ∧ mainRight f.body = true ∧ 1 ≤ (mainFiles f.body).length ∧ (mainFiles f.body).length ≤ 6 ∧ 2 ≤ mainSize f.body ∧ mainSize f.body ≤ 32 := by
 have hm : f ∈ l := List.mem_of_find?_eq_some h
 have hc : isChief f = true := List.find?_some h
 rw [isChief_eq] at hc
 simp only [Bool.and_eq_true] at hc
 have hr := hc.1.2
 obtain ⟨_, h2, h3, h4, _, h6⟩ := mainFiles_eq hr
 unfold sliceSize at h6
 rw [decide_eq_true_eq] at h6
 refine ⟨hm, hr, ?_, ?_, by omega, by omega⟩
 ·rw [h2]; simpa using h3
 ·rw [h2]; simpa using h4
theorem fSlices_lt (b : List UInt8) : ∀ h ∈ fSlices b, h < P64 := by
 intro h hh
 unfold fSlices hshL at hh
 obtain ⟨i, _, rfl⟩ := List.mem_map.1 hh
 exact numL_lt _
theorem taken_bounds {m : MainL} {l : List FoundL} {N : Nat} (h2 : 2 ≤ m.size) {f : FoundL} (h : f ∈ takenL (takesF m) l N) : (fName f.body).length ≤ 20 ∧ 1 ≤ (fName f.body).length ∧ fLong f.body ≤ 400 ∧ (fSlices f.body).length ≤ 200 ∧ f ∈ l ∧ fRight f.body m.size = true := by
 obtain ⟨hl, i, _, hi⟩ := takenL_mem h
 unfold takesF at hi
 split at hi
 ·rename_i hc
  have hr := hc.2.1
  have hr' := hr
  unfold fRight at hr
  simp only [Bool.and_eq_true, decide_eq_true_eq] at hr
  obtain ⟨⟨⟨⟨_, h3⟩, h4⟩, h5⟩, h6⟩ := hr
  refine ⟨h4, h3, h5, ?_, hl, hr'⟩
  rw [h6]
  unfold slicesOfN
  have : (fLong f.body + m.size - 1) / m.size ≤ 200 := by
   have h7 : fLong f.body + m.size - 1 ≤ 200 * m.size + (m.size - 1) := by omega
   have h8 := Nat.div_le_div_right (c := m.size) h7
   have h9 : (200 * m.size + (m.size - 1)) / m.size = 200 := by
    rw [Nat.add_comm, Nat.mul_comm, Nat.add_mul_div_left _ _ (by omega), Nat.div_eq_of_lt (by omega), Nat.zero_add]
   omega
  exact this
 ·cases hi
end Go.Proofs.YtonjphollmdicaaGreatDoor
namespace Go.Proofs.YtonjphollmdicaaGreatDoor
open Go.ChangeShapes Go.WideShapes Go.ChangeAt Go.RowKit
def handable (fs : List FileL) (vs : List (List UInt8)) : Bool := decide (fs.length ≤ 12) && decide (vs.length ≤ 40) && fs.all (fun f => decide (f.2.length ≤ 400)) && vs.all (fun v => decide (v.length ≤ 4000))
set_option linter.unusedSimpArgs false in
set_option maxRecDepth 100000 in
set_option maxHeartbeats 2000000 in
theorem areHandable_walk (fs : List FileL) (vs : List (List UInt8)) (a b : Option Addr) (ca cb : Nat) (w : World) (hfa : Rd w a (filesV fs)) (hvb : Rd w b (strV vs)) :
  Calls Tryz.prog 75 #[.slice a fs.length ca, .slice b vs.length cb] w fun e w' => e = .returned (.bool (handable fs vs)) ∧ Below w.heap.size w w' := by
 obtain ⟨R, hR⟩ : ∃ R, R = handable fs vs := ⟨_, rfl⟩
 rw [← hR]
 have HR := hid_of hR
 have HFA := hid_of hfa
 have HVB := hid_of hvb
 clear hR hfa hvb
 by_cases c1 : fs.length ≤ 12
 ·by_cases c2 : vs.length ≤ 40
  ·have e1 : ¬ ((12 : Int) < (fs.length : Int)) := by omega
   have e2 : ¬ ((40 : Int) < (vs.length : Int)) := by omega
   have HR1 : Hid (R = (fs.all (fun f => decide (f.2.length ≤ 400)) && vs.all (fun v => decide (v.length ≤ 4000)))) := hid_of (by rw [HR.out]; unfold handable; rw [decide_eq_true c1, decide_eq_true c2]; rfl)
   clear HR
   go_enter Tryz.func75, Tryz.ntmps75
   go_wp2_with fail
   go_loopw [19] (fun i W => ∃ k : Nat, k ≤ fs.length ∧ i = .int .i64 (k : Int) ∧ Hid (R = ((fs.drop k).all (fun f => decide (f.2.length ≤ 400)) && vs.all (fun v => decide (v.length ≤ 4000)))) ∧ Below w.heap.size w W)
    (fun i _ => fs.length - (intOf i).toNat)
   case atStart => exact ⟨0, by omega, rfl, HR1, Below.refl _ _⟩
   case round =>
    clear HR1
    obtain ⟨k, hk, rfl, HC, hbl⟩ := hrel
    by_cases hlt : k < fs.length
    ·obtain ⟨bb, off, rfl, d0, d1⟩ := fileCells HFA.out (Nat.le_refl _) hbl k hlt
     have hdr : fs.drop k = fs[k] :: fs.drop (k + 1) := List.drop_eq_getElem_cons hlt
     obtain ⟨f, hf⟩ : ∃ f, f = fs[k] := ⟨_, rfl⟩
     rw [← hf] at d0 d1 hdr
     have hs1 := str_size f.2
     have HB := hid_of hbl
     have hsz := hbl.size
     clear hf hbl
     by_cases q : f.2.length ≤ 400
     ·have g1 : ¬ ((400 : Int) < (f.2.length : Int)) := by omega
      have HC2 : Hid (R = ((fs.drop (k + 1)).all (fun f => decide (f.2.length ≤ 400)) && vs.all (fun v => decide (v.length ≤ 4000)))) := hid_of (by rw [HC.out, hdr, List.all_cons, decide_eq_true q]; rfl)
      clear HC hdr q
      go_wp2_with fail
      exact ⟨⟨k + 1, by omega, by go_num, HC2, HB.out.alloc hsz _⟩, by simp [intOf]; omega⟩
     ·have g1 : (400 : Int) < (f.2.length : Int) := by omega
      have HC2 : Hid (R = false) := hid_of (by rw [HC.out, hdr, List.all_cons, decide_eq_false q]; rfl)
      clear HC hdr q
      go_wp2_with fail
      go_ret
      exact ⟨by rw [HC2.out]; rfl, HB.out.alloc hsz _⟩
    ·obtain rfl : fs.length = k := by omega
     have HC2 : Hid (R = vs.all (fun v => decide (v.length ≤ 4000))) := hid_of (by rw [HC.out, List.drop_length]; rfl)
     have HB := hid_of hbl
     clear HC hbl
     go_wp2_with fail
     go_loopw [30] (fun i W => ∃ k : Nat, k ≤ vs.length ∧ i = .int .i64 (k : Int) ∧ Hid (R = (vs.drop k).all (fun v => decide (v.length ≤ 4000))) ∧ Below w.heap.size w W)
      (fun i _ => vs.length - (intOf i).toNat)
     case atStart => exact ⟨0, by omega, rfl, HC2, HB.out⟩
     case round =>
      clear HC2 HB
      obtain ⟨k, hk, rfl, HC, hbl⟩ := hrel
      by_cases hlt : k < vs.length
      ·obtain ⟨bb, off, rfl, hc0⟩ := HVB.out k (.string (str vs[k])) (by simp [strV, hlt])
       have d1 : wr.cell? ⟨bb, off + k, none⟩ = some (.string (str vs[k])) := by rw [hbl.cell (World.block_lt_of_cell? w _ hc0)]; exact hc0
       have hdr : vs.drop k = vs[k] :: vs.drop (k + 1) := List.drop_eq_getElem_cons hlt
       obtain ⟨f, hf⟩ : ∃ f, f = vs[k] := ⟨_, rfl⟩
       rw [← hf] at d1 hdr
       have hs1 := str_size f
       have HB := hid_of hbl
       clear hf hbl hc0
       by_cases q : f.length ≤ 4000
       ·have g1 : ¬ ((4000 : Int) < (f.length : Int)) := by omega
        have HC2 : Hid (R = (vs.drop (k + 1)).all (fun v => decide (v.length ≤ 4000))) := hid_of (by rw [HC.out, hdr, List.all_cons, decide_eq_true q]; rfl)
        clear HC hdr q
        go_wp2_with fail
        exact ⟨⟨k + 1, by omega, by go_num, HC2, HB.out⟩, by simp [intOf]; omega⟩
       ·have g1 : (4000 : Int) < (f.length : Int) := by omega
        have HC2 : Hid (R = false) := hid_of (by rw [HC.out, hdr, List.all_cons, decide_eq_false q]; rfl)
        clear HC hdr q
        go_wp2_with fail
        go_ret
        exact ⟨by rw [HC2.out]; rfl, HB.out⟩
      ·obtain rfl : vs.length = k := by omega
       have HC2 : Hid (R = true) := hid_of (by rw [HC.out, List.drop_length]; rfl)
       have HB := hid_of hbl
       clear HC hbl
       go_wp2_with fail
       go_ret
       exact ⟨by rw [HC2.out]; rfl, HB.out⟩
  ·have e1 : ¬ ((12 : Int) < (fs.length : Int)) := by omega
   have e2 : (40 : Int) < (vs.length : Int) := by omega
   have HR1 : Hid (R = false) := hid_of (by rw [HR.out]; unfold handable; rw [decide_eq_false c2]; simp)
   clear HR
   go_enter Tryz.func75, Tryz.ntmps75
   go_wp2_with fail
   go_ret
   exact ⟨by rw [HR1.out]; rfl, Below.refl _ _⟩
 ·have e1 : (12 : Int) < (fs.length : Int) := by omega
  have HR1 : Hid (R = false) := hid_of (by rw [HR.out]; unfold handable; rw [decide_eq_false c1]; simp)
  clear HR
  go_enter Tryz.func75, Tryz.ntmps75
  go_wp2_with fail
  go_ret
  exact ⟨by rw [HR1.out]; rfl, Below.refl _ _⟩
end Go.Proofs.YtonjphollmdicaaGreatDoor
namespace Go.Proofs.YtonjphollmdicaaGreatDoor
open Go.ChangeShapes Go.WideShapes Go.ChangeAt Go.RowKit
open Go.Maps
theorem Tryz.lawStr : Keyed Tryz.prog 9 := string_keyed Tryz.underlying9
def diffs (l : List (List UInt8)) : Nat := ((List.range l.length).filter fun i => decide (l.getD i [] ∉ l.take i)).length
theorem diffs_snoc (l : List (List UInt8)) (x : List UInt8) : diffs (l ++ [x]) = diffs l + if x ∈ l then 0 else 1 := by
 unfold diffs
 rw [List.length_append, List.length_cons, List.length_nil, List.range_succ, List.filter_append, List.length_append]
 have e1 : (List.range l.length).filter (fun i => decide ((l ++ [x]).getD i [] ∉ (l ++ [x]).take i)) = (List.range l.length).filter (fun i => decide (l.getD i [] ∉ l.take i)) := List.filter_congr (fun i hi => by
  rw [List.mem_range] at hi
  have h1 : (l ++ [x]).getD i [] = l.getD i [] := by simp [List.getD_eq_getElem?_getD, List.getElem?_append_left hi]
  have h2 : (l ++ [x]).take i = l.take i := by rw [List.take_append_of_le_length (by omega)]
  rw [h1, h2])
 have e2 : (l ++ [x]).getD l.length [] = x := by simp [List.getD_eq_getElem?_getD]
 have e3 : (l ++ [x]).take l.length = l := by simp
 rw [e1, List.filter_cons, e2, e3]
 by_cases h : x ∈ l
 ·simp [h]
 ·simp [h]
set_option linter.unusedSimpArgs false in
set_option maxRecDepth 100000 in
set_option maxHeartbeats 2000000 in
theorem shareName_walk (fl : List FoundL) (base : Nat) (a : Option Addr) (cap : Nat) (hn : fl.length ≤ 1000) (hs : ∀ f ∈ fl, (fName f.body).length ≤ 1000) (w : World) (hf : FRow w base a fl) :
  Calls Tryz.prog 79 #[.slice a fl.length cap] w fun e w' => e = .returned (.bool (decide (diffs (fl.map fun f => fName f.body) < fl.length))) ∧ Below w.heap.size w w' := by
 have HF := hid_of hf
 have HSL := hid_of hs
 have hmm := @run_makeMap Tryz.prog
 clear hf hs
 obtain ⟨R, hR⟩ : ∃ R, R = decide (diffs (fl.map fun f => fName f.body) < fl.length) := ⟨_, rfl⟩
 rw [← hR]
 have HR := hid_of hR
 clear hR
 go_enter Tryz.func79, Tryz.ntmps79
 go_wp2_with fail
 have hm0 := World.ownsMap_made (H := Value) w Tryz.prog 9 rawE
 have HM0 := hid_of hm0
 clear hm0 hmm
 go_loopw [9] (fun i W => ∃ (k : Nat) (D : DataW Value), k ≤ fl.length ∧ i = .int .i64 (k : Int) ∧ W.ownsMap Tryz.prog 9 rawE w.heap.size k D ∧ Hid (∀ x, Maps.has D (.string x) = decide (x ∈ (fl.take k).map fun f => fName f.body)) ∧ Hid (Maps.size D = diffs ((fl.take k).map fun f => fName f.body)) ∧ Below w.heap.size w W)
  (fun i _ => fl.length - (intOf i).toNat)
 case atStart => exact ⟨0, _, by omega, rfl, HM0.out, hid_of (fun x => by simp [Maps.has]), hid_of (by simp [Maps.size, diffs]), (Below.refl _ _).alloc (Nat.le_refl _) _⟩
 case round =>
  clear HM0
  obtain ⟨k, D, hk, rfl, hm, HH, HZ, hbl⟩ := hrel
  have hsz := hbl.size
  by_cases hlt : k < fl.length
  ·have hfr := HF.out.later hbl
   obtain ⟨bb, off, sa, sc, rfl, c0, c1, c2, c3, c4, c5⟩ := hfr k hlt
   have hsl := HSL.out fl[k] (List.getElem_mem hlt)
   have hsn : (fl.take (k + 1)).map (fun f => fName f.body) = (fl.take k).map (fun f => fName f.body) ++ [fName fl[k].body] := by rw [take_snoc fl k hlt, List.map_append]; rfl
   obtain ⟨f, hf⟩ : ∃ f, f = fl[k] := ⟨_, rfl⟩
   rw [← hf] at c0 c1 c2 c3 c4 c5 hsl hsn
   have hkey : keyOf Tryz.prog 9 (.string (str (fName f.body))) = some (.string (fName f.body)) := by
    have := Go.WideMaps.keyOf_string_mk (P := Tryz.prog) (k := 9) Tryz.underlying9 (s := str (fName f.body)) (by rw [str_size]; unfold maxLen; omega)
    simpa [str] using this
   have HKEY := hid_of hkey
   have HSN := hid_of hsn
   have HB := hid_of (hbl.alloc hsz (Obj.cells #[Value.int .i64 (fNumber f.body : Int), .string (str (fName f.body)), .int .i64 (fLong f.body : Int), .int .u64 (fHash f.body : Int), .slice sa (fSlices f.body).length sc] 143))
   have HM := hid_of (hm.alloc (Obj.cells #[Value.int .i64 (fNumber f.body : Int), .string (str (fName f.body)), .int .i64 (fLong f.body : Int), .int .u64 (fHash f.body : Int), .slice sa (fSlices f.body).length sc] 143))
   have hT := hm.tidy Tryz.lawStr
   have HT := hid_of hT
   have hsz2 : w.heap.size ≤ (wr.alloc (Obj.cells #[Value.int .i64 (fNumber f.body : Int), .string (str (fName f.body)), .int .i64 (fLong f.body : Int), .int .u64 (fHash f.body : Int), .slice sa (fSlices f.body).length sc] 143)).heap.size := by simp; omega
   clear hm hbl hf hfr hsn hkey hT c5
   go_wp2_with (at_mapUpdate; refine wpList_store _ rfl _ _ _ 184 rfl 9 3 Tryz.lawStr Tryz.underlying184 w.heap.size k D rfl HM.out (by unfold maxLen; omega) _ _ _ rfl rfl HKEY.out ?_)
   intro w2 hm2 ht2
   have B2 := hid_of (HB.out.trans (ht2.below hsz2 (by simp)))
   have M2 := hid_of hm2
   clear hm2 ht2 HM HB
   go_wp2_with fail
   refine ⟨⟨k + 1, _, by omega, by go_num, M2.out, hid_of (fun x => ?_), hid_of ?_, B2.out⟩, by simp [intOf]; omega⟩
   ·rw [HSN.out]
    by_cases c : x = fName f.body
    ·subst c
     rw [Maps.has_put_same HT.out.isMap (by trivial)]
     simp
    ·rw [Maps.has_put_other (by simpa using c), HH.out]
     simp [c]
   ·rw [HSN.out, diffs_snoc, Maps.size_put HT.out, HH.out, HZ.out]
    by_cases c : fName f.body ∈ (fl.take k).map (fun f => fName f.body)
    ·simp only [c, decide_true, if_true]; rfl
    ·simp only [c, decide_false, if_false]; rfl
  ·obtain rfl : k = fl.length := by omega
   have hlen := hm.len (ty := 3) Tryz.underlying184
   have hz := HZ.out
   rw [List.take_length] at hz
   have hb : R = decide (Maps.size D < fl.length) := by rw [HR.out, ← hz]
   have HBB := hid_of hb
   have HB := hid_of hbl
   clear hm hbl hz hb HH HZ
   go_wp2_with fail
   go_ret
   exact ⟨by rw [HBB.out]; rfl, HB.out⟩
end Go.Proofs.YtonjphollmdicaaGreatDoor
namespace Go.Proofs.YtonjphollmdicaaGreatDoor
open Go.ChangeShapes Go.WideShapes Go.ChangeAt Go.RowKit
end Go.Proofs.YtonjphollmdicaaGreatDoor
