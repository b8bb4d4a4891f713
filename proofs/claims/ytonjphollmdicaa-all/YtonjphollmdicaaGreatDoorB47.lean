import Derived.Test.YtonjphollmdicaaGreatDoorB17
import Derived.Test.YtonjphollmdicaaGreatDoorB40
import Derived.Test.YtonjphollmdicaaGreatDoorB46
import Derived.Test.YtonjphollmdicaaGreatDoorCards
import Derived.Test.YtonjphollmdicaaGreatDoorTie
import Derived.Deep.DeepHandedRow
set_option maxRecDepth 100000
set_option maxHeartbeats 4000000
set_option linter.unusedSimpArgs false
namespace Go.Proofs.YtonjphollmdicaaGreatDoor
open Go.ChangeShapes Go.WideShapes Go.ChangeAt Go.RowKit
theorem OpD.ok.later {o : OpD} {w w' : World} (h : o.ok w) (hb : Below w.heap.size w w') : o.ok w' :=
 ⟨h.a, h.b, h.h0.later hb, h.n0, h.e0, h.h1.later hb, h.n1, h.e1, h.vr.later (Nat.le_refl _) hb, h.vn, h.vl, h.pr.later hb, h.pl, h.pn⟩
theorem Ra {w : World} {base B : Nat} {rs : Nat → Value} {T : Nat → List Value} {M : Nat → List Int} (hbk : BookI w base B (· < w.heap.size) rs T M) (hMs : ∀ j, j < 4 → (M j).length + 4 ≤ 4398046511104) (hK : Kinds w) (o : OpD) (ho : o.ok w) :
  Calls Tryz.prog 34 #[.pointer (some ⟨B, 0, none⟩), .agg #[.int .i64 o.kind, .int .u16 (o.a : Int), .int .u16 (o.b : Int), .slice o.sa o.fs0.length o.sc, .int .i64 o.bx, .int .i64 o.ex, .slice o.fa o.fs.length o.fc, .slice o.va o.vs.length o.vc, .slice o.pa o.pk.length o.pc]] w (Es w base B M) := by
 by_cases k1 : o.kind = 1
 ·rw [k1]
  exact NU hbk o.a o.b ho.a ho.b _ _ _ _ _ _
 ·by_cases k2 : o.kind = 2
  ·rw [k2]
   exact Mx o.a o.b o.fs0 o.bx o.ex o.sa o.sc _ _ _ ho.e0 ho.n0 w hbk hMs ho.h0
  ·by_cases k3 : o.kind = 3
   ·rw [k3]
    exact Qa o.a o.b o.fs0 o.fs o.bx o.ex o.vs o.pk o.sa o.fa o.va o.pa o.sc o.fc o.vc o.pc ho.n1 ho.e1 ho.vn ho.vl ho.pl ho.pn w hbk hMs hK ho.h0 ho.h1 ho.vr ho.pr
   ·by_cases k4 : o.kind = 4
    ·rw [k4]
     exact ME o.a o.b o.fs0 o.fs o.bx o.ex o.vs o.pk o.sa o.fa o.va o.pa o.sc o.fc o.vc o.pc ho.n1 ho.e1 ho.vn ho.vl ho.pl ho.pn w hbk hMs hK ho.h0 ho.h1 ho.vr ho.pr
    ·exact P9 hbk o.kind k1 k2 k3 k4 _ _ _ _ _ _ _ _
def Lq : Array Value := #[.slice none 0 0, .slice none 0 0, .slice none 0 0, .slice none 0 0, .slice none 0 0, .slice none 0 0, .slice none 0 0, .slice none 0 0]
theorem Rp (w : World) : BookI (w.alloc (.cells Lq 78)) w.heap.size w.heap.size (· < (w.alloc (.cells Lq 78)).heap.size) (fun _ => .slice none 0 0) (fun _ => []) (fun _ => []) where
 blk := Blk.new w Lq _
 lo := Nat.le_refl _
 hi := by simp
 le := fun _ h => h
 apart := fun i j k _ _ _ h => by cases h
 off := fun i k _ h => by cases h
 rowT := fun j _ => World.ownsRow_nil _ _ _ _
 rowM := fun j _ => World.ownsRow_nil _ _ _ _
 len := fun j _ => rfl
 rng := fun j m _ h => by cases h
 good := fun j i v m _ h => by simp at h
theorem RE (l : List OpD) (sa : Option Addr) (cap : Nat) (hl : l.length * 128 ≤ 140737488351232) (w : World) (hK : Kinds w) (hr : SG w sa l) :
  Calls Tryz.prog 8 #[.slice sa l.length cap] w fun e w' => e = .returned (.bool true) ∧ Below w.heap.size w w' := by
 have HK := Aa hK
 have HR := Aa hr
 have h0 := hK.lt
 clear hK hr
 obtain ⟨N, hN⟩ : ∃ x, x = l.length := ⟨_, rfl⟩
 have HN := Aa hN
 rw [← hN] at hl ⊢
 clear hN
 have hsz0 : w.heap.size < (w.alloc (.cells Lq 78)).heap.size := by simp
 have HB0 := Aa (show Below w.heap.size w (w.alloc (.cells Lq 78)) from (Below.refl _ _).alloc (Nat.le_refl _) _)
 have HK0 := Aa (Rp w)
 go_enter Tryz.func8, Tryz.ntmps8
 go_wp2_with fail
 refine (OO _).mono ?_
 rintro e w1 ⟨rfl, hb1⟩
 have HB1 := Aa (Below.next HB0.out hb1)
 have HK1 := Aa ((HK0.out.later (fun _ hk => hk) hb1).mono (F' := (· < w1.heap.size)) (fun k hk => Nat.lt_of_lt_of_le hk hb1.size) (fun _ hk => hk))
 clear hb1 HB0 HK0 hsz0
 go_wp2_with fail
 go_loopw [4, 5] (fun ok ii W => ∃ (k : Nat) (rs : Nat → Value) (T : Nat → List Value) (M : Nat → List Int), k ≤ N ∧ ok = .bool true ∧ ii = .int .i64 (k : Int) ∧ Hid (BookI W w.heap.size w.heap.size (· < W.heap.size) rs T M) ∧ Hid (∀ j, (M j).length ≤ 4 * k) ∧ Hid (Below w.heap.size w W))
  (fun _ ii _ => N - (intOf ii).toNat)
 case atStart => exact ⟨0, _, _, _, by omega, rfl, rfl, HK1, Aa (fun _ => by simp), HB1⟩
 case round =>
  clear HB1 HK1
  obtain ⟨k, rs, T, M, hk, rfl, rfl, HBK, HM, HB⟩ := hrel
  by_cases hlt : k < N
  ·have hkl : k < l.length := by rw [← HN.out]; exact hlt
   obtain ⟨ho, sb, off, rfl, hc⟩ := HR.out k l[k] (List.getElem?_eq_getElem hkl)
   have hst := Ra HBK.out (fun j _ => by have := HM.out j; omega) (HK.out.later HB.out h0) l[k] (ho.later HB.out)
   have hcw : ∀ (q : Nat) (u : Value), (l[k]).cells[q]? = some u → wr.cell? ⟨sb, off + k * 9 + q, none⟩ = some u := fun q u hq => by
    rw [HB.out.cell (World.block_lt_of_cell? w _ (hc q u hq))]
    exact hc q u hq
   have d0 := hcw 0 _ rfl
   have d1 := hcw 1 _ rfl
   have d2 := hcw 2 _ rfl
   have d3 := hcw 3 _ rfl
   have d4 := hcw 4 _ rfl
   have d5 := hcw 5 _ rfl
   have d6 := hcw 6 _ rfl
   have d7 := hcw 7 _ rfl
   have d8 := hcw 8 _ rfl
   rw [Nat.add_zero] at d0
   have HST := Aa hst
   obtain ⟨o, hoe⟩ : ∃ o, o = l[k] := ⟨_, rfl⟩
   rw [← hoe] at d0 d1 d2 d3 d4 d5 d6 d7 d8 HST
   clear hc hcw hst ho hoe
   go_wp2_with fail
   refine HST.out.mono ?_
   rintro e w2 ⟨rfl, hb2, rs', T', M', hbk', hlen⟩
   have HB2 := Aa (HB.out.trans hb2)
   have HBK2 := Aa hbk'
   have HM2 : Hid (∀ j, (M' j).length ≤ 4 * (k + 1)) := Aa (fun j => by have := hlen j; have := HM.out j; omega)
   clear hb2 hbk' hlen HST HM HBK HB d0 d1 d2 d3 d4 d5 d6 d7 d8
   go_wp2_with fail
   refine (Du HBK2.out (fun j _ => by have := HM2.out j; omega)).mono ?_
   rintro e w3 ⟨rfl, hb3⟩
   have HB3 := Aa (HB2.out.trans (hb3.mono HB2.out.size))
   have HBK3 := Aa ((HBK2.out.later (fun _ hk => hk) hb3).mono (F' := (· < w3.heap.size)) (fun k hk => Nat.lt_of_lt_of_le hk hb3.size) (fun _ hk => hk))
   clear hb3 HB2 HBK2
   go_wp2_with fail
   exact ⟨⟨k + 1, _, _, _, by omega, rfl, by go_num, HBK3, HM2, HB3⟩, by simp [intOf]; omega⟩
  ·obtain rfl : k = N := by omega
   go_wp2_with fail
   go_ret
   exact ⟨rfl, HB.out⟩
end Go.Proofs.YtonjphollmdicaaGreatDoor
namespace Go.Proofs.YtonjphollmdicaaGreatDoor.all
open Go.ChangeShapes Go.WideShapes Go.ChangeAt Go.RowKit
open Go.Joins Go.Deep
set_option linter.unusedVariables false
theorem own : ownKnob Tryz.prog.godebug = none := by kernel_rfl
theorem RW : laidOutB Tryz.prog = true := by kernel_rfl
noncomputable def Ir (os : Os) : World :=
 { World.holding Tryz.prog os ⟨#[], #[], []⟩ with heap := (World.holding Tryz.prog os ⟨#[], #[], []⟩).heap.modify 0 fun
   | .cells _ t frozen => .cells #[.int .u8 77, .func (.func 185) #[] #[], .int .u8 70, .func (.func 186) #[] #[], .int .u8 82, .func (.func 187) #[] #[]] t frozen
   | o => o }
def Nw : Value := .slice none 0 0
theorem Rs (os : Os) : laidMetH Tryz.prog Rows.allRow.laid ((Ir os).forCall (fun _ _ => 0) ⟨#[], #[Nw], []⟩).memory :=
 laidMetH_of_parts3 (fuel := 8) (laidMet_of_run' 8 (by kernel_rfl) (by kernel_rfl)) (by kernel_rfl) (by kernel_rfl)
theorem SW (os : Os) {H : Type} (enc : TypeId × Value → H) : ∃ places, DataW.whole enc Tryz.prog ((Ir os).forCall (fun _ _ => 0) ⟨#[], #[Nw], []⟩).memory Tryz.f8.params.toList Rows.allSpec.vars false #[Nw].toList 8 = some ([.nil], [], places) :=
 ⟨[], by kernel_rfl⟩
theorem SF (os : Os) (started : os.Started) (H : Type) (enc : TypeId × Value → H) (F : Stop.Interp) :
  ReturnsInHanded {} Tryz.checked os 8 .any ((OpenSpec.ofChange Rows.allSpec).preRow enc Tryz.prog Tryz.f8 Rows.allRow.domain false Rows.allRow.laid) (((OpenSpec.ofChange Rows.allSpec).at F).post enc Tryz.prog Tryz.f8 false true false false) := by
 obtain ⟨places, hx⟩ := SW os enc
 refine returnsInHanded_of_row (C := Tryz.checked) (s := OpenSpec.ofChange Rows.allSpec) own started (by kernel_rfl) Tryz.func8
  (witness_row_at (enc := enc) (C := Tryz.checked) false (Ir os) #[Nw] rfl (by kernel_rfl) (by kernel_rfl) (by kernel_rfl)
   (OpenSpec.preRow_of_cond 8 hx (by kernel_rfl) (fun k hk => by cases hk) (by kernel_rfl) (Rs os))) ?_
 intro W base args ds gs before hval0 hW _ _ hsz0 hL _ _
 have hval : ∀ (j : Nat) t v, Tryz.f8.params[j]? = some t → args[j]? = some v → Value.okWide Tryz.prog W .any base t v := hval0
 have hsz : (DataW.weightsEach Tryz.prog (Tryz.f8.params.toList ++ Rows.allSpec.plain.varTypes Tryz.prog) (ds ++ gs)).all (· ≤ reachBytes) = true := hsz0
 have hW' := hW
 obtain ⟨p, q, hA0, hV, rfl, hfz, hnd⟩ := hW
 have hA : DataW.TrodAll enc Tryz.prog W 0 (fun _ => true) true Tryz.f8.params.toList args.toList ds p := hA0
 rw [Tryz.params8] at hA hval hsz
 obtain ⟨v0, vs0, d0, ds0, p0, q0, hargs, rfl, rfl, h0, r0⟩ := trodAll_cons hA
 obtain ⟨rfl, rfl, rfl⟩ := trodAll_nil r0
 obtain rfl : args = #[v0] := by cases args; simp_all
 obtain ⟨rfl, rfl⟩ := trodVars_none hV
 have k0 := h0
 have lt0 : ∀ x ∈ p0, x.block < W.heap.size := by obtain ⟨m, hm⟩ := k0; exact DataW.trod_lt m _ _ _ hm
 have hbulk : E0 71 d0 := fun n hn => by
  have := List.all_eq_true.1 hsz n (by
   simp only [List.cons_append, List.nil_append, DataW.weightsEach]
   exact List.mem_append_left _ hn)
  exact (of_decide_eq_true this : n ≤ reachBytes)
 obtain ⟨a0, len0, cap0, rfl⟩ := okWide_slice Tryz.underlying71 (hval 0 71 _ rfl rfl)
 obtain ⟨fuel, hf⟩ := h0
 obtain ⟨l, sa, cap, hcs, hrd, hll⟩ := QR (c := .slice a0 len0 cap0) (x := (d0, p0)) Tryz.underlying71 (by simpa [Value.cells] using hf) hbulk
 cases hcs
 have hK : Kinds W := Rk hL
 clear hA0 hval0 hbulk hsz hsz0
 refine (RE l a0 cap0 hll W hK hrd).mono fun e W' ⟨he, bel⟩ => ?_
 subst he
 exact ⟨_, rfl, _, _, _, [], _, [], hW', trodAll_mk1 (shut_bool Tryz.underlying4 _), trodAll_mk1 (Below.trod RW (by kernel_rfl) (of_decide_eq_true (by kernel_rfl)) k0 bel lt0), rfl, bel.frame _, fun h => by cases h⟩
theorem said : Rows.AllSaid :=
 OpenClaim.holds_of_cond 8 Tryz.f8 rfl rfl rfl rfl rfl rfl rfl ⟨rfl, rfl, rfl, rfl, rfl⟩ rfl rfl rfl rfl rfl (by kernel_rfl) Tryz.func8 (by kernel_rfl)
  (of_decide_eq_true (by kernel_rfl)) (by unfold Func.isWrapper; first | (rw [if_pos (by decide +kernel)]; kernel_rfl) | (rw [if_neg (by decide +kernel)]; exact ⟨rfl, rfl⟩))
  (fun os started H enc _ F => by rw [OpenClaim.pre_eq_preRow]; exact SF os started H enc F)
theorem plain (f : FuncId) (fn : Func) (hf : Tryz.pinned.checked.prog.funcNamed "salvage/salvagelaw.All" = some f) (hfn : Tryz.pinned.checked.prog.funcs[f]? = some fn) :
  false = Tryz.pinned.checked.prog.looks [] ∧ ∀ (j : Nat) t, fn.params[j]? = some t → Tryz.pinned.checked.prog.wantsStandIn t = false := by
 obtain rfl : f = 8 := Option.some.inj ((show Tryz.prog.funcNamed "salvage/salvagelaw.All" = some 8 by kernel_rfl).symm.trans hf) |>.symm
 obtain rfl : fn = Tryz.f8 := (Option.some.inj (Tryz.func8.symm.trans hfn)).symm
 refine ⟨by kernel_rfl, fun j t ht => ?_⟩
 rw [Tryz.params8] at ht
 obtain rfl : t = 71 := by simpa using Array.mem_of_getElem? ht
 exact (show Tryz.prog.wantsStandIn 71 = false by kernel_rfl)
end Go.Proofs.YtonjphollmdicaaGreatDoor.all
namespace Go.Proofs.YtonjphollmdicaaGreatDoor
open Go
theorem all_holds : Rows.AllCardSaid :=
 Claim7.holds_tied_plain_at .later [] _ _ _ _ all.said (fun _ h => by cases h) (by kernel_rfl) (fun _ h => by cases h) all_row_tie rfl ⟨rfl, rfl⟩ (by kernel_rfl) rfl all.plain (by kernel_rfl)
#print axioms all_holds
end Go.Proofs.YtonjphollmdicaaGreatDoor
