import Derived.Test.YtonjphollmdicaaGreatDoorB01
import Derived.Test.YtonjphollmdicaaGreatDoorB03
import Derived.Test.YtonjphollmdicaaGreatDoorB26
import Derived.Test.YtonjphollmdicaaGreatDoorB27
set_option maxRecDepth 100000
set_option maxHeartbeats 4000000
set_option linter.unusedSimpArgs false
namespace Go.Proofs.YtonjphollmdicaaGreatDoor
open Go.ChangeShapes Go.WideShapes Go.ChangeAt Go.RowKit
open Go.Maps
def FRow (w : World) (base : Nat) (a : Option Addr) (fl : List FoundL) : Prop := ∀ k (h : k < fl.length), ∃ bb off sa sc, a = some ⟨bb, off, none⟩ ∧
 w.cell? ⟨bb, off + k * 5, none⟩ = some (.int .i64 (Av fl[k].body : Int)) ∧ w.cell? ⟨bb, off + k * 5 + 1, none⟩ = some (.string (str (AW fl[k].body))) ∧ w.cell? ⟨bb, off + k * 5 + 2, none⟩ = some (.int .i64 (Bh fl[k].body : Int)) ∧
 w.cell? ⟨bb, off + k * 5 + 3, none⟩ = some (.int .u64 (BQ fl[k].body : Int)) ∧ w.cell? ⟨bb, off + k * 5 + 4, none⟩ = some (.slice sa (Ai fl[k].body).length sc) ∧ w.ownsRow base 63 1 (.slice sa (Ai fl[k].body).length sc) (Ai fl[k].body).length (Cz (Ai fl[k].body))
theorem FRow.later {w w' : World} {base : Nat} {a : Option Addr} {fl : List FoundL} (h : FRow w base a fl) (hb : Below w.heap.size w w') : FRow w' base a fl := fun k hk => by
 obtain ⟨bb, off, sa, sc, e, c0, c1, c2, c3, c4, c5⟩ := h k hk
 have hl := World.block_lt_of_cell? w _ c0
 refine ⟨bb, off, sa, sc, e, ?_, ?_, ?_, ?_, ?_, Ab c5 (Nat.le_refl _) hb⟩
 ·rw [hb.cell hl]; exact c0
 ·rw [hb.cell (show bb < w.heap.size from hl)]; exact c1
 ·rw [hb.cell (show bb < w.heap.size from hl)]; exact c2
 ·rw [hb.cell (show bb < w.heap.size from hl)]; exact c3
 ·rw [hb.cell (show bb < w.heap.size from hl)]; exact c4
theorem Hk (fl : List FoundL) (base : Nat) (a : Option Addr) (cap : Nat) (hn : fl.length ≤ 1000) (hs : ∀ f ∈ fl, (Ai f.body).length ≤ 1000) (w : World) (hf : FRow w base a fl) :
  Calls Tryz.prog 78 #[.slice a fl.length cap] w fun e w' => ∃ v, e = .returned v ∧ w'.ownsRow w.heap.size 63 1 v (fl.flatMap fun f => Ai f.body).length (Cz (fl.flatMap fun f => Ai f.body)) ∧ Below w.heap.size w w' := by
 obtain ⟨i0, hi, hz0, hz1, hz2⟩ := info_parts Tryz.infoU64
 have HF := Aa hf
 have HSL := Aa hs
 clear hf hs
 go_enter Tryz.func78, Tryz.ntmps78
 go_wp2_with fail
 go_loopw [3, 9] (fun hv i W => ∃ k : Nat, k ≤ fl.length ∧ i = .int .i64 (k : Int) ∧ W.ownsRow w.heap.size 63 1 hv ((fl.take k).flatMap fun f => Ai f.body).length (Cz ((fl.take k).flatMap fun f => Ai f.body)) ∧ ((fl.take k).flatMap fun f => Ai f.body).length ≤ k * 1000 ∧ Below w.heap.size w W)
  (fun _ i _ => fl.length - (intOf i).toNat)
 case atStart => exact ⟨0, by omega, rfl, World.ownsRow_made (base := w.heap.size) (e := 63) (size := 1) w #[] 0 (Nat.le_refl _) (by unfold maxLen; omega) rfl, by simp, (Below.refl _ _).alloc (Nat.le_refl _) _⟩
 case round =>
  obtain ⟨k, hk, rfl, hown, hlen, hbl⟩ := hrel
  have hsz := hbl.size
  by_cases hlt : k < fl.length
  ·have hfr := HF.out.later hbl
   obtain ⟨bb, off, sa, sc, rfl, c0, c1, c2, c3, c4, c5⟩ := hfr k hlt
   have hsl := HSL.out fl[k] (List.getElem_mem hlt)
   have hsn : (fl.take (k + 1)).flatMap (fun f => Ai f.body) = (fl.take k).flatMap (fun f => Ai f.body) ++ Ai fl[k].body := by rw [Ap fl k hlt, List.flatMap_append]; simp
   obtain ⟨f, hf⟩ : ∃ f, f = fl[k] := ⟨_, rfl⟩
   rw [← hf] at c0 c1 c2 c3 c4 c5 hsl hsn
   obtain ⟨P, hP⟩ : ∃ P, P = (fl.take k).flatMap (fun f => Ai f.body) := ⟨_, rfl⟩
   rw [← hP] at hown hlen hsn
   have HSN := Aa hsn
   have HO := Aa (hown.alloc (Obj.cells #[Value.int .i64 (Av f.body : Int), .string (str (AW f.body)), .int .i64 (Bh f.body : Int), .int .u64 (BQ f.body : Int), .slice sa (Ai f.body).length sc] 143))
   have HB := Aa (hbl.alloc hsz (Obj.cells #[Value.int .i64 (Av f.body : Int), .string (str (AW f.body)), .int .i64 (Bh f.body : Int), .int .u64 (BQ f.body : Int), .slice sa (Ai f.body).length sc] 143))
   have C5 := Aa (c5.alloc (Obj.cells #[Value.int .i64 (Av f.body : Int), .string (str (AW f.body)), .int .i64 (Bh f.body : Int), .int .u64 (BQ f.body : Int), .slice sa (Ai f.body).length sc] 143))
   have hsz2 : w.heap.size ≤ (wr.alloc (Obj.cells #[Value.int .i64 (Av f.body : Int), .string (str (AW f.body)), .int .i64 (Bh f.body : Int), .int .u64 (BQ f.body : Int), .slice sa (Ai f.body).length sc] 143)).heap.size := by simp; omega
   have eV : ∀ l1 l2 : List Nat, Cz (l1 ++ l2) = Cz l1 ++ Cz l2 := fun l1 l2 => by simp [Cz]
   have EV := Aa eV
   clear hown hbl hf hfr hsn hP eV
   rcases c5.2 with ⟨hnil, hm0⟩ | ⟨g, cc, cur, hsome, _⟩
   ·simp only [Value.slice.injEq] at hnil
    obtain ⟨rfl, -, rfl⟩ := hnil
    have hnil : Ai f.body = [] := List.length_eq_zero_iff.1 hm0
    have HNIL := Aa hnil
    rw [hm0] at c4 HO HB
    clear c5 hnil C5 hsz2
    go_wp2_with (at_builtin; refine wpList_append_own_none rfl (.tmp 13) (.tmp 15) 99 rfl w.heap.size 63 i0 1 Tryz.underlying99 hi _ _ _ rfl HO.out rfl ?_)
    go_wp2_with fail
    refine ⟨⟨k + 1, by omega, by go_num, ?_, by rw [HSN.out, List.length_append, hm0]; omega, HB.out⟩, by simp [intOf]; omega⟩
    rw [HSN.out, HNIL.out, List.append_nil]
    exact HO.out
   ·cases hsome
    clear c5
    go_wp2_with (at_builtin; refine wpList_append_own _ rfl (.tmp 13) (.tmp 15) 99 rfl w.heap.size 63 i0 (.int .u64 0) 1 8 Tryz.underlying99 hi hz0 hz1 hz2 rfl (by decide) _ _ _ rfl HO.out ⟨g, 0, none⟩ (Ai f.body).length sc (Cz (Ai f.body)) rfl ?d1 ?d0 ?d2 ?d3 ?d4 ?d5 ?_)
    case d1 => exact C5.out.1
    case d0 => intro j u hj; exact C5.out.cells (g := g) rfl j u hj
    case d2 => intro u hu; simp only [Cz, List.mem_map] at hu; obtain ⟨x, _, rfl⟩ := hu; rfl
    case d3 => unfold maxLen; omega
    case d4 => omega
    case d5 => exact hsz2
    intro v2 w2 hown2 hg2 _
    have hbl2 := Cy HB.out hsz2 HO.out hg2
    have O2 := Aa hown2
    have B2 := Aa hbl2
    clear hown2 hbl2 hg2
    go_wp2_with fail
    refine ⟨⟨k + 1, by omega, by go_num, ?_, by rw [HSN.out, List.length_append]; omega, B2.out⟩, by simp [intOf]; omega⟩
    rw [HSN.out, EV.out, List.length_append]
    exact O2.out
  ·obtain rfl : k = fl.length := by omega
   rw [List.take_length] at hown
   have HO := Aa hown
   have HB := Aa hbl
   clear hown hbl hlen
   go_wp2_with fail
   go_ret
   exact ⟨_, rfl, HO.out, HB.out⟩
end Go.Proofs.YtonjphollmdicaaGreatDoor
namespace Go.Proofs.YtonjphollmdicaaGreatDoor
open Go.ChangeShapes Go.WideShapes Go.ChangeAt Go.RowKit
open Go.Maps
def ER (g : FoundL → Option Nat) (l : List FoundL) (N : Nat) : List FoundL := (Ba g l N).map fun i => (AN g l i).getD ⟨0, 0, []⟩
theorem DO (g : FoundL → Option Nat) (l : List FoundL) (N : Nat) : (ER g l N).length = (Ba g l N).length := by simp [ER]
theorem DV {g : FoundL → Option Nat} {l : List FoundL} {N i : Nat} (h : i ∈ Ba g l N) : i < N ∧ ∃ f, AN g l i = some f := by
 unfold Ba at h
 rw [List.mem_filter, List.mem_range] at h
 exact ⟨h.1, Option.isSome_iff_exists.1 h.2⟩
theorem GY {g : FoundL → Option Nat} {l : List FoundL} {i : Nat} {f : FoundL} (h : AN g l i = some f) : f ∈ l ∧ g f = some i := by
 unfold AN at h
 exact ⟨List.mem_of_find?_eq_some h, by simpa using List.find?_some h⟩
theorem Jt {g : FoundL → Option Nat} {l : List FoundL} {N : Nat} {f : FoundL} (h : f ∈ ER g l N) : f ∈ l ∧ ∃ i, i < N ∧ g f = some i := by
 unfold ER at h
 obtain ⟨i, hi, rfl⟩ := List.mem_map.1 h
 obtain ⟨h1, f, hf⟩ := DV hi
 rw [hf]
 obtain ⟨h2, h3⟩ := GY hf
 exact ⟨h2, i, h1, h3⟩
theorem Kx {α : Type} (c : α → List Value) (n : Nat) : ∀ (ks : List α), (∀ x ∈ ks, (c x).length = n) → ∀ (k i : Nat) (h : k < ks.length), i < n → (ks.flatMap c)[k * n + i]? = (c ks[k])[i]?
 | [], _, k, _, h, _ => by simp at h
 | x :: r, hc, 0, i, h, hi => by
  have := hc x (List.mem_cons_self ..)
  rw [List.flatMap_cons, Nat.zero_mul, Nat.zero_add, List.getElem?_append_left (by omega)]
  rfl
 | x :: r, hc, k + 1, i, h, hi => by
  have hx := hc x (List.mem_cons_self ..)
  have e : (k + 1) * n + i = (c x).length + (k * n + i) := by rw [hx, Nat.succ_mul]; omega
  rw [List.flatMap_cons, e, List.getElem?_append_right (by omega), Nat.add_sub_cancel_left]
  exact Kx c n r (fun y hy => hc y (List.mem_cons_of_mem _ hy)) k i (by simpa using h) hi
theorem Sc {w : World} {b0 base N : Nat} {D : DataW Value} {g : FoundL → Option Nat} {l : List FoundL} {v : Value} (h : w.ownsRow b0 143 5 v (Ba g l N).length (CD D (Ba g l N))) (hk : KMap D g l N (IsFile w base)) : ∃ a c, v = .slice a (ER g l N).length c ∧ FRow w base a (ER g l N) := by
 obtain ⟨a, c, rfl, hr⟩ := AE h
 refine ⟨a, c, by rw [DO], fun k hk' => ?_⟩
 have hkl : k < (Ba g l N).length := by rw [← DO]; exact hk'
 have hall : ∀ x ∈ Ba g l N, (cellsL ((atM D (Bo x)).getD undef)).length = 5 := by
  intro x hx
  obtain ⟨_, f, hf⟩ := DV hx
  obtain ⟨v, hv, a, c, rfl, _⟩ := hk.there x f hf
  rw [hv]
  rfl
 obtain ⟨_, f, hf⟩ := DV (List.getElem_mem hkl)
 obtain ⟨v, hv, sa, sc, rfl, hrow⟩ := hk.there _ f hf
 have e : (ER g l N)[k] = f := by simp [ER, hf]
 rw [e]
 have hget : ∀ i u, (cellsL ((atM D (Bo (Ba g l N)[k])).getD undef))[i]? = some u → i < 5 → ∃ b off, a = some ⟨b, off, none⟩ ∧ w.cell? ⟨b, off + (k * 5 + i), none⟩ = some u := fun i u hu hi =>
  hr (k * 5 + i) u (by unfold CD; rw [Kx _ 5 _ hall k i hkl hi]; exact hu)
 rw [hv] at hget
 obtain ⟨bb, off, rfl, c0⟩ := hget 0 _ rfl (by omega)
 refine ⟨bb, off, sa, sc, rfl, c0, ?_, ?_, ?_, ?_, hrow⟩
 ·obtain ⟨b1, o1, e1, c1⟩ := hget 1 _ rfl (by omega)
  cases e1
  exact c1
 ·obtain ⟨b1, o1, e1, c1⟩ := hget 2 _ rfl (by omega)
  cases e1
  exact c1
 ·obtain ⟨b1, o1, e1, c1⟩ := hget 3 _ rfl (by omega)
  cases e1
  exact c1
 ·obtain ⟨b1, o1, e1, c1⟩ := hget 4 _ rfl (by omega)
  cases e1
  exact c1
theorem FRow.touch {w w' : World} {base : Nat} {a : Option Addr} {fl : List FoundL} (h : FRow w base a fl) {L : List Nat} (ht : Touch L w w') (ha : ∀ bb off, a = some ⟨bb, off, none⟩ → bb ∉ L) (hL : ∀ x ∈ L, x < base) : FRow w' base a fl := fun k hk => by
 obtain ⟨bb, off, sa, sc, e, c0, c1, c2, c3, c4, c5⟩ := h k hk
 have hl := World.block_lt_of_cell? w _ c0
 have hb := ha bb off e
 refine ⟨bb, off, sa, sc, e, ?_, ?_, ?_, ?_, ?_, Ac c5 ht hL⟩
 ·rw [ht.cell (x := ⟨bb, off + k * 5, none⟩) hl hb]; exact c0
 ·rw [ht.cell (x := ⟨bb, off + k * 5 + 1, none⟩) hl hb]; exact c1
 ·rw [ht.cell (x := ⟨bb, off + k * 5 + 2, none⟩) hl hb]; exact c2
 ·rw [ht.cell (x := ⟨bb, off + k * 5 + 3, none⟩) hl hb]; exact c3
 ·rw [ht.cell (x := ⟨bb, off + k * 5 + 4, none⟩) hl hb]; exact c4
theorem LW {w : World} {base : Nat} {e : TypeId} {sz : Nat} {a : Option Addr} {n c : Nat} {xs : List Value} (h : w.ownsRow base e sz (.slice a n c) n xs) : ∀ bb off, a = some ⟨bb, off, none⟩ → base ≤ bb := by
 rintro bb off rfl
 exact (h.lt bb rfl).1
theorem Cu {l : List FoundL} {f : FoundL} (h : AV l = some f) : f ∈ l ∧ Cn f.body = true ∧ 1 ≤ (Ax f.body).length ∧ (Ax f.body).length ≤ 6 ∧ 2 ≤ Al f.body ∧ Al f.body ≤ 32 := by
 have hm : f ∈ l := List.mem_of_find?_eq_some h
 have hc : BW f = true := List.find?_some h
 rw [Jy] at hc
 simp only [Bool.and_eq_true] at hc
 have hr := hc.1.2
 obtain ⟨_, h2, h3, h4, _, h6⟩ := Eg hr
 unfold Ay at h6
 rw [decide_eq_true_eq] at h6
 refine ⟨hm, hr, ?_, ?_, by omega, by omega⟩
 ·rw [h2]; simpa using h3
 ·rw [h2]; simpa using h4
theorem NW (b : List UInt8) : ∀ h ∈ Ai b, h < P64 := by
 intro h hh
 unfold Ai KW at hh
 obtain ⟨i, _, rfl⟩ := List.mem_map.1 hh
 exact Si _
theorem LF {m : MainL} {l : List FoundL} {N : Nat} (h2 : 2 ≤ m.size) {f : FoundL} (h : f ∈ ER (AZ m) l N) : (AW f.body).length ≤ 20 ∧ 1 ≤ (AW f.body).length ∧ Bh f.body ≤ 400 ∧ (Ai f.body).length ≤ 200 ∧ f ∈ l ∧ D9 f.body m.size = true := by
 obtain ⟨hl, i, _, hi⟩ := Jt h
 unfold AZ at hi
 split at hi
 ·rename_i hc
  have hr := hc.2.1
  have hr' := hr
  unfold D9 at hr
  simp only [Bool.and_eq_true, decide_eq_true_eq] at hr
  obtain ⟨⟨⟨⟨_, h3⟩, h4⟩, h5⟩, h6⟩ := hr
  refine ⟨h4, h3, h5, ?_, hl, hr'⟩
  rw [h6]
  unfold Aj
  have : (Bh f.body + m.size - 1) / m.size ≤ 200 := by
   have h7 : Bh f.body + m.size - 1 ≤ 200 * m.size + (m.size - 1) := by omega
   have h8 := Nat.div_le_div_right (c := m.size) h7
   have h9 : (200 * m.size + (m.size - 1)) / m.size = 200 := by
    rw [Nat.add_comm, Nat.mul_comm, Nat.add_mul_div_left _ _ (by omega), Nat.div_eq_of_lt (by omega), Nat.zero_add]
   omega
  exact this
 ·cases hi
end Go.Proofs.YtonjphollmdicaaGreatDoor
namespace Go.Proofs.YtonjphollmdicaaGreatDoor
open Go.ChangeShapes Go.WideShapes Go.ChangeAt Go.RowKit
def BO (fs : List Ak) (vs : List (List UInt8)) : Bool := decide (fs.length ≤ 12) && decide (vs.length ≤ 40) && fs.all (fun f => decide (f.2.length ≤ 400)) && vs.all (fun v => decide (v.length ≤ 4000))
theorem Hp (fs : List Ak) (vs : List (List UInt8)) (a b : Option Addr) (ca cb : Nat) (w : World) (hfa : Rd w a (As fs)) (hvb : Rd w b (AM vs)) :
  Calls Tryz.prog 75 #[.slice a fs.length ca, .slice b vs.length cb] w fun e w' => e = .returned (.bool (BO fs vs)) ∧ Below w.heap.size w w' := by
 obtain ⟨R, hR⟩ : ∃ R, R = BO fs vs := ⟨_, rfl⟩
 rw [← hR]
 have HR := Aa hR
 have HFA := Aa hfa
 have HVB := Aa hvb
 clear hR hfa hvb
 by_cases c1 : fs.length ≤ 12
 ·by_cases c2 : vs.length ≤ 40
  ·have e1 : ¬ ((12 : Int) < (fs.length : Int)) := by omega
   have e2 : ¬ ((40 : Int) < (vs.length : Int)) := by omega
   have HR1 : Hid (R = (fs.all (fun f => decide (f.2.length ≤ 400)) && vs.all (fun v => decide (v.length ≤ 4000)))) := Aa (by rw [HR.out]; unfold BO; rw [decide_eq_true c1, decide_eq_true c2]; rfl)
   clear HR
   go_enter Tryz.func75, Tryz.ntmps75
   go_wp2_with fail
   go_loopw [19] (fun i W => ∃ k : Nat, k ≤ fs.length ∧ i = .int .i64 (k : Int) ∧ Hid (R = ((fs.drop k).all (fun f => decide (f.2.length ≤ 400)) && vs.all (fun v => decide (v.length ≤ 4000)))) ∧ Below w.heap.size w W)
    (fun i _ => fs.length - (intOf i).toNat)
   case atStart => exact ⟨0, by omega, rfl, HR1, Below.refl _ _⟩
   case round =>
    clear HR1
    obtain ⟨k, hk, rfl, HC, hbl⟩ := hrel
    by_cases hlt : k < fs.length
    ·obtain ⟨bb, off, rfl, d0, d1⟩ := Bk HFA.out (Nat.le_refl _) hbl k hlt
     have hdr : fs.drop k = fs[k] :: fs.drop (k + 1) := List.drop_eq_getElem_cons hlt
     obtain ⟨f, hf⟩ : ∃ f, f = fs[k] := ⟨_, rfl⟩
     rw [← hf] at d0 d1 hdr
     have hs1 := Ae f.2
     have HB := Aa hbl
     have hsz := hbl.size
     clear hf hbl
     by_cases q : f.2.length ≤ 400
     ·have g1 : ¬ ((400 : Int) < (f.2.length : Int)) := by omega
      have HC2 : Hid (R = ((fs.drop (k + 1)).all (fun f => decide (f.2.length ≤ 400)) && vs.all (fun v => decide (v.length ≤ 4000)))) := Aa (by rw [HC.out, hdr, List.all_cons, decide_eq_true q]; rfl)
      clear HC hdr q
      go_wp2_with fail
      exact ⟨⟨k + 1, by omega, by go_num, HC2, HB.out.alloc hsz _⟩, by simp [intOf]; omega⟩
     ·have g1 : (400 : Int) < (f.2.length : Int) := by omega
      have HC2 : Hid (R = false) := Aa (by rw [HC.out, hdr, List.all_cons, decide_eq_false q]; rfl)
      clear HC hdr q
      go_wp2_with fail
      go_ret
      exact ⟨by rw [HC2.out]; rfl, HB.out.alloc hsz _⟩
    ·obtain rfl : fs.length = k := by omega
     have HC2 : Hid (R = vs.all (fun v => decide (v.length ≤ 4000))) := Aa (by rw [HC.out, List.drop_length]; rfl)
     have HB := Aa hbl
     clear HC hbl
     go_wp2_with fail
     go_loopw [30] (fun i W => ∃ k : Nat, k ≤ vs.length ∧ i = .int .i64 (k : Int) ∧ Hid (R = (vs.drop k).all (fun v => decide (v.length ≤ 4000))) ∧ Below w.heap.size w W)
      (fun i _ => vs.length - (intOf i).toNat)
     case atStart => exact ⟨0, by omega, rfl, HC2, HB.out⟩
     case round =>
      clear HC2 HB
      obtain ⟨k, hk, rfl, HC, hbl⟩ := hrel
      by_cases hlt : k < vs.length
      ·obtain ⟨bb, off, rfl, hc0⟩ := HVB.out k (.string (str vs[k])) (by simp [AM, hlt])
       have d1 : wr.cell? ⟨bb, off + k, none⟩ = some (.string (str vs[k])) := by rw [hbl.cell (World.block_lt_of_cell? w _ hc0)]; exact hc0
       have hdr : vs.drop k = vs[k] :: vs.drop (k + 1) := List.drop_eq_getElem_cons hlt
       obtain ⟨f, hf⟩ : ∃ f, f = vs[k] := ⟨_, rfl⟩
       rw [← hf] at d1 hdr
       have hs1 := Ae f
       have HB := Aa hbl
       clear hf hbl hc0
       by_cases q : f.length ≤ 4000
       ·have g1 : ¬ ((4000 : Int) < (f.length : Int)) := by omega
        have HC2 : Hid (R = (vs.drop (k + 1)).all (fun v => decide (v.length ≤ 4000))) := Aa (by rw [HC.out, hdr, List.all_cons, decide_eq_true q]; rfl)
        clear HC hdr q
        go_wp2_with fail
        exact ⟨⟨k + 1, by omega, by go_num, HC2, HB.out⟩, by simp [intOf]; omega⟩
       ·have g1 : (4000 : Int) < (f.length : Int) := by omega
        have HC2 : Hid (R = false) := Aa (by rw [HC.out, hdr, List.all_cons, decide_eq_false q]; rfl)
        clear HC hdr q
        go_wp2_with fail
        go_ret
        exact ⟨by rw [HC2.out]; rfl, HB.out⟩
      ·obtain rfl : vs.length = k := by omega
       have HC2 : Hid (R = true) := Aa (by rw [HC.out, List.drop_length]; rfl)
       have HB := Aa hbl
       clear HC hbl
       go_wp2_with fail
       go_ret
       exact ⟨by rw [HC2.out]; rfl, HB.out⟩
  ·have e1 : ¬ ((12 : Int) < (fs.length : Int)) := by omega
   have e2 : (40 : Int) < (vs.length : Int) := by omega
   have HR1 : Hid (R = false) := Aa (by rw [HR.out]; unfold BO; rw [decide_eq_false c2]; simp)
   clear HR
   go_enter Tryz.func75, Tryz.ntmps75
   go_wp2_with fail
   go_ret
   exact ⟨by rw [HR1.out]; rfl, Below.refl _ _⟩
 ·have e1 : (12 : Int) < (fs.length : Int) := by omega
  have HR1 : Hid (R = false) := Aa (by rw [HR.out]; unfold BO; rw [decide_eq_false c1]; simp)
  clear HR
  go_enter Tryz.func75, Tryz.ntmps75
  go_wp2_with fail
  go_ret
  exact ⟨by rw [HR1.out]; rfl, Below.refl _ _⟩
open Go.Maps
theorem Tryz.lawStr : Keyed Tryz.prog 9 := string_keyed Tryz.underlying9
def E9 (l : List (List UInt8)) : Nat := ((List.range l.length).filter fun i => decide (l.getD i [] ∉ l.take i)).length
theorem OR (l : List (List UInt8)) (x : List UInt8) : E9 (l ++ [x]) = E9 l + if x ∈ l then 0 else 1 := by
 unfold E9
 rw [List.length_append, List.length_cons, List.length_nil, List.range_succ, List.filter_append, List.length_append]
 have e1 : (List.range l.length).filter (fun i => decide ((l ++ [x]).getD i [] ∉ (l ++ [x]).take i)) = (List.range l.length).filter (fun i => decide (l.getD i [] ∉ l.take i)) := List.filter_congr (fun i hi => by
  rw [List.mem_range] at hi
  have h1 : (l ++ [x]).getD i [] = l.getD i [] := by simp [List.getD_eq_getElem?_getD, List.getElem?_append_left hi]
  have h2 : (l ++ [x]).take i = l.take i := by rw [List.take_append_of_le_length (by omega)]
  rw [h1, h2])
 have e2 : (l ++ [x]).getD l.length [] = x := by simp [List.getD_eq_getElem?_getD]
 have e3 : (l ++ [x]).take l.length = l := by simp
 rw [e1, List.filter_cons, e2, e3]
 by_cases h : x ∈ l
 ·simp [h]
 ·simp [h]
theorem Jh (fl : List FoundL) (base : Nat) (a : Option Addr) (cap : Nat) (hn : fl.length ≤ 1000) (hs : ∀ f ∈ fl, (AW f.body).length ≤ 1000) (w : World) (hf : FRow w base a fl) :
  Calls Tryz.prog 79 #[.slice a fl.length cap] w fun e w' => e = .returned (.bool (decide (E9 (fl.map fun f => AW f.body) < fl.length))) ∧ Below w.heap.size w w' := by
 have HF := Aa hf
 have HSL := Aa hs
 have hmm := @run_makeMap Tryz.prog
 clear hf hs
 obtain ⟨R, hR⟩ : ∃ R, R = decide (E9 (fl.map fun f => AW f.body) < fl.length) := ⟨_, rfl⟩
 rw [← hR]
 have HR := Aa hR
 clear hR
 go_enter Tryz.func79, Tryz.ntmps79
 go_wp2_with fail
 have hm0 := World.ownsMap_made (H := Value) w Tryz.prog 9 CK
 have HM0 := Aa hm0
 clear hm0 hmm
 go_loopw [9] (fun i W => ∃ (k : Nat) (D : DataW Value), k ≤ fl.length ∧ i = .int .i64 (k : Int) ∧ W.ownsMap Tryz.prog 9 CK w.heap.size k D ∧ Hid (∀ x, Maps.has D (.string x) = decide (x ∈ (fl.take k).map fun f => AW f.body)) ∧ Hid (Maps.size D = E9 ((fl.take k).map fun f => AW f.body)) ∧ Below w.heap.size w W)
  (fun i _ => fl.length - (intOf i).toNat)
 case atStart => exact ⟨0, _, by omega, rfl, HM0.out, Aa (fun x => by simp [Maps.has]), Aa (by simp [Maps.size, E9]), (Below.refl _ _).alloc (Nat.le_refl _) _⟩
 case round =>
  clear HM0
  obtain ⟨k, D, hk, rfl, hm, HH, HZ, hbl⟩ := hrel
  have hsz := hbl.size
  by_cases hlt : k < fl.length
  ·have hfr := HF.out.later hbl
   obtain ⟨bb, off, sa, sc, rfl, c0, c1, c2, c3, c4, c5⟩ := hfr k hlt
   have hsl := HSL.out fl[k] (List.getElem_mem hlt)
   have hsn : (fl.take (k + 1)).map (fun f => AW f.body) = (fl.take k).map (fun f => AW f.body) ++ [AW fl[k].body] := by rw [Ap fl k hlt, List.map_append]; rfl
   obtain ⟨f, hf⟩ : ∃ f, f = fl[k] := ⟨_, rfl⟩
   rw [← hf] at c0 c1 c2 c3 c4 c5 hsl hsn
   have hkey : keyOf Tryz.prog 9 (.string (str (AW f.body))) = some (.string (AW f.body)) := by
    have := Go.WideMaps.keyOf_string_mk (P := Tryz.prog) (k := 9) Tryz.underlying9 (s := str (AW f.body)) (by rw [Ae]; unfold maxLen; omega)
    simpa [str] using this
   have HKEY := Aa hkey
   have HSN := Aa hsn
   have HB := Aa (hbl.alloc hsz (Obj.cells #[Value.int .i64 (Av f.body : Int), .string (str (AW f.body)), .int .i64 (Bh f.body : Int), .int .u64 (BQ f.body : Int), .slice sa (Ai f.body).length sc] 143))
   have HM := Aa (hm.alloc (Obj.cells #[Value.int .i64 (Av f.body : Int), .string (str (AW f.body)), .int .i64 (Bh f.body : Int), .int .u64 (BQ f.body : Int), .slice sa (Ai f.body).length sc] 143))
   have hT := hm.tidy Tryz.lawStr
   have HT := Aa hT
   have hsz2 : w.heap.size ≤ (wr.alloc (Obj.cells #[Value.int .i64 (Av f.body : Int), .string (str (AW f.body)), .int .i64 (Bh f.body : Int), .int .u64 (BQ f.body : Int), .slice sa (Ai f.body).length sc] 143)).heap.size := by simp; omega
   clear hm hbl hf hfr hsn hkey hT c5
   go_wp2_with (at_mapUpdate; refine Dy _ rfl _ _ _ 184 rfl 9 3 Tryz.lawStr Tryz.underlying184 w.heap.size k D rfl HM.out (by unfold maxLen; omega) _ _ _ rfl rfl HKEY.out ?_)
   intro w2 hm2 ht2
   have B2 := Aa (HB.out.trans (ht2.below hsz2 (by simp)))
   have M2 := Aa hm2
   clear hm2 ht2 HM HB
   go_wp2_with fail
   refine ⟨⟨k + 1, _, by omega, by go_num, M2.out, Aa (fun x => ?_), Aa ?_, B2.out⟩, by simp [intOf]; omega⟩
   ·rw [HSN.out]
    by_cases c : x = AW f.body
    ·subst c
     rw [Maps.has_put_same HT.out.isMap (by trivial)]
     simp
    ·rw [Maps.has_put_other (by simpa using c), HH.out]
     simp [c]
   ·rw [HSN.out, OR, Maps.size_put HT.out, HH.out, HZ.out]
    by_cases c : AW f.body ∈ (fl.take k).map (fun f => AW f.body)
    ·simp only [c, decide_true, if_true]; rfl
    ·simp only [c, decide_false, if_false]; rfl
  ·obtain rfl : k = fl.length := by omega
   have hlen := hm.len (ty := 3) Tryz.underlying184
   have hz := HZ.out
   rw [List.take_length] at hz
   have hb : R = decide (Maps.size D < fl.length) := by rw [HR.out, ← hz]
   have HBB := Aa hb
   have HB := Aa hbl
   clear hm hbl hz hb HH HZ
   go_wp2_with fail
   go_ret
   exact ⟨by rw [HBB.out]; rfl, HB.out⟩
end Go.Proofs.YtonjphollmdicaaGreatDoor
namespace Go.Proofs.YtonjphollmdicaaGreatDoor
open Go.ChangeShapes Go.WideShapes Go.ChangeAt Go.RowKit
theorem LU (num : Int) (name : List UInt8) (long hash : Nat) (av : Option Addr) (ln cv : Nat) (fs : List Ak) (a : Option Addr) (cap : Nat) (hn : fs.length ≤ 1000) (hf : ∀ f ∈ fs, f.2.length ≤ 1000000) (w : World) (hrd : Rd w a (As fs)) :
  Calls Tryz.prog 83 #[.agg #[.int .i64 num, .string (str name), .int .i64 (long : Int), .int .u64 (hash : Int), .slice av ln cv], .slice a fs.length cap] w fun e w' => e = .returned (.int .i64 (D6 name long hash fs : Int)) ∧ Below w.heap.size w w' := by
 have HRD := Aa hrd
 have HF := Aa hf
 clear hrd hf
 obtain ⟨R, hR⟩ : ∃ R, R = D6 name long hash fs := ⟨_, rfl⟩
 rw [← hR]
 have HR0 := Aa hR
 clear hR
 go_enter Tryz.func83, Tryz.ntmps83
 go_wp2_with fail
 go_loopw [9] (fun i W => ∃ k : Nat, k ≤ fs.length ∧ i = .int .i64 (k : Int) ∧ Hid (R = D6 name long hash (fs.drop k)) ∧ W.cell? ⟨w.heap.size, 1, none⟩ = some (.string (str name)) ∧ W.cell? ⟨w.heap.size, 2, none⟩ = some (.int .i64 (long : Int)) ∧ W.cell? ⟨w.heap.size, 3, none⟩ = some (.int .u64 (hash : Int)) ∧ w.heap.size < W.heap.size ∧ Below w.heap.size w W)
  (fun i _ => fs.length - (intOf i).toNat)
 case atStart => exact ⟨0, by omega, rfl, HR0, by simp, by simp, by simp, by simp, (Below.refl _ _).alloc (Nat.le_refl _) _⟩
 case round =>
  clear HR0
  obtain ⟨k, hk, rfl, HC, d0, d1, d2, hszw, hbl⟩ := hrel
  by_cases hlt : k < fs.length
  ·obtain ⟨bb, off, rfl, c0, c1⟩ := Bk HRD.out (Nat.le_refl _) hbl k hlt
   have hfl := HF.out fs[k] (List.getElem_mem hlt)
   have hst := Jx name long hash fs k hlt
   obtain ⟨f, hf⟩ : ∃ f, f = fs[k] := ⟨_, rfl⟩
   rw [← hf] at c0 c1 hfl hst
   have HST := Aa hst
   have HBA := Aa (hbl.alloc hbl.size (Obj.cells #[Value.string (str f.1), Value.string (str f.2)] 62))
   have ht := (Touch.refl [] wr).alloc (Obj.cells #[Value.string (str f.1), Value.string (str f.2)] 62)
   have e0 : (wr.alloc (Obj.cells #[Value.string (str f.1), Value.string (str f.2)] 62)).cell? ⟨w.heap.size, 1, none⟩ = some (.string (str name)) := by rw [ht.cell (x := ⟨w.heap.size, 1, none⟩) hszw (by simp)]; exact d0
   have e1 : (wr.alloc (Obj.cells #[Value.string (str f.1), Value.string (str f.2)] 62)).cell? ⟨w.heap.size, 2, none⟩ = some (.int .i64 (long : Int)) := by rw [ht.cell (x := ⟨w.heap.size, 2, none⟩) hszw (by simp)]; exact d1
   have e2 : (wr.alloc (Obj.cells #[Value.string (str f.1), Value.string (str f.2)] 62)).cell? ⟨w.heap.size, 3, none⟩ = some (.int .u64 (hash : Int)) := by rw [ht.cell (x := ⟨w.heap.size, 3, none⟩) hszw (by simp)]; exact d2
   have hbs := Ae f.2
   have hH := Aa (fun W => FR f.2 (by omega) W)
   obtain ⟨m, hm⟩ : ∃ m, m = f.2.length := ⟨_, rfl⟩
   rw [← hm] at hbs hfl
   have HM := Aa hm
   clear hf hst hbl hm ht d0 d1 d2
   by_cases q1 : f.1 = name
   ·have x1 : ((str f.1).toList == (str name).toList) = true := by rw [q1]; simp
    have hR : R = if m = long ∧ AC f.2 = hash then 1 else 2 := by rw [HC.out, HST.out, if_pos q1, HM.out]
    obtain ⟨hv, hhv⟩ : ∃ x, x = AC f.2 := ⟨_, rfl⟩
    rw [← hhv] at hH hR
    have HRR := Aa hR
    clear hR hhv HST HC q1
    by_cases q2 : m = long
    ·have x2 : ((m : Int) == (long : Int)) = true := by simp [q2]
     by_cases q3 : hv = hash
     ·have x3 : ((hv : Int) == (hash : Int)) = true := by simp [q3]
      have HR1 : Hid (R = 1) := Aa (by rw [HRR.out, if_pos ⟨q2, q3⟩])
      clear HRR q2 q3
      go_wp2_with fail
      go_quiet (refine Calls.quiet_of_same (hH.out _))
      go_wp2_with fail
      go_ret
      exact ⟨by rw [HR1.out]; rfl, BJ HBA.out _⟩
     ·have x3 : ((hv : Int) == (hash : Int)) = false := by simp; omega
      have HR1 : Hid (R = 2) := Aa (by rw [HRR.out, if_neg (fun h => q3 h.2)])
      clear HRR q2 q3
      go_wp2_with fail
      go_quiet (refine Calls.quiet_of_same (hH.out _))
      go_wp2_with fail
      go_ret
      exact ⟨by rw [HR1.out]; rfl, BJ HBA.out _⟩
    ·have x2 : ((m : Int) == (long : Int)) = false := by simp; omega
     have HR1 : Hid (R = 2) := Aa (by rw [HRR.out, if_neg (fun h => q2 h.1)])
     clear HRR q2
     go_wp2_with fail
     go_quiet (fail)
     go_wp2_with fail
     go_ret
     exact ⟨by rw [HR1.out]; rfl, BJ HBA.out _⟩
   ·have x1 : ((str f.1).toList == (str name).toList) = false := by rw [Au, Au, beq_eq_false_iff_ne]; exact q1
    have H1 : Hid (R = D6 name long hash (fs.drop (k + 1))) := Aa (by rw [HC.out, HST.out, if_neg q1])
    clear HST HC q1
    go_wp2_with fail
    exact ⟨⟨k + 1, by omega, by go_num, H1, e0, e1, e2, by simp; omega, HBA.out⟩, by simp [intOf]; omega⟩
  ·obtain rfl : fs.length = k := by omega
   have hR : R = 3 := by rw [HC.out, List.drop_length]; rfl
   have HRR := Aa hR
   have HB := Aa hbl
   clear hR HC hbl
   go_wp2_with fail
   go_ret
   exact ⟨by rw [HRR.out]; rfl, HB.out⟩
open Go.Maps
theorem Tryz.lawU64 : Keyed Tryz.prog 63 := int_keyed Tryz.underlying63
theorem Tryz.zeroInts (w : World) : (zeroValue 31).run Tryz.prog w = .ok (.slice none 0 0) w := by kernel_rfl
theorem Tryz.infoI64' : (Tryz.prog.info? 3).map (fun i => (i.zero, i.size, i.bytes)) = some (some (.int .i64 0), 1, 8) := by kernel_rfl
def KH (h : Nat) : Lit := .int .u64 (h : Int)
theorem Lp (h : Nat) (hh : h < P64) : keyOf Tryz.prog 63 (.int .u64 (h : Int)) = some (KH h) := keyOf_int_mk Tryz.underlying63 (WalkArith.wf_u64 (by unfold P64 at hh; omega))
theorem Nb {n m : Nat} (h : n ≠ m) : KH n ≠ KH m := fun e => by
 unfold KH at e
 simp only [Lit.int.injEq, true_and] at e
 exact h (by exact_mod_cast e)
theorem MC (n : Nat) : WideAt.IsKeyLit (KH n) := by trivial
structure Groups (w : World) (M base n : Nat) (D : DataW Value) (V : Nat → Value) (L : Nat → List Nat) : Prop where
 own : w.ownsMap Tryz.prog 63 CK M n D
 at' : ∀ h, h < P64 → (atM D (KH h)).getD (.slice none 0 0) = V h
 row : ∀ h, w.ownsRow base 3 1 (V h) (L h).length (Dz (L h))
 apart : ∀ h h' j, h ≠ h' → (V h).ownBlock = some j → (V h').ownBlock ≠ some j
def occ (hs : List Nat) (k h : Nat) : List Nat := (List.range k).filter fun i => hs.getD i 0 == h
theorem QE (hs : List Nat) (k : Nat) (h : Nat) : occ hs (k + 1) h = if hs.getD k 0 = h then occ hs k h ++ [k] else occ hs k h := by
 unfold occ
 rw [List.range_succ, List.filter_append, List.filter_cons]
 by_cases c : hs.getD k 0 = h
 ·rw [if_pos c, beq_iff_eq.2 c]; rfl
 ·rw [if_neg c, beq_eq_false_iff_ne.2 c]; simp
theorem Qc (hs : List Nat) (k h : Nat) : (occ hs k h).length ≤ k := by
 unfold occ
 exact Nat.le_trans (List.length_filter_le _ _) (by simp)
theorem Jj (hs : List Nat) (a : Option Addr) (cap : Nat) (hn : hs.length ≤ 1000) (hh : ∀ h ∈ hs, h < P64) (w : World) (hrd : Rd w a (Cz hs)) :
  Calls Tryz.prog 111 #[.slice a hs.length cap] w fun e w' => ∃ n D V, e = .returned (.map (some w.heap.size)) ∧ n ≤ hs.length ∧ Groups w' w.heap.size (w.heap.size + 1) n D V (occ hs hs.length) ∧ Below w.heap.size w w' := by
 obtain ⟨i0, hi, hz0, hz1, hz2⟩ := info_parts Tryz.infoI64'
 have HRD := Aa hrd
 have HH := Aa hh
 have hmm := @run_makeMap Tryz.prog
 clear hrd hh
 go_enter Tryz.func111, Tryz.ntmps111
 go_wp2_with fail
 have hm0 := World.ownsMap_made (H := Value) w Tryz.prog 63 CK
 have HM0 := Aa hm0
 clear hm0 hmm
 go_loopw [9] (fun i W => ∃ (k n : Nat) (D : DataW Value) (V : Nat → Value), k ≤ hs.length ∧ i = .int .i64 (k : Int) ∧ n ≤ k ∧ Groups W w.heap.size (w.heap.size + 1) n D V (occ hs k) ∧ w.heap.size + 1 ≤ W.heap.size ∧ Below w.heap.size w W)
  (fun i _ => hs.length - (intOf i).toNat)
 case atStart =>
  refine ⟨0, 0, _, fun _ => .slice none 0 0, by omega, rfl, Nat.le_refl _, ⟨HM0.out, fun h _ => by rw [EE]; rfl, fun h => World.ownsRow_nil _ _ _ _, fun _ _ _ _ e => by simp [Value.ownBlock] at e⟩, by simp, (Below.refl _ _).alloc (Nat.le_refl _) _⟩
 case round =>
  clear HM0
  obtain ⟨k, n, D, V, hk, rfl, hnk, hG, hszw, hbl⟩ := hrel
  by_cases hlt : k < hs.length
  ·obtain ⟨bb, off, rfl, hc0⟩ := HRD.out k (.int .u64 (hs[k] : Int)) (by simp [Cz, hlt])
   have d1 : wr.cell? ⟨bb, off + k, none⟩ = some (.int .u64 (hs[k] : Int)) := by rw [hbl.cell (World.block_lt_of_cell? w _ hc0)]; exact hc0
   have hx64 := HH.out hs[k] (List.getElem_mem hlt)
   obtain ⟨x, hx⟩ : ∃ x, x = hs[k] := ⟨_, rfl⟩
   rw [← hx] at d1 hx64
   have HX := Aa hx
   have HG := Aa hG
   have HB := Aa hbl
   have hkey := Lp x hx64
   have hlk := FJ hG.own Tryz.lawU64 Tryz.underlying185 (Tryz.zeroInts wr) hkey
   rw [hG.at' x hx64] at hlk
   have HKEY := Aa hkey
   have hol := Qc hs k x
   have hrow := hG.row x
   have HROW := Aa hrow
   have hlM := hG.own.lt
   clear hc0 hx hG hbl hkey hrow
   go_wp2_with (at_builtin; refine wpList_append_own_at _ rfl (.tmp 18) (.tmp 20) 31 rfl (w.heap.size + 1) 3 i0 (.int .i64 0) 1 8 Tryz.underlying31 hi hz0 hz1 hz2 rfl (by decide) _ _ _ rfl (HROW.out.alloc _) ⟨wr.heap.size, 0, none⟩ 1 1 [.int .i64 (k : Int)] rfl rfl (cell_one_new _ _ _) ?c2 ?c3 ?c4 ?c5 ?_)
   case c2 =>
    intro u hu
    simp at hu
    subst hu
    rfl
   case c3 => unfold maxLen; omega
   case c4 => omega
   case c5 => simp; omega
   intro v6 w6 hown6 hg6 _ hloc
   have hvb : ∀ h j, (V h).ownBlock = some j → w.heap.size + 1 ≤ j ∧ j < wr.heap.size := fun h j hj => (HG.out.row h).lt j hj
   have hm6 : w6.ownsMap Tryz.prog 63 CK w.heap.size n D := (HG.out.own.alloc (Obj.cells #[.int .i64 (k : Int)] 3)).kept hg6 (fun e => by have := (hvb x _ e.symm).1; omega)
   have hb6 : Below w.heap.size w w6 := (HB.out.alloc (by omega) (Obj.cells #[.int .i64 (k : Int)] 3)).trans ⟨hg6.os, hg6.tape, hg6.output, hg6.size, fun j hj => hg6.block j (by simp; omega) (fun e => by have := (hvb x _ e.symm).1; omega)⟩
   have ht6 : Touch (Ed (V x)) wr w6 := ((Touch.refl (Ed (V x)) wr).alloc (Obj.cells #[.int .i64 (k : Int)] 3)).trans (Touch.of_row hg6)
   have hs6 : wr.heap.size + 1 ≤ w6.heap.size := by have := hg6.size; simpa using this
   have M6 := Aa hm6
   have B6 := Aa hb6
   have T6 := Aa ht6
   have O6 := Aa hown6
   have HLOC := Aa hloc
   have HVB := Aa hvb
   clear hown6 hg6 hloc hm6 hb6 ht6 hvb HB HROW hlk
   go_wp2_with (at_mapUpdate; refine Dy _ rfl _ _ _ 185 rfl 63 31 Tryz.lawU64 Tryz.underlying185 w.heap.size n D rfl M6.out (by unfold maxLen; omega) _ _ _ rfl rfl HKEY.out ?_)
   intro w7 hm7 ht7
   have hfin : Groups w7 w.heap.size (w.heap.size + 1) (n + 1) (D.put (KH x) (.held v6)) (fun h => if h = x then v6 else V h) (occ hs (k + 1)) := by
    have hgx : hs.getD k 0 = x := by rw [HX.out]; simp [hlt]
    refine ⟨hm7, fun h hh => ?_, fun h => ?_, fun h h' j hne hj hj' => ?_⟩
    ·by_cases c : h = x
     ·subst c
      rw [Ej HG.out.own.isMap (MC _), if_pos rfl]
      rfl
     ·rw [Dg _ (Nb c), if_neg c]
      exact HG.out.at' h hh
    ·rw [QE, hgx]
     by_cases c : h = x
     ·subst c
      rw [if_pos rfl, if_pos rfl, List.length_append]
      have e : Dz (occ hs k h ++ [k]) = Dz (occ hs k h) ++ [.int .i64 (k : Int)] := by simp [Dz]
      rw [e]
      exact Ac O6.out ht7 (by simp)
     ·rw [if_neg c, if_neg (Ne.symm c)]
      refine Ac (AQ (HG.out.row h) T6.out (fun j hj hm => ?_)) ht7 (by simp)
      exact HG.out.apart h x j c hj (blkL_mem.1 hm)
    ·by_cases c : h = x
     ·subst c
      rw [if_pos rfl] at hj
      rw [if_neg (Ne.symm hne)] at hj'
      rcases HLOC.out with e | e
      ·rw [hj] at e
       exact HG.out.apart h h' j hne e.symm hj'
      ·rw [hj] at e
       cases e
       have := (HVB.out h' _ hj').2
       omega
     ·rw [if_neg c] at hj
      by_cases c' : h' = x
      ·subst c'
       rw [if_pos rfl] at hj'
       rcases HLOC.out with e | e
       ·rw [hj'] at e
        exact HG.out.apart h h' j hne hj e.symm
       ·rw [hj'] at e
        cases e
        have := (HVB.out h _ hj).2
        omega
      ·rw [if_neg c'] at hj'
       exact HG.out.apart h h' j hne hj hj'
   have FIN := Aa hfin
   have B7 := Aa (B6.out.trans (ht7.below (by omega) (by simp)))
   have hs7 : w.heap.size + 1 ≤ w7.heap.size := by have := ht7.size; omega
   clear hfin hm7 ht7 M6 B6 T6 O6 HLOC HVB HG
   go_wp2_with fail
   exact ⟨⟨k + 1, n + 1, _, _, by omega, by go_num, by omega, FIN.out, hs7, B7.out⟩, by simp [intOf]; omega⟩
  ·obtain rfl : hs.length = k := by omega
   have HG := Aa hG
   have HB := Aa hbl
   clear hG hbl
   go_wp2_with fail
   go_ret
   exact ⟨n, D, V, rfl, hnk, HG.out, HB.out⟩
end Go.Proofs.YtonjphollmdicaaGreatDoor
