import Derived.Test.YtonjphollmdicaaGreatDoorB05
import Derived.Deep.RegionWith
set_option maxRecDepth 100000
set_option maxHeartbeats 4000000
set_option linter.unusedSimpArgs false
namespace Go.Proofs.YtonjphollmdicaaGreatDoor
open Go.ChangeShapes Go.WideShapes Go.ChangeAt Go.RowKit
def Ei (pts : List Nat) (t i : Nat) : Nat := (pts.take i).foldl (fun a p => Math.mul a (t ^^^ p)) 1
def Dk (pts : List Nat) (t i : Nat) : Nat := (pts.drop i).foldr (fun p a => Math.mul a (t ^^^ p)) 1
def B0 (pts ss : List Nat) (t i : Nat) : Nat := Math.mul (ss.getD i 0) (Ei pts t i)
def CB (pts ss : List Nat) (t i : Nat) : Nat := Math.mul (B0 pts ss t i) (Dk pts t (i + 1))
def Bc (pts ss : List Nat) (t : Nat) : List Nat := (List.range pts.length).map (CB pts ss t)
def By (n k : Nat) (f g : Nat → Nat) : List Nat := (List.range n).map fun j => if j < k then f j else g j
theorem Bt (n k : Nat) (f g : Nat → Nat) : (By n k f g).length = n := by simp [By]
theorem EF (n k : Nat) (f g : Nat → Nat) (j : Nat) (h : j < n) : (By n k f g).getD j 0 = if j < k then f j else g j := by
 simp [By, h]
theorem FF (n k : Nat) (f g : Nat → Nat) : (By n k f g).set k (f k) = By n (k + 1) f g := by
 apply List.ext_getElem
 ·simp [By]
 ·intro j h1 h2
  simp only [By, List.getElem_set, List.getElem_map, List.getElem_range]
  by_cases hj : k = j
  ·subst hj; simp
  ·rw [if_neg hj]
   by_cases hl : j < k
   ·rw [if_pos hl, if_pos (by omega)]
   ·rw [if_neg hl, if_neg (by omega)]
theorem OF (n k : Nat) (f g : Nat → Nat) : (By n (k + 1) f g).set k (g k) = By n k f g := by
 apply List.ext_getElem
 ·simp [By]
 ·intro j h1 h2
  simp only [By, List.getElem_set, List.getElem_map, List.getElem_range]
  by_cases hj : k = j
  ·subst hj; simp
  ·rw [if_neg hj]
   by_cases hl : j < k
   ·rw [if_pos hl, if_pos (by omega)]
   ·rw [if_neg hl, if_neg (by omega)]
theorem Dq (n : Nat) (f g : Nat → Nat) : By n 0 f g = (List.range n).map g := by simp [By]
theorem Dt (n : Nat) (f g : Nat → Nat) : By n n f g = (List.range n).map f := by
 apply List.map_congr_left
 intro j hj
 rw [if_pos (by simpa using hj)]
theorem NK (l : List Nat) : (List.range l.length).map (fun j => l.getD j 0) = l := by
 apply List.ext_getElem
 ·simp
 ·intro j h1 h2
  simp [List.getElem?_eq_getElem h2]
theorem O0 (pts : List Nat) (t i : Nat) : Ei pts t i < 65536 := KD _ (fun _ _ h => Math.mul_lt h _) _ _ (by decide)
theorem L9 (pts : List Nat) (t i : Nat) (h : i < pts.length) : Ei pts t (i + 1) = Math.mul (Ei pts t i) (t ^^^ pts.getD i 0) := by
 unfold Ei
 rw [Ap pts i h, List.foldl_append]
 simp [List.getElem?_eq_getElem h]
theorem Ok (pts : List Nat) (t i : Nat) : Dk pts t i < 65536 := by
 unfold Dk
 induction pts.drop i with
 | nil => exact (by decide : (1 : Nat) < 65536)
 | cons x l ih => exact Math.mul_lt ih _
theorem LA (pts : List Nat) (t i : Nat) (h : i < pts.length) : Dk pts t i = Math.mul (Dk pts t (i + 1)) (t ^^^ pts.getD i 0) := by
 unfold Dk
 rw [List.drop_eq_getElem_cons h, List.foldr_cons]
 simp [List.getElem?_eq_getElem h]
theorem MX (pts : List Nat) (t : Nat) : Dk pts t pts.length = 1 := by simp [Dk]
theorem Hb (pts ss : List Nat) (t : Nat) (a1 a2 : Option Addr) (c1 c2 : Nat) (hn : pts.length ≤ 1000) (h0 : 0 < pts.length) (hss : ss.length = pts.length) (hp : ∀ x ∈ pts, x < 65536) (hs : ∀ x ∈ ss, x < 65536) (ht : t < 65536)
  (w : World) (hrd1 : Rd w a1 (A9 pts)) (hrd2 : Rd w a2 (A9 ss)) :
  Calls Tryz.prog 120 #[.agg #[.slice a1 pts.length c1, .slice a2 pts.length c2], .int .u16 (t : Int)] w fun e w' => ∃ v', e = .returned v' ∧ w'.ownsRow w.heap.size 80 1 v' pts.length (A9 (Bc pts ss t)) ∧ Below w.heap.size w w' := by
 obtain ⟨i0, hi, hz0, hz1, hz2⟩ := info_parts Tryz.info16
 obtain ⟨b2, off2, rfl, hc20⟩ := Ds hrd2 0 (by omega)
 have hlow : Below w.heap.size w (w.alloc (.cells #[.slice a1 pts.length c1, .slice (some ⟨b2, off2, none⟩) pts.length c2] 201)) := (Below.refl _ _).alloc (Nat.le_refl _) _
 have hbox : (w.alloc (.cells #[.slice a1 pts.length c1, .slice (some ⟨b2, off2, none⟩) pts.length c2] 201)).cell? ⟨w.heap.size, 0, none⟩ = some (.slice a1 pts.length c1) := by simp
 obtain ⟨W0, hW0⟩ : ∃ W0, W0 = w.alloc (.cells #[.slice a1 pts.length c1, .slice (some ⟨b2, off2, none⟩) pts.length c2] 201) := ⟨_, rfl⟩
 rw [← hW0] at hlow hbox
 have hs0 : W0.heap.size = w.heap.size + 1 := by rw [hW0]; simp
 have HW := Aa hW0
 have HB := Aa hbox
 have HS := Aa hs0
 clear hbox hs0
 have hnews : ∀ j u, (A9 ss)[j]? = some u → (W0.alloc (.cells #[] 80)).cell? ((⟨b2, off2, none⟩ : Addr).add j) = some u := by
  intro j u hj
  obtain ⟨b', off', e, hc⟩ := (hrd2.later (Nat.le_refl _) (hlow.alloc (by rw [HS.out]; omega) (.cells #[] 80))) j u hj
  cases e
  have hadd : (⟨b2, off2, none⟩ : Addr).add j = ⟨b2, off2 + j, none⟩ := by unfold Addr.add; split <;> simp_all
  rw [hadd]
  exact hc
 have HNEWS := Aa hnews
 have HRD2 := Aa hrd2
 clear hnews hrd2 hc20
 rw [hW0] at HNEWS
 clear hW0
 go_enter Tryz.func120, Tryz.ntmps120
 go_wp2_with (at_builtin; refine wpList_append_grows _ rfl (.tmp 10) (.tmp 12) 121 rfl 80 i0 (.int .u16 0) 1 2 Tryz.underlying121 hi hz0 hz1 hz2 rfl (by decide) (some ⟨w.heap.size + 1, 0, none⟩) 0 0 [] rfl (by simp) rfl ?c1 ⟨b2, off2, none⟩ pts.length c2 (A9 ss) rfl ?c2 ?c3 ?c4 ?c5 ?c6 ?c7 ?_)
 case c1 => intro b _ j u hu; simp at hu
 case c2 => simp [A9, hss]
 case c3 => exact HNEWS.out
 case c4 => intro u hu; simp only [A9, List.mem_map] at hu; obtain ⟨c, _, rfl⟩ := hu; rfl
 case c5 => omega
 case c6 => unfold maxLen; omega
 case c7 => omega
 intro v1 w1 hown1 hg1
 rw [← HW.out] at hg1
 have hb1 : Below (w.heap.size + 1) W0 w1 := ((Below.refl _ W0).alloc (by rw [HS.out]; omega) _).grown hg1 (by simp; rw [HS.out]; omega) (by simp)
 have hown1' : w1.ownsRow (w.heap.size + 1) 80 1 v1 pts.length (A9 ss) := by
  have := Ad (base' := w.heap.size + 1) (by omega) hown1
  simpa using this
 obtain ⟨g, cap', hv, hgb⟩ : ∃ g cap', v1 = .slice (some ⟨g, 0, none⟩) pts.length cap' ∧ w.heap.size + 1 ≤ g := by
  rcases hown1'.2 with ⟨_, h⟩ | ⟨g, cap', cur, hv, hgb, _⟩
  ·omega
  ·exact ⟨g, cap', hv, hgb⟩
 rw [hv] at hown1' ⊢
 clear hown1 hg1 HNEWS hv
 have hfirst : A9 ss = A9 (By pts.length 0 (B0 pts ss t) (fun j => ss.getD j 0)) := by rw [Dq, ← hss, NK]
 rw [hfirst] at hown1'
 have HA0 := Aa hown1'
 clear hfirst hown1'
 go_wp2_with fail
 go_loopw [6, 7, 16] (fun x _ i wr => ∃ k : Nat, k ≤ pts.length ∧ i = .int .i64 (k : Int) ∧ x = .int .u16 ((Ei pts t k : Nat) : Int) ∧ wr.ownsRow (w.heap.size + 1) 80 1 (.slice (some ⟨g, 0, none⟩) pts.length cap') pts.length (A9 (By pts.length k (B0 pts ss t) (fun j => ss.getD j 0))) ∧ Below (w.heap.size + 1) W0 wr)
  (fun _ _ i _ => pts.length - (intOf i).toNat)
 case atStart => exact ⟨0, by omega, rfl, rfl, HA0.out, hb1⟩
 case round =>
  clear HA0 hb1
  obtain ⟨k, hk, rfl, rfl, hownr, hbl⟩ := hrel
  by_cases hlt : k < pts.length
  ·obtain ⟨b1, off1, rfl, hp0⟩ := Ds hrd1 k hlt
   have hpb := World.block_lt_of_cell? w _ hp0
   have hcp0 : wr.cell? ⟨b1, off1 + k, none⟩ = some (.int .u16 ((pts.getD k 0 : Nat) : Int)) := by
    rw [(hlow.trans (hbl.mono (by omega))).cell hpb]; exact hp0
   have hbx0 : wr.cell? ⟨w.heap.size, 0, none⟩ = some (.slice (some ⟨b1, off1, none⟩) pts.length c1) := by rw [hbl.cell (by simp)]; exact HB.out
   have hck0 : wr.cell? ⟨g, k, none⟩ = some (.int .u16 ((ss.getD k 0 : Nat) : Int)) := by
    rw [hownr.cellAt k (by omega)]
    have := EF pts.length k (B0 pts ss t) (fun j => ss.getD j 0) k hlt
    rw [if_neg (by omega)] at this
    rw [← this]
    simp [A9, Bt, hlt]
   have hfz := hownr.frozenAt k
   have hst := (hownr.stored k (.int .u16 ((B0 pts ss t k : Nat) : Int))).1
   have hown' : (wr.setCell ⟨g, k, none⟩ (.int .u16 ((B0 pts ss t k : Nat) : Int))).ownsRow (w.heap.size + 1) 80 1 (.slice (some ⟨g, 0, none⟩) pts.length cap') pts.length (A9 (By pts.length (k + 1) (B0 pts ss t) (fun j => ss.getD j 0))) := by
    rw [← FF]
    have e : A9 ((By pts.length k (B0 pts ss t) (fun j => ss.getD j 0)).set k (B0 pts ss t k)) = (A9 (By pts.length k (B0 pts ss t) (fun j => ss.getD j 0))).set k (.int .u16 ((B0 pts ss t k : Nat) : Int)) := by simp [A9, List.map_set]
    rw [e]; exact hst
   have hB' := hbl.setCell (p := ⟨g, k, none⟩) hgb (.int .u16 ((B0 pts ss t k : Nat) : Int))
   have hbx1 : (wr.setCell ⟨g, k, none⟩ (.int .u16 ((B0 pts ss t k : Nat) : Int))).cell? ⟨w.heap.size, 0, none⟩ = some (.slice (some ⟨b1, off1, none⟩) pts.length c1) := by
    rw [hB'.cell (by simp)]; exact HB.out
   have hcp1 : (wr.setCell ⟨g, k, none⟩ (.int .u16 ((B0 pts ss t k : Nat) : Int))).cell? ⟨b1, off1 + k, none⟩ = some (.int .u16 ((pts.getD k 0 : Nat) : Int)) := by
    rw [(hlow.trans (hB'.mono (by omega))).cell hpb]; exact hp0
   have hsucc := L9 pts t k hlt
   have hal := O0 pts t k
   have hsl := AP hs k
   have hpl := AP hp k
   have hfe : B0 pts ss t k = Math.mul (ss.getD k 0) (Ei pts t k) := rfl
   have HO := Aa hown'
   have HBB := Aa hB'
   have HR1 := Aa hrd1
   rw [hfe] at hbx1 hcp1 HO HBB
   rw [← hfe] at HO HBB
   clear hst hown' hB' hownr hp0 hrd1
   obtain ⟨pk, hpk⟩ : ∃ x, x = pts.getD k 0 := ⟨_, rfl⟩
   obtain ⟨sk, hsk⟩ : ∃ x, x = ss.getD k 0 := ⟨_, rfl⟩
   obtain ⟨ak, hak⟩ : ∃ x, x = Ei pts t k := ⟨_, rfl⟩
   rw [← hpk] at hcp0 hcp1 hpl hsucc
   rw [← hsk] at hck0 hsl hbx1 hcp1 hfe
   rw [← hak] at hal hsucc hbx1 hcp1 hfe ⊢
   have hx := Oi t pk ht hpl
   have HF := Aa hfe
   have HSU := Aa hsucc
   clear hpk hsk hak hfe hsucc
   go_wp2_with fail
   refine (CF sk ak hsl hal _).mono ?_
   rintro e w' ⟨rfl, rfl⟩
   go_wp2_with fail
   refine (CF ak (t ^^^ pk) hal (DI ht hpl) _).mono ?_
   rintro e w'' ⟨rfl, rfl⟩
   go_wp2_with fail
   rw [← HSU.out, ← HF.out]
   go_roundw
   case rel => exact ⟨k + 1, by omega, by go_num, rfl, HO.out, HBB.out⟩
   case measure => simp [intOf]; omega
  ·obtain rfl : k = pts.length := by omega
   have hpart : By pts.length pts.length (B0 pts ss t) (fun j => ss.getD j 0) = By pts.length pts.length (B0 pts ss t) (CB pts ss t) := by rw [Dt, Dt]
   rw [hpart] at hownr
   have HA1 := Aa hownr
   clear hownr hpart
   obtain ⟨an, han⟩ : ∃ x, x = Ei pts t pts.length := ⟨_, rfl⟩
   rw [← han]
   clear han
   go_wp2_with fail
   have hb2 := hbl
   go_loopw [8, 9] (fun x i wr => ∃ k : Nat, k ≤ pts.length ∧ i = .int .i64 ((k : Int) - 1) ∧ x = .int .u16 ((Dk pts t k : Nat) : Int) ∧ wr.ownsRow (w.heap.size + 1) 80 1 (.slice (some ⟨g, 0, none⟩) pts.length cap') pts.length (A9 (By pts.length k (B0 pts ss t) (CB pts ss t))) ∧ Below (w.heap.size + 1) W0 wr)
    (fun _ i _ => (intOf i + 1).toNat)
   case atStart => exact ⟨pts.length, by omega, by go_num, by rw [MX]; rfl, HA1.out, hb2⟩
   case round =>
    clear HA1 hb2 hbl
    obtain ⟨k, hk, rfl, rfl, hownr, hbl⟩ := hrel
    by_cases hlt : 0 < k
    ·obtain ⟨m, rfl⟩ : ∃ m, k = m + 1 := ⟨k - 1, by omega⟩
     have hml : m < pts.length := by omega
     obtain ⟨b1, off1, rfl, hp0⟩ := Ds hrd1 m hml
     have hpb := World.block_lt_of_cell? w _ hp0
     have hck0 : wr.cell? ⟨g, m, none⟩ = some (.int .u16 ((B0 pts ss t m : Nat) : Int)) := by
      rw [hownr.cellAt m (by omega)]
      have := EF pts.length (m + 1) (B0 pts ss t) (CB pts ss t) m hml
      rw [if_pos (by omega)] at this
      rw [← this]
      simp [A9, Bt, hml]
     have hfz := hownr.frozenAt m
     have hst := (hownr.stored m (.int .u16 ((CB pts ss t m : Nat) : Int))).1
     have hown' : (wr.setCell ⟨g, m, none⟩ (.int .u16 ((CB pts ss t m : Nat) : Int))).ownsRow (w.heap.size + 1) 80 1 (.slice (some ⟨g, 0, none⟩) pts.length cap') pts.length (A9 (By pts.length m (B0 pts ss t) (CB pts ss t))) := by
      rw [← OF]
      have e : A9 ((By pts.length (m + 1) (B0 pts ss t) (CB pts ss t)).set m (CB pts ss t m)) = (A9 (By pts.length (m + 1) (B0 pts ss t) (CB pts ss t))).set m (.int .u16 ((CB pts ss t m : Nat) : Int)) := by simp [A9, List.map_set]
      rw [e]; exact hst
     have hB' := hbl.setCell (p := ⟨g, m, none⟩) hgb (.int .u16 ((CB pts ss t m : Nat) : Int))
     have hbx1 : (wr.setCell ⟨g, m, none⟩ (.int .u16 ((CB pts ss t m : Nat) : Int))).cell? ⟨w.heap.size, 0, none⟩ = some (.slice (some ⟨b1, off1, none⟩) pts.length c1) := by
      rw [hB'.cell (by simp)]; exact HB.out
     have hcp1 : (wr.setCell ⟨g, m, none⟩ (.int .u16 ((CB pts ss t m : Nat) : Int))).cell? ⟨b1, off1 + m, none⟩ = some (.int .u16 ((pts.getD m 0 : Nat) : Int)) := by
      rw [(hlow.trans (hB'.mono (by omega))).cell hpb]; exact hp0
     have hsucc := LA pts t m hml
     have hal := Ok pts t (m + 1)
     have hfl : B0 pts ss t m < 65536 := Math.mul_lt (AP hs m) _
     have hpl := AP hp m
     have hfe : CB pts ss t m = Math.mul (B0 pts ss t m) (Dk pts t (m + 1)) := rfl
     have HO := Aa hown'
     have HBB := Aa hB'
     have HR1 := Aa hrd1
     rw [hfe] at hbx1 hcp1
     clear hst hown' hB' hownr hp0 hrd1
     obtain ⟨pk, hpk⟩ : ∃ x, x = pts.getD m 0 := ⟨_, rfl⟩
     obtain ⟨sk, hsk⟩ : ∃ x, x = B0 pts ss t m := ⟨_, rfl⟩
     obtain ⟨ak, hak⟩ : ∃ x, x = Dk pts t (m + 1) := ⟨_, rfl⟩
     rw [← hpk] at hcp1 hpl hsucc
     rw [← hsk] at hck0 hfl hbx1 hcp1 hfe
     rw [← hak] at hal hsucc hbx1 hcp1 hfe ⊢
     have hx := Oi t pk ht hpl
     have HF := Aa hfe
     have HSU := Aa hsucc
     clear hpk hsk hak hfe hsucc
     go_wp2_with fail
     refine (CF sk ak hfl hal _).mono ?_
     rintro e w' ⟨rfl, rfl⟩
     go_wp2_with fail
     refine (CF ak (t ^^^ pk) hal (DI ht hpl) _).mono ?_
     rintro e w'' ⟨rfl, rfl⟩
     go_wp2_with fail
     rw [← HSU.out, ← HF.out]
     go_roundw
     case rel => exact ⟨m, by omega, by go_num, rfl, HO.out, HBB.out⟩
     case measure => simp [intOf]
    ·obtain rfl : k = 0 := by omega
     have hres : wr.ownsRow w.heap.size 80 1 (.slice (some ⟨g, 0, none⟩) pts.length cap') pts.length (A9 (Bc pts ss t)) := by
      rw [Dq] at hownr
      exact Ad (by omega) hownr
     have hfin := hlow.trans (hbl.mono (by omega))
     obtain ⟨bn, hbn⟩ : ∃ x, x = Dk pts t 0 := ⟨_, rfl⟩
     rw [← hbn]
     clear hbn hownr
     go_wp2_with fail
     go_ret
     exact ⟨_, rfl, hres, hfin⟩
def RdRows (w : World) (a : Option Addr) (rows : List (List Nat)) : Prop :=
 ∀ k r, rows[k]? = some r → ∃ b off a' cap', a = some ⟨b, off, none⟩ ∧ w.cell? ⟨b, off + k, none⟩ = some (.slice a' r.length cap') ∧ Rd w a' (A9 r)
theorem RdRows.later {w w' : World} {a : Option Addr} {rows : List (List Nat)} (h : RdRows w a rows) {B : Nat} (hB : w.heap.size ≤ B) (hb : Below B w w') : RdRows w' a rows := by
 intro k r hk
 obtain ⟨b, off, a', cap', rfl, hc, hr⟩ := h k r hk
 refine ⟨b, off, a', cap', rfl, ?_, hr.later hB hb⟩
 rw [hb.cell (Nat.lt_of_lt_of_le (World.block_lt_of_cell? w _ hc) hB)]
 exact hc
def FI (rows : List (List Nat)) (ws : List Nat) (k p : Nat) : Nat := (List.range k).foldl (fun acc j => acc ^^^ Math.mul (ws.getD j 0) ((rows.getD j []).getD p 0)) 0
def Jr (rows : List (List Nat)) (ws : List Nat) (width : Nat) : List Nat := (List.range width).map (FI rows ws rows.length)
theorem Ln (rows : List (List Nat)) (ws : List Nat) (k p : Nat) : FI rows ws (k + 1) p = FI rows ws k p ^^^ Math.mul (ws.getD k 0) ((rows.getD k []).getD p 0) := by
 unfold FI
 rw [List.range_succ, List.foldl_append]
 rfl
theorem JT {rows : List (List Nat)} {ws : List Nat} (hw : ∀ x ∈ ws, x < 65536) (k p : Nat) : FI rows ws k p < 65536 := by
 unfold FI
 exact KD _ (fun _ _ h => DI h (Math.mul_lt (AP hw _) _)) _ _ (by decide)
theorem Ns (rows : List (List Nat)) (ws : List Nat) (width : Nat) (a1 a2 : Option Addr) (c1 c2 : Nat) (hn : rows.length ≤ 1000) (hws : ws.length = rows.length) (hwd : width ≤ 1000) (hr : ∀ r ∈ rows, r.length = width ∧ ∀ x ∈ r, x < 65536) (hw : ∀ x ∈ ws, x < 65536)
  (w : World) (hrd1 : RdRows w a1 rows) (hrd2 : Rd w a2 (A9 ws)) :
  Calls Tryz.prog 121 #[.slice a1 rows.length c1, .slice a2 rows.length c2, .int .i64 (width : Int)] w fun e w' => ∃ v', e = .returned v' ∧ w'.ownsRow w.heap.size 80 1 v' width (A9 (Jr rows ws width)) ∧ Below w.heap.size w w' := by
 obtain ⟨i0, hi, hz0, hz1, hz2⟩ := info_parts Tryz.info16
 go_enter Tryz.func121, Tryz.ntmps121
 go_wp2_with (at_make; refine wpList_make_full _ rfl _ _ 167 rfl w.heap.size 80 i0 (.int .u16 0) 1 Tryz.underlying167 hi hz0 hz1 .i64 .i64 _ _ width rfl rfl rfl rfl ?c1 ?c2 (Nat.le_refl _) ?_)
 case c1 => rw [hz2]; omega
 case c2 => unfold maxLen; omega
 intro w1 hown1 hg1
 have hb1 : Below w.heap.size w w1 := (Below.refl _ w).grown hg1 (Nat.le_refl _) (by simp)
 have hown1' : w1.ownsRow w.heap.size 80 1 (.slice (some ⟨w.heap.size, 0, none⟩) width width) width (A9 ((List.range width).map (FI rows ws 0))) := by
  have e : (List.range width).map (FI rows ws 0) = List.replicate width 0 := by
   apply List.ext_getElem
   ·simp
   ·intro j h1 h2; simp [FI]
  rw [e]
  simpa [A9, toList_madeCells_one] using hown1
 clear hg1 hown1
 go_wp2_with fail
 go_loopw [8, 9, 10, 15] (fun _ _ _ i wr => ∃ k : Nat, k ≤ rows.length ∧ i = .int .i64 (k : Int) ∧ wr.ownsRow w.heap.size 80 1 (.slice (some ⟨w.heap.size, 0, none⟩) width width) width (A9 ((List.range width).map (FI rows ws k))) ∧ Below w.heap.size w wr)
  (fun _ _ _ i _ => rows.length - (intOf i).toNat)
 case atStart => exact ⟨0, by omega, rfl, hown1', hb1⟩
 case round =>
  clear hown1' hb1
  obtain ⟨k, hk, rfl, hownr, hbl⟩ := hrel
  by_cases hlt : k < rows.length
  ·obtain ⟨b1, off1, a3, c3, rfl, hcr0, hrow⟩ := hrd1 k rows[k] (List.getElem?_eq_getElem hlt)
   have hcr : wr.cell? ⟨b1, off1 + k, none⟩ = some (.slice a3 width c3) := by
    rw [hbl.cell (World.block_lt_of_cell? w _ hcr0), hcr0, (hr rows[k] (List.getElem_mem hlt)).1]
   have hrl := (hr rows[k] (List.getElem_mem hlt)).1
   have hrx := (hr rows[k] (List.getElem_mem hlt)).2
   have hpart : (List.range width).map (FI rows ws k) = By width 0 (FI rows ws (k + 1)) (FI rows ws k) := by rw [Dq]
   rw [hpart] at hownr
   have HA := Aa hownr
   have HBL := Aa hbl
   have HR1 := Aa hrd1
   clear hownr hpart hcr0 hrd1
   obtain ⟨wo, hwo⟩ : ∃ x, x = wr := ⟨_, rfl⟩
   subst hwo
   go_wp2_with fail
   go_loopw [10, 22] (fun _ i wr => ∃ q : Nat, q ≤ width ∧ i = .int .i64 (q : Int) ∧ wr.ownsRow w.heap.size 80 1 (.slice (some ⟨w.heap.size, 0, none⟩) width width) width (A9 (By width q (FI rows ws (k + 1)) (FI rows ws k))) ∧ Below w.heap.size w wr)
    (fun _ i _ => width - (intOf i).toNat)
   case atStart => exact ⟨0, by omega, rfl, HA.out, HBL.out⟩
   case round =>
    clear HA HBL hbl hcr
    obtain ⟨q, hq, rfl, hownr, hbl⟩ := hrel
    by_cases hql : q < width
    ·obtain ⟨b2, off2, rfl, hcw0⟩ := Ds hrd2 k (by omega)
     obtain ⟨b3, off3, rfl, hcq0⟩ := Ds hrow q (by omega)
     have hcw : wr.cell? ⟨b2, off2 + k, none⟩ = some (.int .u16 ((ws.getD k 0 : Nat) : Int)) := by
      rw [hbl.cell (World.block_lt_of_cell? w _ hcw0)]; exact hcw0
     have hcq : wr.cell? ⟨b3, off3 + q, none⟩ = some (.int .u16 ((rows[k].getD q 0 : Nat) : Int)) := by
      rw [hbl.cell (World.block_lt_of_cell? w _ hcq0)]; exact hcq0
     have hcs : wr.cell? ⟨w.heap.size, q, none⟩ = some (.int .u16 ((FI rows ws k q : Nat) : Int)) := by
      rw [hownr.cellAt q (by omega)]
      have := EF width q (FI rows ws (k + 1)) (FI rows ws k) q hql
      rw [if_neg (by omega)] at this
      rw [← this]
      simp [A9, Bt, hql]
     have hfz := hownr.frozenAt q
     have hst := (hownr.stored q (.int .u16 ((FI rows ws (k + 1) q : Nat) : Int))).1
     have hown' : (wr.setCell ⟨w.heap.size, q, none⟩ (.int .u16 ((FI rows ws (k + 1) q : Nat) : Int))).ownsRow w.heap.size 80 1 (.slice (some ⟨w.heap.size, 0, none⟩) width width) width (A9 (By width (q + 1) (FI rows ws (k + 1)) (FI rows ws k))) := by
      rw [← FF]
      have e : A9 ((By width q (FI rows ws (k + 1)) (FI rows ws k)).set q (FI rows ws (k + 1) q)) = (A9 (By width q (FI rows ws (k + 1)) (FI rows ws k))).set q (.int .u16 ((FI rows ws (k + 1) q : Nat) : Int)) := by simp [A9, List.map_set]
      rw [e]; exact hst
     have hB' := hbl.setCell (p := ⟨w.heap.size, q, none⟩) (Nat.le_refl _) (.int .u16 ((FI rows ws (k + 1) q : Nat) : Int))
     have hsucc : FI rows ws (k + 1) q = FI rows ws k q ^^^ Math.mul (ws.getD k 0) (rows[k].getD q 0) := by
      rw [Ln]
      have e : rows.getD k [] = rows[k] := by simp [hlt]
      rw [e]
     have hal := JT (rows := rows) hw k q
     have hwl := AP hw k
     have hxl := AP hrx q
     have HO := Aa hown'
     have HBB := Aa hB'
     have HOR := Aa hownr
     clear hst hown' hB' hownr hcw0 hcq0
     obtain ⟨wk, hwk⟩ : ∃ x, x = ws.getD k 0 := ⟨_, rfl⟩
     obtain ⟨xq, hxq⟩ : ∃ x, x = rows[k].getD q 0 := ⟨_, rfl⟩
     obtain ⟨aq, haq⟩ : ∃ x, x = FI rows ws k q := ⟨_, rfl⟩
     rw [← hwk] at hcw hwl hsucc
     rw [← hxq] at hcq hxl hsucc
     rw [← haq] at hcs hal hsucc
     have hml : Math.mul wk xq < 65536 := Math.mul_lt hwl _
     have hx := Oi aq (Math.mul wk xq) hal hml
     have HSU := Aa hsucc
     have HRD2 := Aa hrd2
     have HROW := Aa hrow
     clear hwk hxq haq hsucc hrd2 hrow
     go_wp2_with fail
     go_region_with (go_at_call 60; refine (CF wk xq hwl hxl _).mono ?_; rintro e w' ⟨rfl, rfl⟩)
     all_goals
      rw [← HSU.out]
      go_wp2_with fail
      go_roundw
      case rel => exact ⟨q + 1, by omega, by go_num, HO.out.drew, HBB.out.drew⟩
      case measure => simp [intOf]; omega
    ·obtain rfl : q = width := by omega
     rw [Dt] at hownr
     go_wp2_with fail
     go_roundw
     case rel => exact ⟨k + 1, by omega, by go_num, hownr, hbl⟩
     case measure => simp [intOf]; omega
  ·obtain rfl : k = rows.length := by omega
   go_wp2_with fail
   go_ret
   exact ⟨_, rfl, hownr, hbl⟩
end Go.Proofs.YtonjphollmdicaaGreatDoor
