import Derived.Test.YtonjphollmdicaaGreatDoorB11
import Derived.Test.YtonjphollmdicaaGreatDoorB33
set_option maxRecDepth 100000
set_option maxHeartbeats 4000000
set_option linter.unusedSimpArgs false
namespace Go.Proofs.YtonjphollmdicaaGreatDoor
open Go.ChangeShapes Go.WideShapes Go.ChangeAt Go.RowKit
structure Res4 (w W : World) : Prop where
 r0 : W.cell? ⟨w.heap.size, 0, none⟩ = some (.string ⟨#[]⟩)
 r1 : W.cell? ⟨w.heap.size, 1, none⟩ = some (.int .i64 0)
 r2 : W.cell? ⟨w.heap.size, 2, none⟩ = some (.int .u64 0)
 r3 : W.cell? ⟨w.heap.size, 3, none⟩ = some (.slice none 0 0)
 y0 : W.frozen? ⟨w.heap.size, 0, none⟩ = false
 y1 : W.frozen? ⟨w.heap.size, 1, none⟩ = false
 y2 : W.frozen? ⟨w.heap.size, 2, none⟩ = false
 y3 : W.frozen? ⟨w.heap.size, 3, none⟩ = false
 below : Below w.heap.size w W
 size : w.heap.size < W.heap.size
theorem Res4.start (w : World) : Res4 w (w.alloc (.cells #[.string ⟨#[]⟩, .int .i64 0, .int .u64 0, .slice none 0 0] 101)) :=
 ⟨by simp, by simp, by simp, by simp, by simp, by simp, by simp, by simp, (Below.refl _ _).alloc (Nat.le_refl _) _, by simp⟩
theorem Res4.later {w W W' : World} (h : Res4 w W) (hb : Below W.heap.size W W') : Res4 w W' := by
 have hc : ∀ o, W'.cell? ⟨w.heap.size, o, none⟩ = W.cell? ⟨w.heap.size, o, none⟩ := fun o => hb.cell h.size
 have hf : ∀ o, W'.frozen? ⟨w.heap.size, o, none⟩ = W.frozen? ⟨w.heap.size, o, none⟩ := fun o => World.frozen?_of_block (w := W) (hb.block _ h.size)
 exact ⟨by rw [hc]; exact h.r0, by rw [hc]; exact h.r1, by rw [hc]; exact h.r2, by rw [hc]; exact h.r3, by rw [hf]; exact h.y0, by rw [hf]; exact h.y1, by rw [hf]; exact h.y2, by rw [hf]; exact h.y3, Below.next h.below hb, Nat.lt_of_lt_of_le h.size hb.size⟩
theorem Res4.alloc {w W : World} (h : Res4 w W) (o : Obj) : Res4 w (W.alloc o) := h.later ((Below.refl _ _).alloc (Nat.le_refl _) _)
theorem I5 (l : List FoundL) (set i hash b k : Nat) (hk : k < l.length) : Bl (l.drop k) set i hash b = match (if Cf set i hash l[k] then Hn l[k].body b else none) with | some d => some d | none => Bl (l.drop (k + 1)) set i hash b := by
 rw [List.drop_eq_getElem_cons hk]
 unfold Bl
 rw [List.findSome?_cons]
 cases (if Cf set i hash l[k] then Hn l[k].body b else none) <;> rfl
def Mm (D : Option DescL) (w : World) (e : Ending) (w' : World) : Prop := Below w.heap.size w w' ∧ match D with
 | some d => ∃ vs, e = .returned (.tuple #[.agg #[.string (str d.name), .int .i64 (d.long : Int), .int .u64 (d.hash : Int), vs], .bool true]) ∧ w'.ownsRow w.heap.size 63 1 vs d.slices.length (Cz d.slices)
 | none => e = .returned Gw
theorem IF (l : List FoundL) (set i hash b : Nat) (a : Option Addr) (cap : Nat) (hn : l.length ≤ 1000000000) (hl : ∀ f ∈ l, f.body.length ≤ 1000000) (hb0 : 0 < b) (hb1 : b ≤ 32) (w : World) (hrd : Rd w a (A8 l)) :
  Calls Tryz.prog 88 #[.slice a l.length cap, .int .u64 (set : Int), .int .i64 (i : Int), .int .u64 (hash : Int), .int .i64 (b : Int)] w fun e w' => Mm (Bl l set i hash b) w e w' := by
 have HRD := Aa hrd
 have HL := Aa hl
 clear hrd hl
 obtain ⟨D, hD⟩ : ∃ D, D = Bl l set i hash b := ⟨_, rfl⟩
 rw [← hD]
 have HD0 := Aa hD
 clear hD
 go_enter Tryz.func88, Tryz.ntmps88
 go_wp2_with fail
 go_loopw [12, 13, 14, 15, 16] (fun k' _ _ _ _ W => ∃ k : Nat, k ≤ l.length ∧ k' = .int .i64 (k : Int) ∧ Hid (D = Bl (l.drop k) set i hash b) ∧ Hid (Res4 w W))
  (fun k' _ _ _ _ _ => l.length - (intOf k').toNat)
 case atStart => exact ⟨0, by omega, rfl, HD0, Aa (Res4.start w)⟩
 case round =>
  clear HD0
  obtain ⟨k, hk, rfl, HC, HR⟩ := hrel
  by_cases hlt : k < l.length
  ·obtain ⟨bb, off, rfl, c0, c1, c2⟩ := DN HRD.out k hlt
   have hlb : bb < w.heap.size := World.block_lt_of_cell? w _ c0
   have d0 : wr.cell? ⟨bb, off + k * 3, none⟩ = some (.int .u8 (l[k].kind.toNat : Int)) := by rw [HR.out.below.cell hlb]; exact c0
   have d1 : wr.cell? ⟨bb, off + k * 3 + 1, none⟩ = some (.int .u64 (l[k].set : Int)) := by rw [HR.out.below.cell hlb]; exact c1
   have d2 : wr.cell? ⟨bb, off + k * 3 + 2, none⟩ = some (.string (str l[k].body)) := by rw [HR.out.below.cell hlb]; exact c2
   have hbl := HL.out l[k] (List.getElem_mem hlt)
   have hdrop := I5 l set i hash b k hlt
   obtain ⟨f, hf⟩ : ∃ f, f = l[k] := ⟨_, rfl⟩
   rw [← hf] at d0 d1 d2 hbl hdrop
   have HD := Aa hdrop
   clear hf hdrop c0 c1 c2
   have hbs := Ae f.body
   obtain ⟨m, hm⟩ : ∃ m, m = f.body.length := ⟨_, rfl⟩
   rw [← hm] at hbs hbl
   have HM := Aa hm
   clear hm
   have nextOf : Cf set i hash f = false → Hid (D = Bl (l.drop (k + 1)) set i hash b) := fun hno => Aa (by rw [HC.out, HD.out, hno]; rfl)
   have NX := Aa nextOf
   clear nextOf
   by_cases q1 : f.kind = 70
   ·have e1 : ((f.kind.toNat : Int) != 70) = false := by rw [q1]; rfl
    by_cases q2 : f.set = set
    ·have e2 : ((f.set : Int) != (set : Int)) = false := by simp [q2]
     by_cases q3 : 1 ≤ m
     ·have e3 : ¬ ((m : Int) < 1) := by omega
      have ix0 := CA f.body 0 0 rfl (by rw [← HM.out]; omega)
      have hg0 : f.body[0]?.getD 0 = f.body.getD 0 0 := by simp
      rw [hg0] at ix0
      obtain ⟨x, hx⟩ : ∃ x, x = f.body.getD 0 0 := ⟨_, rfl⟩
      rw [← hx] at ix0
      have hxl := x.toNat_lt
      have wx : IntKind.i64.wrap (x.toNat : Int) = (x.toNat : Int) := by rw [IntKind.wrap_i64]; omega
      have HX := Aa hx
      clear hx hg0
      by_cases q4 : x.toNat = i
      ·have e4 : ((x.toNat : Int) != (i : Int)) = false := by simp [q4]
       obtain ⟨W1, hW1⟩ : ∃ W, W = wr.alloc (.cells #[.int .u8 70, .int .u64 (set : Int), .string (str f.body)] 148) := ⟨_, rfl⟩
       have R1 := Aa (HR.out.alloc (.cells #[.int .u8 70, .int .u64 (set : Int), .string (str f.body)] 148))
       have g2 : W1.cell? ⟨wr.heap.size, 2, none⟩ = some (.string (str f.body)) := by rw [hW1]; simp
       rw [← hW1] at R1
       have hH := Aa (DS f.body (by rw [← HM.out]; omega) W1)
       have hF := Oa f.body b (by rw [← HM.out]; omega) hb0 hb1 W1
       have hall : Cf set i hash f = (AC f.body == hash) := by
        unfold Cf
        rw [q1, q2, ← HM.out, decide_eq_true q3, ← HX.out, q4]
        simp
       have HALL := Aa hall
       clear hall
       have hsz1 : wr.heap.size < W1.heap.size := by rw [hW1]; simp
       have HW1 := Aa hW1
       clear hW1
       cases hfm : Hn f.body b with
       | none =>
        rw [hfm] at hF
        have HF := Aa hF
        have H1 : Hid (D = Bl (l.drop (k + 1)) set i hash b) := Aa (by
         rw [HC.out, HD.out, HALL.out, hfm]
         cases (AC f.body == hash) <;> rfl)
        clear hF hfm HD HC NX HM HALL
        go_wp2_with fail
        rw [← HW1.out]
        refine hH.out.mono ?_
        rintro e w' ⟨rfl, hw'⟩
        have hw' := hw'.symm
        subst hw'
        go_wp2_with fail
        refine HF.out.mono ?_
        rintro e w3 ⟨hb3, rfl⟩
        unfold Gw
        have R3 := Aa (R1.out.later hb3)
        clear hb3
        go_wp2_with fail
        all_goals exact ⟨⟨k + 1, by omega, by go_num, H1, Aa (R3.out.alloc _)⟩, by simp [intOf]; omega⟩
       | some d =>
        rw [hfm] at hF
        have HF := Aa hF
        by_cases q5 : AC f.body = hash
        ·have H1 : Hid (D = some d) := Aa (by
          rw [HC.out, HD.out, HALL.out, hfm, q5]
          simp)
         rw [q5] at hH
         clear hF hfm HD HC NX HM HALL
         go_wp2_with fail
         rw [← HW1.out]
         refine hH.out.mono ?_
         rintro e w' ⟨rfl, hw'⟩
         have hw' := hw'.symm
         subst hw'
         go_wp2_with fail
         refine HF.out.mono ?_
         rintro e w3 ⟨hb3, vs, rfl, hown3⟩
         obtain ⟨av, cv, rfl, _, _, _⟩ := Aw hown3
         have R3 := (R1.out.later hb3).alloc (.cells #[.string (str d.name), .int .i64 (d.long : Int), .int .u64 (d.hash : Int), .slice av d.slices.length cv] 101)
         obtain ⟨r0, r1, r2, r3, y0, y1, y2, y3, hbl3, hsz3⟩ := R3
         have KO := Aa (hown3.alloc (.cells #[.string (str d.name), .int .i64 (d.long : Int), .int .u64 (d.hash : Int), .slice av d.slices.length cv] 101))
         have KB := Aa hbl3
         have hszw : w.heap.size < W1.heap.size := R1.out.size
         clear hb3 hown3 hbl3
         go_wp2_with fail
         refine bodyPost_ret (v := .tuple #[.agg #[.string (str d.name), .int .i64 (d.long : Int), .int .u64 (d.hash : Int), .slice av d.slices.length cv], .bool true]) (by simp [results, Tryz.results88, go_sem, r0, r1, r2, r3]) rfl ?_
         unfold Mm
         refine ⟨(((KB.out.setCell (Nat.le_refl _) _).setCell (Nat.le_refl _) _).setCell (Nat.le_refl _) _).setCell (Nat.le_refl _) _, ?_⟩
         rw [H1.out]
         refine ⟨_, rfl, ?_⟩
         have hne : ∀ o u, ∀ X : World, X.ownsRow W1.heap.size 63 1 (.slice av d.slices.length cv) d.slices.length (Cz d.slices) → (X.setCell ⟨w.heap.size, o, none⟩ u).ownsRow W1.heap.size 63 1 (.slice av d.slices.length cv) d.slices.length (Cz d.slices) := by
          intro o u X hX
          refine hX.kept (CQ X ⟨w.heap.size, o, none⟩ u) ?_
          cases hv : (Value.slice av d.slices.length cv).ownBlock with
          | none => exact .inl rfl
          | some kk =>
           right
           intro e
           have := (hX.lt kk hv).1
           simp only [Option.some.injEq] at e
           omega
         exact Ad (by omega) (hne _ _ _ (hne _ _ _ (hne _ _ _ (hne _ _ _ KO.out))))
        ·have H1 : Hid (D = Bl (l.drop (k + 1)) set i hash b) := Aa (by
          rw [HC.out, HD.out, HALL.out, beq_eq_false_iff_ne.2 q5]
          rfl)
         have e5 : ((AC f.body : Int) == (hash : Int)) = false := by simp; omega
         obtain ⟨hv, hhv⟩ : ∃ x, x = AC f.body := ⟨_, rfl⟩
         rw [← hhv] at hH e5
         clear hF hfm HD HC NX HM HALL q5 hhv
         go_wp2_with fail
         rw [← HW1.out]
         refine hH.out.mono ?_
         rintro e w' ⟨rfl, hw'⟩
         have hw' := hw'.symm
         subst hw'
         go_wp2_with fail
         refine HF.out.mono ?_
         rintro e w3 ⟨hb3, vs, rfl, hown3⟩
         obtain ⟨av, cv, rfl, _, _, _⟩ := Aw hown3
         have R3 := Aa (R1.out.later hb3)
         clear hb3 hown3
         go_wp2_with fail
         exact ⟨⟨k + 1, by omega, by go_num, H1, Aa (R3.out.alloc _)⟩, by simp [intOf]; omega⟩
      ·have e4 : ((x.toNat : Int) != (i : Int)) = true := by simp; omega
       have H1 := NX.out (by
        unfold Cf
        rw [← HX.out, beq_eq_false_iff_ne.2 q4, Bool.and_false, Bool.false_and])
       clear HD HC NX HM
       go_wp2_with fail
       exact ⟨⟨k + 1, by omega, by go_num, H1, Aa (HR.out.alloc _)⟩, by simp [intOf]; omega⟩
     ·have e3 : (m : Int) < 1 := by omega
      have H1 := NX.out (by
       unfold Cf
       rw [← HM.out, decide_eq_false q3, Bool.and_false, Bool.false_and, Bool.false_and])
      clear HD HC NX HM
      go_wp2_with fail
      exact ⟨⟨k + 1, by omega, by go_num, H1, Aa (HR.out.alloc _)⟩, by simp [intOf]; omega⟩
    ·have e2 : ((f.set : Int) != (set : Int)) = true := by simp; omega
     have H1 := NX.out (by
      unfold Cf
      rw [beq_eq_false_iff_ne.2 q2, Bool.and_false, Bool.false_and, Bool.false_and, Bool.false_and])
     clear HD HC NX HM
     go_wp2_with fail
     exact ⟨⟨k + 1, by omega, by go_num, H1, Aa (HR.out.alloc _)⟩, by simp [intOf]; omega⟩
   ·have e1 : ((f.kind.toNat : Int) != 70) = true := by
     simp only [bne_iff_ne, ne_eq]
     intro e
     exact q1 (UInt8.toNat_inj.1 (by simpa using (by exact_mod_cast e : f.kind.toNat = 70)))
    have H1 := NX.out (by
     unfold Cf
     rw [beq_eq_false_iff_ne.2 q1, Bool.false_and, Bool.false_and, Bool.false_and, Bool.false_and])
    clear HD HC NX HM
    go_wp2_with fail
    exact ⟨⟨k + 1, by omega, by go_num, H1, Aa (HR.out.alloc _)⟩, by simp [intOf]; omega⟩
  ·obtain rfl : l.length = k := by omega
   have hnone : D = none := by rw [HC.out, List.drop_length]; rfl
   have HNO := Aa hnone
   obtain ⟨r0, r1, r2, r3, y0, y1, y2, y3, hbl, hsz⟩ := HR.out
   have HB := Aa hbl
   clear hnone hbl
   go_wp2_with fail
   refine bodyPost_ret (v := .tuple #[.agg #[.string ⟨#[]⟩, .int .i64 0, .int .u64 0, .slice none 0 0], .bool false]) (by simp [results, Tryz.results88, go_sem, r0, r1, r2, r3]) rfl ?_
   unfold Mm
   refine ⟨(((HB.out.setCell (Nat.le_refl _) _).setCell (Nat.le_refl _) _).setCell (Nat.le_refl _) _).setCell (Nat.le_refl _) _, ?_⟩
   rw [HNO.out]
   rfl
theorem Mt (name : List UInt8) (long hash : Nat) (av : Option Addr) (ln cv : Nat) (fs : List Ak) (a : Option Addr) (cap : Nat) (hn : fs.length ≤ 1000) (hf : ∀ f ∈ fs, f.2.length ≤ 1000000) (w : World) (hrd : Rd w a (As fs)) :
  Calls Tryz.prog 44 #[.agg #[.string (str name), .int .i64 (long : Int), .int .u64 (hash : Int), .slice av ln cv], .slice a fs.length cap] w fun e w' => e = .returned (.int .i64 (D6 name long hash fs : Int)) ∧ Below w.heap.size w w' := by
 have HRD := Aa hrd
 have HF := Aa hf
 clear hrd hf
 obtain ⟨R, hR⟩ : ∃ R, R = D6 name long hash fs := ⟨_, rfl⟩
 rw [← hR]
 have HR0 := Aa hR
 clear hR
 go_enter Tryz.func44, Tryz.ntmps44
 go_wp2_with fail
 go_loopw [5, 6] (fun i _ W => ∃ k : Nat, k ≤ fs.length ∧ i = .int .i64 (k : Int) ∧ Hid (R = D6 name long hash (fs.drop k)) ∧ W.cell? ⟨w.heap.size, 0, none⟩ = some (.string (str name)) ∧ W.cell? ⟨w.heap.size, 1, none⟩ = some (.int .i64 (long : Int)) ∧ W.cell? ⟨w.heap.size, 2, none⟩ = some (.int .u64 (hash : Int)) ∧ Below w.heap.size w W)
  (fun i _ _ => fs.length - (intOf i).toNat)
 case atStart => exact ⟨0, by omega, rfl, HR0, by simp, by simp, by simp, (Below.refl _ _).alloc (Nat.le_refl _) _⟩
 case round =>
  clear HR0
  obtain ⟨k, hk, rfl, HC, d0, d1, d2, hbl⟩ := hrel
  by_cases hlt : k < fs.length
  ·obtain ⟨bb, off, rfl, c0, c1⟩ := Bk HRD.out (Nat.le_refl _) hbl k hlt
   have hfl := HF.out fs[k] (List.getElem_mem hlt)
   have hst := Jx name long hash fs k hlt
   obtain ⟨f, hf⟩ : ∃ f, f = fs[k] := ⟨_, rfl⟩
   rw [← hf] at c0 c1 hfl hst
   have HST := Aa hst
   have HB := Aa hbl
   clear hf hst hbl
   have hbs := Ae f.2
   obtain ⟨m, hm⟩ : ∃ m, m = f.2.length := ⟨_, rfl⟩
   rw [← hm] at hbs hfl
   have HM := Aa hm
   clear hm
   by_cases q1 : f.1 = name
   ·have e1 : ((str f.1).toList == (str name).toList) = true := by rw [q1]; simp
    have hH := Aa (fun W => DS f.2 (by rw [← HM.out]; omega) W)
    have hR : R = if m = long ∧ AC f.2 = hash then 1 else 2 := by rw [HC.out, HST.out, if_pos q1, HM.out]
    obtain ⟨hv, hhv⟩ : ∃ x, x = AC f.2 := ⟨_, rfl⟩
    rw [← hhv] at hH hR
    have HRR := Aa hR
    clear hR hhv HST HC
    by_cases q2 : m = long
    ·have e2 : ((m : Int) == (long : Int)) = true := by simp [q2]
     by_cases q3 : hv = hash
     ·have e3 : ((hv : Int) == (hash : Int)) = true := by simp [q3]
      have HR1 : Hid (R = 1) := Aa (by rw [HRR.out, if_pos ⟨q2, q3⟩])
      clear HRR q2 q3
      go_wp2_with fail
      go_quiet (fail)
      go_wp2_with fail
      refine (hH.out _).mono ?_
      rintro e w' ⟨rfl, hw'⟩
      subst hw'
      go_wp2_with fail
      go_quiet (fail)
      go_wp2_with fail
      go_ret
      exact ⟨by rw [HR1.out]; rfl, BJ (BJ HB.out _) _⟩
     ·have e3 : ((hv : Int) == (hash : Int)) = false := by simp; omega
      have HR1 : Hid (R = 2) := Aa (by rw [HRR.out, if_neg (fun h => q3 h.2)])
      clear HRR q2 q3
      go_wp2_with fail
      go_quiet (fail)
      go_wp2_with fail
      refine (hH.out _).mono ?_
      rintro e w' ⟨rfl, hw'⟩
      subst hw'
      go_wp2_with fail
      go_quiet (fail)
      go_wp2_with fail
      go_ret
      exact ⟨by rw [HR1.out]; rfl, BJ (BJ HB.out _) _⟩
    ·have e2 : ((m : Int) == (long : Int)) = false := by simp; omega
     have HR1 : Hid (R = 2) := Aa (by rw [HRR.out, if_neg (fun h => q2 h.1)])
     clear HRR q2
     go_wp2_with fail
     go_quiet (fail)
     go_wp2_with fail
     refine (hH.out _).mono ?_
     rintro e w' ⟨rfl, hw'⟩
     subst hw'
     go_wp2_with fail
     go_quiet (fail)
     go_wp2_with fail
     go_ret
     exact ⟨by rw [HR1.out]; rfl, BJ (BJ HB.out _) _⟩
   ·have e1 : ((str f.1).toList == (str name).toList) = false := by rw [Au, Au, beq_eq_false_iff_ne]; exact q1
    have H1 : Hid (R = D6 name long hash (fs.drop (k + 1))) := Aa (by rw [HC.out, HST.out, if_neg q1])
    clear HST HC q1
    go_wp2_with fail
    go_quiet (fail)
    go_wp2_with fail
    exact ⟨⟨k + 1, by omega, by go_num, H1, by simpa using d0, by simpa using d1, by simpa using d2, BJ HB.out _⟩, by simp [intOf]; omega⟩
  ·obtain rfl : fs.length = k := by omega
   have hR : R = 3 := by rw [HC.out, List.drop_length]; rfl
   have HRR := Aa hR
   have HB := Aa hbl
   clear hR HC hbl
   go_wp2_with fail
   go_ret
   exact ⟨by rw [HRR.out]; rfl, HB.out⟩
theorem KU (b hash : Nat) (data : List UInt8) (j : Nat) (h : j < data.length) : Dh b hash data j = if AC (CP data b j) = hash then some (CP data b j) else Dh b hash data (j + 1) := by
 unfold Dh
 rw [List.drop_eq_getElem_cons (by simpa using h), List.findSome?_cons]
 simp only [List.getElem_range]
 split <;> split <;> simp_all
theorem MM (b hash : Nat) (data : List UInt8) : Dh b hash data data.length = none := by
 unfold Dh
 rw [List.drop_of_length_le (by simp)]
 rfl
theorem IM (fs : List Ak) (b hash k : Nat) (h : k < fs.length) : AL (fs.drop k) b hash = match Dh b hash fs[k].2 0 with | some p => some p | none => AL (fs.drop (k + 1)) b hash := by
 rw [List.drop_eq_getElem_cons h]
 unfold AL
 rw [List.findSome?_cons]
 cases Dh b hash fs[k].2 0 <;> rfl
def RJ (p : Option (List UInt8)) : Value := match p with
 | some t => .tuple #[.string (str t), .bool true]
 | none => .tuple #[.string ⟨#[]⟩, .bool false]
theorem Mv (fs : List Ak) (b hash : Nat) (a : Option Addr) (cap : Nat) (hb2 : 2 ≤ b) (hb1 : b ≤ 32) (hn : fs.length ≤ 1000) (hf : ∀ f ∈ fs, f.2.length ≤ 400) (w : World) (hrd : Rd w a (As fs)) :
  Calls Tryz.prog 45 #[.slice a fs.length cap, .int .i64 (b : Int), .int .u64 (hash : Int)] w fun e w' => e = .returned (RJ (AL fs b hash)) ∧ Below w.heap.size w w' := by
 have HRD := Aa hrd
 have HF := Aa hf
 clear hrd hf
 obtain ⟨R, hR⟩ : ∃ R, R = AL fs b hash := ⟨_, rfl⟩
 rw [← hR]
 have HR0 := Aa hR
 clear hR
 go_enter Tryz.func45, Tryz.ntmps45
 go_wp2_with fail
 go_loopw [8, 9, 10, 11] (fun i _ _ _ W => ∃ k : Nat, k ≤ fs.length ∧ i = .int .i64 (k : Int) ∧ Hid (R = AL (fs.drop k) b hash) ∧ Below w.heap.size w W)
  (fun i _ _ _ _ => fs.length - (intOf i).toNat)
 case atStart => exact ⟨0, by omega, rfl, HR0, Below.refl _ _⟩
 case round =>
  clear HR0
  obtain ⟨k, hk, rfl, HC, hbl⟩ := hrel
  by_cases hlt : k < fs.length
  ·obtain ⟨bb, off, rfl, _, c1⟩ := Bk HRD.out (Nat.le_refl _) hbl k hlt
   have hfl := HF.out fs[k] (List.getElem_mem hlt)
   have hst := IM fs b hash k hlt
   obtain ⟨data, hd⟩ : ∃ d, d = fs[k].2 := ⟨_, rfl⟩
   rw [← hd] at c1 hfl hst
   have HST := Aa hst
   have HB := Aa hbl
   have hsz := hbl.size
   clear hd hst hbl
   have hds := Ae data
   obtain ⟨m, hm⟩ : ∃ m, m = b - 1 := ⟨_, rfl⟩
   have em : (b : Int) - 1 = (m : Int) := by omega
   have hm1 : m ≤ 31 := by omega
   have hlb : bb < wr.heap.size := World.block_lt_of_cell? wr _ c1
   have c1' : ∀ o, (wr.alloc o).cell? ⟨bb, off + k * 2 + 1, none⟩ = some (.string (str data)) := fun o => by rw [An hlb]; exact c1
   have wm2 : IntKind.i64.wrap (m : Int) = (m : Int) := by rw [IntKind.wrap_i64]; omega
   have wm : IntKind.i64.wrap ((b : Int) - 1) = (m : Int) := by rw [IntKind.wrap_i64]; omega
   have hmk := fun W => run_make_row' (P := Tryz.prog) 67 5 (.int .u8 0) 1 Tryz.underlying67 Tryz.info8 rfl .i64 .i64 m (by omega) (by omega) W
   have hcv := fun W => (Gl m (by omega) W).1
   have hcv' := fun W => (Gl m (by omega) W).2
   have z2 : (str (List.replicate m 0)).size = m := by rw [Ae, List.length_replicate]
   have e2 : str data ++ str (List.replicate m 0) = str (GR data b) := by rw [KE, GR, hm]
   have HM := Aa hm
   obtain ⟨ln, hln⟩ : ∃ x, x = data.length := ⟨_, rfl⟩
   rw [← hln] at hds hfl
   have HLN := Aa hln
   clear hm hln
   go_wp2_with fail
   go_region
   have hb3 : Below w.heap.size w (wr.alloc (.cells (madeCells #[.int .u8 0] m) 5)).drew := (HB.out.alloc hsz _).drew
   obtain ⟨W1, hW1⟩ : ∃ X, X = (wr.alloc (.cells (madeCells #[.int .u8 0] m) 5)).drew := ⟨_, rfl⟩
   rw [← hW1] at hb3 ⊢
   have HB3 := Aa hb3
   have hlw : bb < w.heap.size := by
    obtain ⟨b9, o9, e9, hc9⟩ := HRD.out 0 (.string (str (fs[0]'(by omega)).1)) (by
     have := (Ez fs 0 (by omega)).1
     simpa using this)
    cases e9
    exact World.block_lt_of_cell? w _ hc9
   have hcw : Hid (∀ W, Below w.heap.size w W → W.cell? ⟨bb, off + k * 2 + 1, none⟩ = some (.string (str data))) := Aa (fun W hW => by
    rw [hW.cell hlw, ← HB.out.cell hlw]; exact c1)
   have hsf : (str (GR data b)).size = ln + m := by rw [Ae, GR, List.length_append, List.length_replicate, HLN.out, HM.out]
   have hbm : m + 1 = b := by have := HM.out; omega
   clear hW1 hb3 hmk hcv hcv' c1 c1' hds z2 e2 em wm wm2 HB hsz hlb
   go_wp2_with fail
   go_loopw [10, 11] (fun at' _ W => ∃ j : Nat, j ≤ ln ∧ at' = .int .i64 (j : Int) ∧ Hid (Dh b hash data 0 = Dh b hash data j) ∧ Below w.heap.size w W)
    (fun at' _ _ => ln - (intOf at').toNat)
   case atStart => exact ⟨0, by omega, rfl, Aa rfl, HB3.out⟩
   case round =>
    clear HB3
    obtain ⟨j, hj, rfl, HP, hbl⟩ := hrel
    have d1 := hcw.out wr hbl
    have hds := Ae data
    rw [← HLN.out] at hds
    by_cases hjl : j < ln
    ·have hstep := KU b hash data j (by rw [← HLN.out]; exact hjl)
     have ex : (str (GR data b)).extract j (j + b) = str (CP data b j) := by rw [AB, Nat.add_sub_cancel_left]; rfl
     have hH := Aa (DS (CP data b j) (by unfold CP; rw [List.length_take]; omega) wr)
     have wj : IntKind.i64.wrap ((j : Int) + (b : Int)) = (j : Int) + (b : Int) := by rw [IntKind.wrap_i64]; omega
     have g1 : (0 : Int) ≤ (j : Int) := by omega
     have g2 : (j : Int) ≤ (j : Int) + (b : Int) := by omega
     have g3 : (j : Int) + (b : Int) ≤ ((ln + m : Nat) : Int) := by omega
     have g4 : ((j : Int) + (b : Int)).toNat = j + b := by omega
     have HSP := Aa hstep
     have HB4 := Aa hbl
     obtain ⟨p, hp⟩ : ∃ p, p = CP data b j := ⟨_, rfl⟩
     rw [← hp] at ex hH HSP
     obtain ⟨hv, hhv⟩ : ∃ x, x = AC p := ⟨_, rfl⟩
     rw [← hhv] at hH HSP
     clear hstep hp hhv hbl
     by_cases q : hv = hash
     ·have e1 : ((hv : Int) == (hash : Int)) = true := by simp [q]
      have HRR : Hid (R = some p) := Aa (by rw [HC.out, HST.out, HP.out, HSP.out, if_pos q])
      clear HSP HP HC HST q
      go_wp2_with fail
      refine hH.out.mono ?_
      rintro e w' ⟨rfl, hw'⟩
      have hw' := hw'.symm
      subst hw'
      go_wp2_with fail
      go_ret2
      exact ⟨by rw [HRR.out]; rfl, HB4.out⟩
     ·have e1 : ((hv : Int) == (hash : Int)) = false := by simp; omega
      have HP2 : Hid (Dh b hash data 0 = Dh b hash data (j + 1)) := Aa (by rw [HP.out, HSP.out, if_neg q])
      clear HSP HP q
      go_wp2_with fail
      refine hH.out.mono ?_
      rintro e w' ⟨rfl, hw'⟩
      have hw' := hw'.symm
      subst hw'
      go_wp2_with fail
      exact ⟨⟨j + 1, by omega, by go_num, HP2, HB4.out⟩, by simp [intOf]; omega⟩
    ·obtain rfl : ln = j := by omega
     have H1 : Hid (R = AL (fs.drop (k + 1)) b hash) := Aa (by rw [HC.out, HST.out, HP.out, HLN.out, MM])
     have HB4 := Aa hbl
     clear hbl HP HC HST
     go_wp2_with fail
     exact ⟨⟨k + 1, by omega, by go_num, H1, HB4.out⟩, by simp [intOf]; omega⟩
  ·obtain rfl : fs.length = k := by omega
   have hR : R = none := by rw [HC.out, List.drop_length]; rfl
   have HRR := Aa hR
   have HB := Aa hbl
   clear hR HC hbl
   go_wp2_with fail
   go_ret2
   exact ⟨by rw [HRR.out]; rfl, HB.out⟩
end Go.Proofs.YtonjphollmdicaaGreatDoor
