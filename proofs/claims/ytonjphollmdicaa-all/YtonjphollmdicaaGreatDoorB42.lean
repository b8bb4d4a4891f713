import Derived.Test.YtonjphollmdicaaGreatDoorB03
import Derived.Test.YtonjphollmdicaaGreatDoorB31
import Derived.Test.YtonjphollmdicaaGreatDoorB41
import Derived.Shelf.Strings.OnBuilder
import Derived.Shelf.LaysM
import Derived.Shelf.Strconv.Clone
import Derived.Test.YtonjphollmdicaaGreatDoorProg
set_option maxRecDepth 100000
set_option maxHeartbeats 4000000
set_option linter.unusedSimpArgs false
namespace Go.Proofs
open Go.Shelf
def Tryz.lays156_ren : Go.Shelf.Ren := ⟨fun | 156 => 136 | 165 => 131 | 166 => 132 | 169 => 134 | 240 => 146 | 241 => 147 | 276 => 159 | 277 => 160 | n => n, fun | 31 => 23 | 9 => 9 | 3 => 3 | 4 => 4 | 0 => 0 | 20 => 20 | 72 => 217 | 76 => 221 | 70 => 215 | 37 => 67 | 75 => 220 | 127 => 234 | 164 => 247 | 5 => 5 | 80 => 169 | n => n, fun | n => n⟩
theorem Tryz.lays156 : Go.Proofs.Lays.n156 Tryz.prog Tryz.lays156_ren := {
 mixed := by kernel_rfl
 f156 := Tryz.func136.trans (congrArg some (by kernel_rfl))
 f165 := Tryz.func131.trans (congrArg some (by kernel_rfl))
 f166 := Tryz.func132.trans (congrArg some (by kernel_rfl))
 f169 := Tryz.func134.trans (congrArg some (by kernel_rfl))
 f240 := Tryz.func146.trans (congrArg some (by kernel_rfl))
 f241 := Tryz.func147.trans (congrArg some (by kernel_rfl))
 f276 := Tryz.func159.trans (congrArg some (by kernel_rfl))
 f277 := Tryz.func160.trans (congrArg some (by kernel_rfl))
 t0 := Tryz.underlying0
 a0 := Tryz.isAgg0
 z0 := Tryz.sizeOf0
 v0 := Tryz.zeroValue0
 t3 := Tryz.underlying3
 a3 := Tryz.isAgg3
 z3 := Tryz.sizeOf3
 v3 := Tryz.zeroValue3
 t4 := Tryz.underlying4
 a4 := Tryz.isAgg4
 z4 := Tryz.sizeOf4
 v4 := Tryz.zeroValue4
 t9 := Tryz.underlying9
 a9 := Tryz.isAgg9
 z9 := Tryz.sizeOf9
 v9 := Tryz.zeroValue9
 t20 := Tryz.underlying20
 a20 := Tryz.isAgg20
 z20 := Tryz.sizeOf20
 v20 := Tryz.zeroValue20
 t31 := Tryz.underlying23
 a31 := Tryz.isAgg23
 z31 := Tryz.sizeOf23
 v31 := Tryz.zeroValue23
 t37 := Tryz.underlying67
 a37 := Tryz.isAgg67
 z37 := Tryz.sizeOf67
 v37 := Tryz.zeroValue67
 t70 := Tryz.underlying215
 a70 := Tryz.isAgg215
 z70 := Tryz.sizeOf215
 v70 := Tryz.zeroValue215
 t72 := Tryz.underlying217
 a72 := Tryz.isAgg217
 z72 := Tryz.sizeOf217
 v72 := Tryz.zeroValue217
 t75 := Tryz.underlying220
 a75 := Tryz.isAgg220
 z75 := Tryz.sizeOf220
 v75 := Tryz.zeroValue220
 t76 := Tryz.underlying221
 a76 := Tryz.isAgg221
 z76 := Tryz.sizeOf221
 v76 := Tryz.zeroValue221
 t127 := Tryz.underlying234
 a127 := Tryz.isAgg234
 z127 := Tryz.sizeOf234
 v127 := Tryz.zeroValue234
 t164 := Tryz.underlying247
 a164 := Tryz.isAgg247
 z164 := Tryz.sizeOf247
 v164 := Tryz.zeroValue247 }
theorem Tryz.Builder_Extra_156 : Builder.Extra Tryz.prog Tryz.lays156_ren := {
 sizeBuilder := by kernel_rfl
 liesBuilder := by kernel_rfl
 t5 := Tryz.underlying5
 a5 := Tryz.isAgg5
 z5 := Tryz.sizeOf5
 v5 := Tryz.zeroValue5
 infoByte := by kernel_rfl
 cellsByte := by kernel_rfl
 sizeByte := by kernel_rfl
 neB5 := by decide }
open Go.RowKit in
theorem Tryz.strings_Join_none (a : Option Addr) (c : Nat) (sep : ByteArray) (w : World) :
  Calls Tryz.prog 136 #[.slice a 0 c, .string sep] w fun e w' => e = .returned (.string ⟨#[]⟩) ∧ w' = w := Any.strings_Join_none Tryz.lays156 Tryz.Builder_Extra_156 a c sep w
open Go.RowKit in
theorem Tryz.strings_Join (bk o c : Nat) (xs : List ByteArray) (sep : ByteArray) (w : World) (hcells : ∀ (j : Nat) x, xs[j]? = some x → w.cell? ⟨bk, o + j, none⟩ = some (.string x)) (hbk : bk < w.heap.size) (hN : xs.length ≤ 140737488355328) (hcap : xs.length ≤ c) (hlen : (Lib.join (xs.map (·.data.toList)) sep.data.toList).length ≤ 140737488355328) :
  Calls Tryz.prog 136 #[.slice (some ⟨bk, o, none⟩) xs.length c, .string sep] w fun e w' => e = .returned (.string ⟨(Lib.join (xs.map (·.data.toList)) sep.data.toList).toArray⟩) ∧ Below w.heap.size w w' := Any.strings_Join Tryz.lays156 Tryz.Builder_Extra_156 bk o c xs sep w hcells hbk hN hcap hlen
def Tryz.laysM316_ren : Go.Shelf.Ren := ⟨fun | 316 => 135 | n => n, fun | 9 => 9 | 3 => 3 | 4 => 4 | 37 => 67 | 0 => 0 | 127 => 234 | 5 => 5 | n => n, fun | n => n⟩
theorem Tryz.laysM316 : Go.Proofs.LaysM.n316 Tryz.prog Tryz.laysM316_ren := {
 mixed := by kernel_rfl
 f316 := Tryz.func135.trans (congrArg some (by kernel_rfl))
 t0 := Tryz.underlying0
 a0 := Tryz.isAgg0
 z0 := Tryz.sizeOf0
 v0 := Tryz.zeroValue0
 t3 := Tryz.underlying3
 a3 := Tryz.isAgg3
 z3 := Tryz.sizeOf3
 v3 := Tryz.zeroValue3
 t4 := Tryz.underlying4
 a4 := Tryz.isAgg4
 z4 := Tryz.sizeOf4
 v4 := Tryz.zeroValue4
 t9 := Tryz.underlying9
 a9 := Tryz.isAgg9
 z9 := Tryz.sizeOf9
 v9 := Tryz.zeroValue9
 t37 := Tryz.underlying67
 a37 := Tryz.isAgg67
 z37 := Tryz.sizeOf67
 v37 := Tryz.zeroValue67
 t127 := Tryz.underlying234
 a127 := Tryz.isAgg234
 z127 := Tryz.sizeOf234
 v127 := Tryz.zeroValue234
 t5 := Tryz.underlying5
 a5 := Tryz.isAgg5
 z5 := Tryz.sizeOf5
 v5 := Tryz.zeroValue5
 i0 := by kernel_rfl
 i3 := by kernel_rfl
 i4 := by kernel_rfl
 i5 := by kernel_rfl
 i9 := by kernel_rfl
 i37 := by kernel_rfl
 i127 := by kernel_rfl }
open Go.RowKit in
theorem Tryz.stringslite_Clone (s : ByteArray) (w : World) (hlim : s.size ≤ 281474976710656) :
  Calls Tryz.prog 135 #[.string s] w fun e w' => e = .returned (.string s) ∧ Below w.heap.size w w' := Any.stringslite_Clone Tryz.laysM316 s w hlim
end Go.Proofs
namespace Go.Proofs.YtonjphollmdicaaGreatDoor
open Go.ChangeShapes Go.WideShapes Go.ChangeAt Go.RowKit
theorem In : ∀ (l : List (List UInt8)), Lib.join l [] = l.flatten
 | [] => rfl
 | [x] => by simp [Lib.join]
 | x :: y :: r => by
  have h := In (y :: r)
  have e : Lib.join (x :: y :: r) [] = x ++ Lib.join (y :: r) [] := by simp [Lib.join, List.intercalate]
  rw [e, h]
  rfl
theorem Ju (l : List UInt8) (hl : l.length ≤ 1000000) (w : World) :
  Calls Tryz.prog 116 #[.string (str l)] w fun e w' => e = .returned (.string (str l)) ∧ Below w.heap.size w w' := by
 have hC := Aa (fun W => Tryz.stringslite_Clone (str l) W (by rw [Ae]; omega))
 go_enter Tryz.func116, Tryz.ntmps116
 go_wp2_with fail
 refine (hC.out _).mono ?_
 rintro e w1 ⟨rfl, hb⟩
 go_wp2_with fail
 go_ret
 exact ⟨rfl, hb⟩
theorem NT (ts : List (List UInt8)) (a : Option Addr) (c : Nat) (hc : ts.length ≤ c) (hn : ts.length ≤ 1000) (hl : ts.flatten.length ≤ 1000000) (w : World) (hrd : Rd w a (AM ts)) :
  Calls Tryz.prog 136 #[.slice a ts.length c, .string ⟨#[]⟩] w fun e w' => e = .returned (.string (str ts.flatten)) ∧ Below w.heap.size w w' := by
 cases ts with
 | nil =>
  refine (Tryz.strings_Join_none a c ⟨#[]⟩ w).mono ?_
  rintro e w' ⟨rfl, rfl⟩
  exact ⟨rfl, Below.refl _ _⟩
 | cons t r =>
  obtain ⟨b, off, rfl, h0⟩ := hrd 0 (.string (str t)) rfl
  have hx : ((t :: r).map str).map (fun s : ByteArray => s.data.toList) = t :: r := by
   rw [List.map_map]
   have : ((fun s : ByteArray => s.data.toList) ∘ str) = id := funext fun l => De l
   rw [this, List.map_id]
  have key := Tryz.strings_Join b off c ((t :: r).map str) ⟨#[]⟩ w (fun j x hj => by
   obtain ⟨b', off', e, h⟩ := hrd j (.string x) (by
    rw [List.getElem?_map] at hj
    unfold AM
    rw [List.getElem?_map]
    cases h2 : (t :: r)[j]? with
    | none => rw [h2] at hj; cases hj
    | some y => rw [h2] at hj; cases hj; rfl)
   cases e
   exact h) (World.block_lt_of_cell? w _ h0) (by rw [List.length_map]; omega) (by rw [List.length_map]; exact hc) (by rw [hx]; show (Lib.join (t :: r) []).length ≤ _; rw [In]; omega)
  rw [List.length_map, hx] at key
  refine key.mono ?_
  rintro e w' ⟨rfl, hb⟩
  refine ⟨?_, hb⟩
  show Ending.returned (.string ⟨(Lib.join (t :: r) []).toArray⟩) = _
  rw [In]
  rfl
theorem Qr (ts : List (List UInt8)) (a : Option Addr) (c n : Nat) (hc : ts.length ≤ c) (hn : ts.length ≤ 1000) (hl : ts.flatten.length ≤ 1000000) (hn2 : n ≤ ts.flatten.length) (w : World) (hrd : Rd w a (AM ts)) :
  Calls Tryz.prog 117 #[.slice a ts.length c, .int .i64 (n : Int)] w fun e w' => e = .returned (.string (str (ts.flatten.take n))) ∧ Below w.heap.size w w' := by
 have hJ := Aa (NT ts a c hc hn hl w hrd)
 have hC := Aa (fun W => Ju (ts.flatten.take n) (by rw [List.length_take]; omega) W)
 have hx : (str ts.flatten).extract 0 n = str (ts.flatten.take n) := by rw [AB]; simp
 have hs := Ae ts.flatten
 obtain ⟨F, hF⟩ : ∃ x, x = ts.flatten := ⟨_, rfl⟩
 rw [← hF] at hJ hC hx hs hn2 hl ⊢
 clear hF hrd
 go_enter Tryz.func117, Tryz.ntmps117
 go_wp2_with fail
 refine hJ.out.mono ?_
 rintro e w1 ⟨rfl, hb1⟩
 go_wp2_with fail
 refine (hC.out _).mono ?_
 rintro e w2 ⟨rfl, hb2⟩
 go_wp2_with fail
 go_ret
 exact ⟨rfl, Below.next hb1 hb2⟩
open Go.Maps
def EZ (f : FoundL) : DescL := ⟨AW f.body, Bh f.body, BQ f.body, Ai f.body⟩
theorem Tryz.infoFile : (Tryz.prog.info? 62).map (fun i => (i.zero, i.size, i.bytes)) = some (some (.agg #[.string ByteArray.empty, .string ByteArray.empty]), 2, 32) := by kernel_rfl
def N9 (L : List FoundL) (k : Nat) : Nat := ((L.take k).map fun f => (Ai f.body).length).sum
theorem Mu : ∀ (L : List FoundL) (SS : List (List UInt8)) (k : Nat) (h : k < L.length), (F9 (L.map EZ) SS)[k]? = some (AW L[k].body, ((SS.drop (N9 L k)).take (Ai L[k].body).length).flatten.take (Bh L[k].body))
  | [], _, k, h => by simp at h
  | f :: r, SS, 0, h => by
    have e : N9 (f :: r) 0 = 0 := rfl
    rw [e, List.drop_zero]
    rfl
  | f :: r, SS, k + 1, h => by
    have ih := Mu r (SS.drop (Ai f.body).length) k (by simpa using h)
    have e : N9 (f :: r) (k + 1) = (Ai f.body).length + N9 r k := by simp [N9]
    rw [e, ← List.drop_drop]
    exact ih
theorem Kv : ∀ (ds : List DescL) (SS : List (List UInt8)), (F9 ds SS).length = ds.length
  | [], _ => rfl
  | d :: r, SS => by simp [F9, Kv r]
theorem Lt (L : List FoundL) (k : Nat) (h : k < L.length) : N9 L (k + 1) = N9 L k + (Ai L[k].body).length := by
  unfold N9
  rw [Ap L k h, List.map_append, List.sum_append]
  simp
theorem RS (L : List FoundL) (k : Nat) : N9 L k ≤ (L.map fun f => (Ai f.body).length).sum := by
  unfold N9
  have := List.take_append_drop k L
  conv => rhs; rw [← this, List.map_append, List.sum_append]
  omega
theorem Ru (z : Value) (m : Nat) : (madeCells #[z, z] m).toList = List.replicate m z := by
  apply List.ext_getElem?
  intro j
  by_cases hj : j < m
  · rcases Nat.mod_two_eq_zero_or_one j with h | h <;> simp [madeCells, hj, h]
  · simp [madeCells, hj]
theorem OI (n : Nat) : As (List.replicate n ([], [])) = (madeCells #[.string ByteArray.empty, .string ByteArray.empty] (n * 2)).toList := by
  rw [Ru]
  induction n with
  | zero => rfl
  | succ n ih =>
    rw [show (n + 1) * 2 = n * 2 + 1 + 1 from by omega, List.replicate_succ, List.replicate_succ, List.replicate_succ, ← ih]
    rfl
theorem Ol (zs : List Ak) (k : Nat) (f : Ak) (h : k < zs.length) : As (zs.set k f) = ((As zs).set (k * 2) (.string (str f.1))).set (k * 2 + 1) (.string (str f.2)) := by
  induction zs generalizing k with
  | nil => simp at h
  | cons z r ih =>
    have ee : ∀ x : Ak, ∀ l, As (x :: l) = .string (str x.1) :: .string (str x.2) :: As l := fun _ _ => rfl
    cases k with
    | zero => rfl
    | succ k =>
      rw [List.set_cons_succ, ee, ee, ih k (by simpa using h), show (k + 1) * 2 = k * 2 + 1 + 1 from by omega]
      rfl
theorem I2 (size : Nat) (fa : Option Addr) (fc : Nat) (L : List FoundL) (x2 x3 x4 : Value) (sa : Option Addr) (sc : Nat) (SS : List (List UInt8)) (base : Nat) (h32 : size ≤ 32) (hL6 : L.length ≤ 6) (hK1 : 1 ≤ SS.length) (hK : SS.length ≤ 60) (hsum : (L.map fun f => (Ai f.body).length).sum = SS.length) (hsc : SS.length ≤ sc)
    (hSS : ∀ t ∈ SS, t.length = size) (hlong : ∀ f ∈ L, Bh f.body ≤ (Ai f.body).length * size ∧ (AW f.body).length ≤ 100) (w : World) (hFR : FRow w base fa L) (hS : Rd w sa (AM SS)) :
    Calls Tryz.prog 90 #[.agg #[.int .i64 (size : Int), .slice fa L.length fc, x2, x3, x4], .slice sa SS.length sc] w fun e w' => ∃ v, e = .returned v ∧ w'.ownsRow w.heap.size 62 2 v L.length (As (F9 (L.map EZ) SS)) ∧ Below w.heap.size w w' := by
  obtain ⟨i0, hi, hz0, hz1, hz2⟩ := info_parts Tryz.infoFile
  have hbk := Blk.new w #[.int .i64 (size : Int), .slice fa L.length fc, x2, x3, x4] 92
  have hb1 : Below w.heap.size w (w.alloc (.cells #[.int .i64 (size : Int), .slice fa L.length fc, x2, x3, x4] 92)) := (Below.refl _ _).alloc (Nat.le_refl _) _
  obtain ⟨W1, hW1⟩ : ∃ x, x = w.alloc (.cells #[.int .i64 (size : Int), .slice fa L.length fc, x2, x3, x4] 92) := ⟨_, rfl⟩
  rw [← hW1] at hbk hb1
  have hs1 : W1.heap.size = w.heap.size + 1 := by rw [hW1]; simp
  have q1 := (hbk 1 _ rfl).1
  obtain ⟨n, hn⟩ : ∃ x, x = L.length := ⟨_, rfl⟩
  rw [← hn] at q1 hW1 hL6 ⊢
  have HW1 := Aa hW1
  have HB1 := Aa hb1
  have HBK := Aa hbk
  have HN := Aa hn
  clear hbk hb1 hn
  obtain ⟨JJ, hJJ⟩ : ∃ x, x = F9 (L.map EZ) SS := ⟨_, rfl⟩
  have hJl : JJ.length = n := by rw [hJJ, Kv, List.length_map, HN.out]
  have hJat : ∀ k (h : k < L.length), JJ[k]? = some (AW L[k].body, ((SS.drop (N9 L k)).take (Ai L[k].body).length).flatten.take (Bh L[k].body)) := fun k h => by rw [hJJ]; exact Mu L SS k h
  rw [← hJJ]
  obtain ⟨K, hKK⟩ : ∃ x, x = SS.length := ⟨_, rfl⟩
  have hoff := fun k => RS L k
  rw [hsum, ← hKK] at hoff
  have HJAT := Aa hJat
  have HKK := Aa hKK
  have HOFF := Aa hoff
  have HSS := Aa hSS
  have HLONG := Aa hlong
  rw [← hKK] at hK1 hK hsc ⊢
  clear hJJ hJat hKK hoff hSS hlong hsum
  rw [hW1] at q1
  clear hW1
  go_enter Tryz.func90, Tryz.ntmps90
  go_wp2_with (at_make; refine wpList_make_full _ rfl _ _ 22 rfl (w.heap.size + 1) 62 i0 (.agg #[.string ByteArray.empty, .string ByteArray.empty]) 2 Tryz.underlying22 hi hz0 hz1 .i64 .i64 _ _ n rfl rfl rfl rfl ?c1 ?c2 ?c3 ?_)
  case c1 => omega
  case c2 => unfold maxLen; omega
  intro w2 hown2 hg2
  have hb2 : Below (w.heap.size + 1) W1 w2 := by
    rw [HW1.out]
    exact (Below.refl _ _).grown hg2 (by simp) (by intro k hk; cases hk)
  obtain ⟨g, hg⟩ : ∃ g, g = w.heap.size + 1 := ⟨_, rfl⟩
  rw [← hg] at hown2 hb2 hs1 ⊢
  have hq := (HBK.out.touch (Touch.of_below (by rw [hs1]; exact hb2 : Below W1.heap.size W1 w2) []) (by simp)) 1 _ rfl
  have q2 := hq.1
  rw [← HN.out] at q2
  have HO2 := Aa hown2
  have HB2 := Aa hb2
  have HG := Aa hg
  clear hown2 hg2 hb2 hg hq q1
  have hstay : ∀ W, Below g W1 W → FRow W base fa L ∧ Rd W sa (AM SS) ∧ Below w.heap.size w W := fun W hW => by
    have hb := Below.next HB1.out (by rw [hs1]; exact hW : Below W1.heap.size W1 W)
    exact ⟨hFR.later hb, hS.later (Nat.le_refl _) hb, hb⟩
  have HSTAY := Aa hstay
  obtain ⟨sb, so, hsa, _⟩ := hS 0 (.string (str (SS[0]'(by have := HKK.out; omega)))) (by have := HKK.out; simp [AM, show 0 < SS.length from by omega])
  subst hsa
  have hrest : ∀ W (o cnt : Nat), Below g W1 W → Rd W (some ⟨sb, so + o, none⟩) (AM ((SS.drop o).take cnt)) := fun W o cnt hW k u hk => by
    have hlt : k < cnt := by
      have := (List.getElem?_eq_some_iff.1 hk).1
      simp [AM] at this
      omega
    obtain ⟨b', o', e, hc⟩ := (HSTAY.out W hW).2.1 (o + k) u (by
      rw [← hk]
      unfold AM
      rw [List.getElem?_map, List.getElem?_map, List.getElem?_take, if_pos hlt, List.getElem?_drop])
    cases e
    exact ⟨sb, so + o, rfl, by rw [Nat.add_assoc]; exact hc⟩
  have HREST := Aa hrest
  clear hstay hrest hFR hS
  go_wp2_with fail
  go_loopw [1, 16] (fun sv i wr => ∃ (k o q : Nat) (zs : List Ak), k ≤ n ∧ o ≤ K ∧ i = .int .i64 (k : Int) ∧ sv = .slice (some ⟨sb, q, none⟩) (K - o) (sc - o) ∧ Hid (q = so + o ∨ K - o = 0) ∧ Hid (o = N9 L k) ∧ wr.ownsRow g 62 2 (.slice (some ⟨g, 0, none⟩) n n) n (As zs) ∧ Below g W1 wr ∧ Hid (zs.take k = JJ.take k))
    (fun _ i _ => n - (intOf i).toNat)
  case atStart => exact ⟨0, 0, so, List.replicate n ([], []), by omega, by omega, rfl, rfl, Aa (.inl rfl), Aa rfl, by rw [OI]; exact HO2.out, HB2.out, Aa (by simp)⟩
  case round =>
    clear HO2 HB2 q2
    obtain ⟨k, o, q, zs, hk, hoK, rfl, rfl, hq, ho, hown, hbl, hzs⟩ := hrel
    obtain ⟨hfr, _, hbw⟩ := HSTAY.out wr hbl
    have hszr := hbl.size
    have hszr' : g ≤ wr.heap.size := by omega
    have hzl : zs.length = n := by have := hown.1; rw [EM] at this; omega
    by_cases hlt : k < n
    · have hltL : k < L.length := by rw [← HN.out]; exact hlt
      obtain ⟨bb, fo, fsa, fsc, rfl, e0, e1, e2, e3, e4, _⟩ := hfr k hltL
      have hlg := HLONG.out _ (List.getElem_mem hltL)
      have hjk := HJAT.out k hltL
      rw [← ho.out] at hjk
      have hon : o + (Ai L[k].body).length ≤ K := by
        have := HOFF.out (k + 1)
        rw [Lt L k hltL, ← ho.out] at this
        exact this
      have hon2 : o + (Ai L[k].body).length = N9 L (k + 1) := by rw [Lt L k hltL, ← ho.out]
      obtain ⟨ct, hct⟩ : ∃ x, x = (Ai L[k].body).length := ⟨_, rfl⟩
      obtain ⟨nm, hnm⟩ : ∃ x, x = AW L[k].body := ⟨_, rfl⟩
      obtain ⟨lg, hlgE⟩ : ∃ x, x = Bh L[k].body := ⟨Bh L[k].body, rfl⟩
      obtain ⟨nb, hnb⟩ : ∃ x, x = Av L[k].body := ⟨Av L[k].body, rfl⟩
      obtain ⟨hh, hhh⟩ : ∃ x, x = BQ L[k].body := ⟨BQ L[k].body, rfl⟩
      rw [← hct] at hon hon2 hjk e4 hlg
      rw [← hnm] at e1 hjk hlg
      rw [← hlgE] at e2 hjk hlg
      rw [← hnb] at e0
      rw [← hhh] at e3
      clear hct hnm hlgE hnb hhh
      have hfl : ((SS.drop o).take ct).flatten.length = ct * size := by
        rw [JZ (size := size) _ (fun t ht => HSS.out t (List.mem_of_mem_drop (List.mem_of_mem_take ht))), List.length_take, List.length_drop, ← HKK.out]
        congr 1
        omega
      have htl : ((SS.drop o).take ct).length = ct := by rw [List.length_take, List.length_drop, ← HKK.out]; omega
      have hcs : ct * size ≤ 1920 := Nat.le_trans (Nat.mul_le_mul (show ct ≤ 60 by omega) h32) (by decide)
      have hgl : g < wr.heap.size := by
        have := hown.lt g rfl
        exact this.2
      have hbx := Blk.new wr #[.int .i64 (nb : Int), .string (str nm), .int .i64 (lg : Int), .int .u64 (hh : Int), .slice fsa ct fsc] 143
      have hba : Below wr.heap.size wr (wr.alloc (.cells #[.int .i64 (nb : Int), .string (str nm), .int .i64 (lg : Int), .int .u64 (hh : Int), .slice fsa ct fsc] 143)) := (Below.refl _ _).alloc (Nat.le_refl _) _
      obtain ⟨Wb, hWb⟩ : ∃ x, x = wr.alloc (.cells #[.int .i64 (nb : Int), .string (str nm), .int .i64 (lg : Int), .int .u64 (hh : Int), .slice fsa ct fsc] 143) := ⟨_, rfl⟩
      rw [← hWb] at hbx hba
      have hTS : ∀ W, Touch [g] Wb W → W.cell? ⟨wr.heap.size, 1, none⟩ = some (.string (str nm)) ∧ W.cell? ⟨wr.heap.size, 2, none⟩ = some (.int .i64 (lg : Int)) ∧ Touch [g] Wb W := fun W hW => by
        have h := hbx.touch hW (by simp; omega)
        exact ⟨(h 1 _ rfl).1, (h 2 _ rfl).1, hW⟩
      have hTB : ∀ W, Touch [g] Wb W → Below g W1 W := fun W hW => (hbl.trans (hba.mono hszr')).trans (hW.below (Nat.le_trans hszr' hba.size) (by simp))
      have hJo := fun W (hW : Touch [g] Wb W) => Qr ((SS.drop o).take ct) (some ⟨sb, q, none⟩) (sc - o) lg (by rw [htl]; omega) (by rw [htl]; omega) (by rw [hfl]; omega) (by rw [hfl]; exact hlg.1) W (by
        rcases hq.out with e | e
        · rw [e]; exact HREST.out W o ct (hTB W hW)
        · have h0 : (SS.drop o).take ct = [] := List.eq_nil_of_length_eq_zero (by rw [htl]; omega)
          rw [h0]
          exact fun k u hk => by simp [AM] at hk)
      rw [htl] at hJo
      have hCl := fun W => Ju nm (by omega) W
      obtain ⟨dt, hdt⟩ : ∃ x, x = ((SS.drop o).take ct).flatten.take lg := ⟨_, rfl⟩
      rw [← hdt] at hJo hjk
      have hrow : ∀ W, Touch [] Wb W → W.ownsRow g 62 2 (.slice (some ⟨g, 0, none⟩) n n) n (As zs) := fun W hW => Ac (Ab hown (Nat.le_refl _) hba) hW (by simp)
      have hcl2 : ∀ W, Touch [] Wb W → W.cell? ⟨g, k * 2, none⟩ = some (.string (str (zs[k]'(by omega)).1)) ∧ W.cell? ⟨g, k * 2 + 1, none⟩ = some (.string (str (zs[k]'(by omega)).2)) ∧ W.frozen? ⟨g, k * 2, none⟩ = false ∧ W.frozen? ⟨g, k * 2 + 1, none⟩ = false := fun W hW => by
        have h := hrow W hW
        have hv := Ez zs k (by omega)
        rw [Nat.mul_comm] at hv
        exact ⟨by rw [h.cellAt (k * 2) (by omega)]; exact hv.1, by rw [h.cellAt (k * 2 + 1) (by omega)]; exact hv.2, h.frozenAt _, h.frozenAt _⟩
      have hnew : ∀ W, Touch [] Wb W → ((W.setCell ⟨g, k * 2, none⟩ (.string (str nm))).setCell ⟨g, k * 2 + 1, none⟩ (.string (str dt))).ownsRow g 62 2 (.slice (some ⟨g, 0, none⟩) n n) n (As (zs.set k (nm, dt))) := fun W hW => by
        have h := ((hrow W hW).stored (k * 2) (.string (str nm))).1
        have h2 := (h.stored (k * 2 + 1) (.string (str dt))).1
        rw [Ol zs k (nm, dt) (by omega)]
        exact h2
      have hnx := Gm zs JJ k (nm, dt) (by omega) hjk hzs.out
      have HTS := Aa hTS
      have HTB := Aa hTB
      have HJO := Aa hJo
      have HCL := Aa hCl
      have HC2 := Aa hcl2
      have HNEW := Aa hnew
      have HNX := Aa hnx
      have HON2 := Aa hon2
      have HWB := Aa hWb
      clear hTS hTB hJo hCl hrow hcl2 hnew hnx hon2 hWb hbx hba hdt hjk hown hbl hzs hfr hbw hfl htl hcs
      go_wp2_with fail
      rw [← HWB.out]
      have hT0 : Touch [] Wb Wb := Touch.refl _ _
      go_region_held (fun W => W.cell? ⟨wr.heap.size, 1, none⟩ = some (.string (str nm)) ∧ W.cell? ⟨wr.heap.size, 2, none⟩ = some (.int .i64 (lg : Int)) ∧ Touch [g] Wb W)
        (first | assumption | exact HTS.out _ ((Touch.refl [g] Wb).drew) | exact HTS.out _ (hT6.mono (by simp)) | exact HTS.out _ (hT7.mono (by simp)) | exact HTS.out _ (((hT7.mono (by simp)).setCell (x := ⟨g, k * 2, none⟩) (.inl (by simp)) _).setCell (x := ⟨g, k * 2 + 1, none⟩) (.inl (by simp)) _))
        (first | (go_at_call 116; refine (HCL.out _).mono ?_; rintro e w6 ⟨rfl, hb6⟩; have hT6 : Touch [] Wb w6 := hT0.drew.andThen (Touch.of_below hb6 []) (by simp); clear hb6)
               | (go_at_call 117; refine (HJO.out _ (hT6.mono (by simp))).mono ?_; rintro e w7 ⟨rfl, hb7⟩; have hT7 : Touch [] Wb w7 := hT6.andThen (Touch.of_below hb7 []) (by simp); obtain ⟨y0, y1, y2, y3⟩ := HC2.out w7 hT7; clear hb7))
      all_goals
        have S1 := Aa (HNEW.out w7 hT7)
        have S2 := Aa (HTB.out _ (((hT7.mono (by simp) : Touch [g] Wb w7).setCell (x := ⟨g, k * 2, none⟩) (.inl (by simp)) (.string (str nm))).setCell (x := ⟨g, k * 2 + 1, none⟩) (.inl (by simp)) (.string (str dt))))
        clear y0 y1 y2 y3 hT6 hT7 hT0 HNEW HTB HC2 HCL HJO HTS
        go_wp2_with fail
        refine ⟨⟨k + 1, o + ct, if sc - o = ct then q else q + ct, zs.set k (nm, dt), by omega, by omega, by go_num, ?_, ?_, HON2, S1.out, S2.out, HNX⟩, by simp [intOf]; omega⟩
        · rw [Nat.sub_sub, Nat.sub_sub]
          split <;> rfl
        · refine Aa ?_
          split
          · right; omega
          · rcases hq.out with e | e
            · left; omega
            · right; omega
    · obtain rfl : k = n := by omega
      have hze : zs = JJ := by
        have h := hzs.out
        rw [← hzl, List.take_length, hzl, List.take_of_length_le (by rw [hJl]; exact Nat.le_refl _)] at h
        exact h
      rw [hze] at hown
      have HO := Aa hown
      have HBW := Aa hbw
      have hgw : w.heap.size ≤ g := by have := HG.out; omega
      clear hown hbw hzs hze hfr hbl
      go_wp2_with fail
      go_ret
      exact ⟨_, rfl, Ad hgw HO.out, HBW.out⟩
end Go.Proofs.YtonjphollmdicaaGreatDoor
