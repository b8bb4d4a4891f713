import Derived.Test.YtonjphollmdicaaGreatDoorB04
import Derived.Test.YtonjphollmdicaaGreatDoorB18
import Derived.Test.YtonjphollmdicaaGreatDoorB24
import Derived.Shelf.Strings.OnBuilder
import Derived.Shelf.LaysM
import Derived.Shelf.Strconv.Clone
import Derived.Test.YtonjphollmdicaaGreatDoorProg
namespace Go.Proofs.YtonjphollmdicaaGreatDoor
open Go.ChangeShapes Go.WideShapes Go.ChangeAt Go.RowKit
open Go.Maps
theorem take_set_next {α : Type} (zs xs : List α) (k : Nat) (x : α) (hz : k < zs.length) (ha : xs[k]? = some x) (h : zs.take k = xs.take k) : (zs.set k x).take (k + 1) = xs.take (k + 1) := by
 obtain ⟨hl, e⟩ := List.getElem?_eq_some_iff.1 ha
 rw [take_snoc xs k hl, take_snoc (zs.set k x) k (by rw [List.length_set]; exact hz), List.getElem_set_self, e, ← h, List.take_set, List.set_eq_of_length_le (by rw [List.length_take]; omega)]
set_option linter.unusedSimpArgs false in
set_option maxRecDepth 100000 in
set_option maxHeartbeats 4000000 in
theorem allSlices_walk (size : Nat) (fv : Value) (hs : List Nat) (N c : Nat) (D : DataW Value) (Q : List (List UInt8)) (ea : Option Addr) (es : List (Nat × List UInt8)) (ec : Nat) (hsz : 2 ≤ size) (hsz2 : size ≤ 32) (hn1 : 1 ≤ hs.length) (hn : hs.length ≤ 60) (hec : es.length ≤ ec)
  (he : ∀ e ∈ es, e.1 < 20 ∧ e.2.length = size) (hQ : ∀ i p, pieceI Q hs i = some p → p.length = size) (hlost : hs.length - presN Q hs ≤ es.length) (w : World) (hF : FoundM w N c D hs Q) (hE : Rd w ea (exV es)) :
  Calls Tryz.prog 91 #[.agg #[.int .i64 (size : Int), fv, .int .i64 (hs.length : Int), .map (some N), .slice ea es.length ec]] w fun e w' => ∃ v, e = .returned v ∧ w'.ownsRow w.heap.size 9 1 v hs.length (strV (allS size hs.length (pieceI Q hs) es)) ∧ Below w.heap.size w w' := by
 obtain ⟨i0, hi, hz0, hz1, hz2⟩ := info_parts Tryz.infoS
 have hbk := Blk.new w #[.int .i64 (size : Int), fv, .int .i64 (hs.length : Int), .map (some N), .slice ea es.length ec] 92
 have hb1 : Below w.heap.size w (w.alloc (.cells #[.int .i64 (size : Int), fv, .int .i64 (hs.length : Int), .map (some N), .slice ea es.length ec] 92)) := (Below.refl _ _).alloc (Nat.le_refl _) _
 obtain ⟨W1, hW1⟩ : ∃ x, x = w.alloc (.cells #[.int .i64 (size : Int), fv, .int .i64 (hs.length : Int), .map (some N), .slice ea es.length ec] 92) := ⟨_, rfl⟩
 rw [← hW1] at hbk hb1
 have hs1 : W1.heap.size = w.heap.size + 1 := by rw [hW1]; simp
 have hall : ∀ W, Below W1.heap.size W1 W → Blk W w.heap.size [.int .i64 (size : Int), fv, .int .i64 (hs.length : Int), .map (some N), .slice ea es.length ec] ∧ FoundM W N c D hs Q ∧ Rd W ea (exV es) ∧ Below w.heap.size w W := by
  intro W hW
  have hb := Below.next hb1 hW
  exact ⟨hbk.touch (Touch.of_below hW []) (by simp), ⟨ownsMap_touch hF.own (Touch.of_below hb []) (by simp), hF.at', hF.keys⟩, hE.later (Nat.le_refl _) hb, hb⟩
 have hKn := knownRows_walk (size : Int) fv hs N c D Q ea es ec hn hec (fun e h => ⟨(he e h).1, by rw [(he e h).2]; omega⟩) (fun i p h => by rw [hQ i p h]; omega) hlost W1 (hall W1 (Below.refl _ _)).2.1 (hall W1 (Below.refl _ _)).2.2.1
 obtain ⟨hpl, hrl⟩ := kPts_len hs.length (pieceI Q hs) es hlost
 have hplt := kPts_lt hs.length (pieceI Q hs) es (by omega) (fun e h => by have := (he e h).1; omega)
 have hrok := kRows_ok hs.length size (pieceI Q hs) es hQ (fun e h => (he e h).2)
 obtain ⟨K, hK⟩ : ∃ x, x = hs.length := ⟨_, rfl⟩
 obtain ⟨P, hP⟩ : ∃ x, x = pieceI Q hs := ⟨_, rfl⟩
 have hmS : ∀ i, madeS size K P es i = match P i with | some p => p | none => textL (mixL (kRows K P es) (weightsL (kPts K P es) (scalesL (kPts K P es)) i) (size / 2)) := fun i => rfl
 have hAl : (allS size K P es).length = K := by simp [allS]
 have hAi : ∀ i (h : i < K), (allS size K P es)[i]? = some (madeS size K P es i) := fun i h => by simp [allS, h]
 rw [← hK, ← hP] at hpl hrl hplt hrok hKn ⊢
 rw [← hK] at hW1 hall
 rw [← hK] at hn hn1
 obtain ⟨pts, hpts⟩ : ∃ x, x = kPts K P es := ⟨_, rfl⟩
 obtain ⟨rws, hrws⟩ : ∃ x, x = kRows K P es := ⟨_, rfl⟩
 obtain ⟨AS, hAS⟩ : ∃ x, x = allS size K P es := ⟨_, rfl⟩
 obtain ⟨mS, hmSe⟩ : ∃ x, x = madeS size K P es := ⟨_, rfl⟩
 rw [← hpts, ← hrws] at hKn hmS
 rw [← hpts] at hpl hplt
 rw [← hrws] at hrl hrok
 rw [← hAS] at hAl hAi ⊢
 rw [← hmSe] at hmS hAi
 have HA := hid_of hall
 have HW1 := hid_of hW1
 have HKN := hid_of hKn
 have HK := hid_of hK
 have HP := hid_of hP
 have HMS := hid_of hmS
 have HAI := hid_of hAi
 have HRO := hid_of hrok
 have HPLT := hid_of hplt
 have hscl : (scalesL pts).length = pts.length := by simp [scalesL]
 have hTh := hid_of (fun W a cp (h : Rd W a (u16V pts)) => Through_walk pts a cp (by omega) (by omega) hplt W h)
 have hWe := hid_of (fun t (ht : t < 65536) a1 a2 c1 c2 W (h1 : Rd W a1 (u16V pts)) (h2 : Rd W a2 (u16V (scalesL pts))) => Weights_walk pts (scalesL pts) t a1 a2 c1 c2 (by omega) (by omega) hscl hplt (scales_lt pts) ht W h1 h2)
 have hwl : ∀ t, (weightsL pts (scalesL pts) t).length = rws.length := fun t => by unfold weightsL; rw [List.length_map, List.length_range, hpl, hrl]
 have hMi := hid_of (fun t a1 a2 c1 c2 W (h1 : RdRows W a1 rws) (h2 : Rd W a2 (u16V (weightsL pts (scalesL pts) t))) => Mix_walk rws (weightsL pts (scalesL pts) t) (size / 2) a1 a2 c1 c2 (by omega) (hwl t) (by omega) hrok (weights_lt pts (scalesL pts) t (scales_lt pts)) W h1 h2)
 have hTx := hid_of (fun t a cp W (h : Rd W a (u16V (mixL rws (weightsL pts (scalesL pts) t) (size / 2)))) => Text_walk (mixL rws (weightsL pts (scalesL pts) t) (size / 2)) a cp (by rw [mix_len]; omega) (mix_lt rws (weights_lt pts (scalesL pts) t (scales_lt pts)) _) W h)
 simp only [mix_len] at hTx
 rw [hrl] at hMi
 rw [hpl] at hTh hWe
 clear hall hbk hb1 hW1 hF hE hQ he hKn hK hP hmS hAi hpts hrws hAS hmSe hrok hplt hwl hscl hlost
 go_enter Tryz.func91, Tryz.ntmps91
 go_wp2_with fail
 rw [← HW1.out]
 refine HKN.out.mono ?_
 rintro e w2 ⟨v1, v2, rfl, ho1, ho2, hb2⟩
 obtain ⟨pa, pc, rfl, hrp⟩ := row_rd ho1
 obtain ⟨ra, rc, rfl, hrr⟩ := ho2.rdRows
 rw [hrl]
 have HB2 := hid_of hb2
 have HRP := hid_of hrp
 have HRR := hid_of hrr
 clear ho1 ho2 hb2 hrp hrr HKN
 go_wp2_with fail
 refine (hTh.out w2 pa pc HRP.out).mono ?_
 rintro e w3 ⟨a1, c1, a2, c2, rfl, hr1, hr2, hb3⟩
 have hbc : Below w3.heap.size w3 (w3.alloc (.cells #[.slice a1 K c1, .slice a2 K c2] 201)) := (Below.refl _ _).alloc (Nat.le_refl _) _
 have hcb := Blk.new w3 #[.slice a1 K c1, .slice a2 K c2] 201
 obtain ⟨W4, hW4⟩ : ∃ x, x = w3.alloc (.cells #[.slice a1 K c1, .slice a2 K c2] 201) := ⟨_, rfl⟩
 rw [← hW4] at hbc hcb
 have hb24 := Below.next hb3 hbc
 have hb14 := Below.next HB2.out hb24
 have hstay : ∀ W, Below W4.heap.size W4 W → Blk W w3.heap.size [.slice a1 K c1, .slice a2 K c2] ∧ Rd W a1 (u16V pts) ∧ Rd W a2 (u16V (scalesL pts)) ∧ RdRows W ra rws ∧ Blk W w.heap.size [.int .i64 (size : Int), fv, .int .i64 (K : Int), .map (some N), .slice ea es.length ec] ∧ FoundM W N c D hs Q ∧ Below w.heap.size w W := by
  intro W hW
  have h3 := Below.next hbc hW
  obtain ⟨k1, k2, _, k4⟩ := HA.out W (Below.next hb14 hW)
  exact ⟨hcb.touch (Touch.of_below hW []) (by simp), hr1.later (Nat.le_refl _) h3, hr2.later (Nat.le_refl _) h3, HRR.out.later (Nat.le_refl _) (Below.next hb24 hW), k1, k2, k4⟩
 have HST := hid_of hstay
 have HW4 := hid_of hW4
 have q2 := ((HST.out W4 (Below.refl _ _)).2.2.2.2.1 2 _ rfl).1
 clear hstay hbc hcb hW4 hb24 hb14 hr1 hr2 hb3 HRP HRR HB2 HA hTh
 rw [HW4.out] at q2
 have hs4 : W4.heap.size = w3.heap.size + 1 := by rw [HW4.out]; simp
 go_wp2_with (at_make; refine wpList_make_full _ rfl _ _ 23 rfl (w3.heap.size + 1) 9 i0 (.string ByteArray.empty) 1 Tryz.underlying23 hi hz0 hz1 .i64 .i64 _ _ K rfl rfl rfl rfl ?c1 ?c2 ?c3 ?_)
 case c1 => rw [hz2]; omega
 case c2 => unfold maxLen; omega
 case c3 => simp
 intro w5 hown5 hg5
 have hb5 : Below (w3.heap.size + 1) W4 w5 := by
  rw [HW4.out]
  exact (Below.refl _ _).grown hg5 (by simp) (by intro k hk; cases hk)
 obtain ⟨g, hg⟩ : ∃ g, g = w3.heap.size + 1 := ⟨_, rfl⟩
 rw [← hg] at hown5 hb5 hs4 ⊢
 have HW45 := hid_of hb5
 have HO5 := hid_of hown5
 have HG := hid_of hg
 clear hg5 hown5 hb5 hg q2
 go_wp2_with fail
 go_loopw [23] (fun i wr => ∃ (k : Nat) (zs : List (List UInt8)), k ≤ K ∧ i = .int .i64 (k : Int) ∧ wr.ownsRow g 9 1 (.slice (some ⟨g, 0, none⟩) K K) K (strV zs) ∧ Below g W4 wr ∧ Hid (zs.take k = AS.take k))
  (fun i _ => K - (intOf i).toNat)
 case atStart => exact ⟨0, List.replicate K [], by omega, rfl, by simp only [strV, List.map_replicate, show str [] = ByteArray.empty from rfl]; simpa [toList_madeCells_one] using HO5.out, HW45.out, hid_of (by simp)⟩
 case round =>
  clear HO5 HW45
  obtain ⟨k, zs, hk, rfl, hown, hbl, hzs⟩ := hrel
  have hbl' : Below W4.heap.size W4 wr := by rw [hs4]; exact hbl
  obtain ⟨hcb, hr1, hr2, hrr, hbx, hfm, hbw⟩ := HST.out wr hbl'
  have hszr := hbl.size
  have hszr' : g ≤ wr.heap.size := by omega
  have hzl : zs.length = K := by have := hown.1; simpa [strV] using this
  by_cases hlt : k < K
  ·have hlk := own_look_ok hfm.own Tryz.lawInt Tryz.underlying89 (Tryz.zeroPiece _) (numK_key k (by omega))
   rw [hfm.at' k (by rw [← HK.out]; exact hlt)] at hlk
   have hpk : foundIn Q (hs.getD k 0) = P k := by rw [HP.out]; rfl
   rw [hpk] at hlk
   have q3 := (hbx 3 _ rfl).1
   have hgl : g < wr.heap.size := (hown.lt g rfl).2
   have HNX := hid_of (fun x (hx : AS[k]? = some x) => take_set_next zs AS k x (by omega) hx hzs.out)
   have HAK := hid_of (HAI.out k hlt)
   have HMK := hid_of (HMS.out k)
   have hset : ∀ (W : World) (x : List UInt8), Below wr.heap.size wr W → (W.setCell ⟨g, k, none⟩ (.string (str x))).ownsRow g 9 1 (.slice (some ⟨g, 0, none⟩) K K) K (strV (zs.set k x)) ∧ Below g W4 (W.setCell ⟨g, k, none⟩ (.string (str x))) ∧ W.cell? ⟨g, k, none⟩ = some (.string (str (zs.getD k []))) ∧ W.frozen? ⟨g, k, none⟩ = false := by
    intro W x hW
    have ho := ownsRow_later hown (Nat.le_refl _) hW
    refine ⟨?_, (hbl.trans (hW.mono hszr')).setCell (Nat.le_refl _) _, ?_, ho.frozenAt k⟩
    ·have h := (ho.stored k (.string (str x))).1
     have e : strV (zs.set k x) = (strV zs).set k (.string (str x)) := by simp [strV, List.map_set]
     rw [e]
     exact h
    ·rw [ho.cellAt k (by omega)]
     simp [strV, hzl, hlt]
   have HSET := hid_of hset
   cases hp : P k with
   | none =>
    rw [hp] at hlk HMK
    simp only [Option.map_none, Option.getD_none, Option.isSome_none] at hlk
    dsimp only at HMK
    have hba : Below wr.heap.size wr (wr.alloc (.cells #[.string ⟨#[]⟩] 189)) := (Below.refl _ _).alloc (Nat.le_refl _) _
    obtain ⟨Wa, hWa⟩ : ∃ x, x = wr.alloc (.cells #[.string ⟨#[]⟩] 189) := ⟨_, rfl⟩
    rw [← hWa] at hba
    have z0 := ((hcb.touch (Touch.of_below hba []) (by simp)) 0 _ rfl).1
    have z1 := ((hcb.touch (Touch.of_below hba []) (by simp)) 1 _ rfl).1
    have hwe := hWe.out k (by omega) a1 a2 c1 c2 Wa (hr1.later (Nat.le_refl _) hba) (hr2.later (Nat.le_refl _) hba)
    have w16 : IntKind.u16.wrap (k : Int) = (k : Int) := by rw [IntKind.wrap_u16]; omega
    have HWE := hid_of hwe
    have HRRW := hid_of hrr
    have HBX := hid_of hbx
    have HBA := hid_of hba
    have HWA := hid_of hWa
    have HMP : Hid (AS[k]? = some (textL (mixL rws (weightsL pts (scalesL pts) k) (size / 2)))) := hid_of (by rw [HAK.out, HMK.out])
    rw [hWa] at z0 z1
    clear hwe hrr hbx hba hWa hset hown hbl hbl' hzs hcb hr1 hr2 hfm hbw HAK HMK hpk hp
    go_wp2_with fail
    rw [← HWA.out]
    refine HWE.out.mono ?_
    rintro e w6 ⟨v6, rfl, ho6, hb6⟩
    obtain ⟨wa, wc, rfl, hrw⟩ := row_rd ho6
    have hb06 := Below.next HBA.out hb6
    have x0 := ((HBX.out.touch (Touch.of_below hb06 []) (by simp)) 0 _ rfl).1
    have hmi := hMi.out k ra wa rc wc w6 (HRRW.out.later (Nat.le_refl _) hb06) hrw
    have HMI := hid_of hmi
    have HB06 := hid_of hb06
    clear hmi hb06 hrw ho6 hb6 HWE HRRW HBX HBA
    go_wp2_with fail
    rw [show ((size : Int) / 2) = ((size / 2 : Nat) : Int) from by omega]
    refine HMI.out.mono ?_
    rintro e w7 ⟨v7, rfl, ho7, hb7⟩
    obtain ⟨ma, mc, rfl, hrm⟩ := row_rd ho7
    have htx := hTx.out k ma mc w7 hrm
    have hb07 := Below.next HB06.out hb7
    have HTX := hid_of htx
    clear htx hrm ho7 hb7 HMI
    go_wp2_with fail
    refine HTX.out.mono ?_
    rintro e w8 ⟨rfl, hb8⟩
    have hb08 := Below.next hb07 hb8
    obtain ⟨TT, hTT⟩ : ∃ x, x = textL (mixL rws (weightsL pts (scalesL pts) k) (size / 2)) := ⟨_, rfl⟩
    rw [← hTT] at HMP ⊢
    obtain ⟨s1, s2, s3, s4⟩ := HSET.out w8 TT hb08
    have S1 := hid_of s1
    have S2 := hid_of s2
    have S5 := hid_of (HNX.out TT HMP.out)
    clear s1 s2 hb08 hb07 hb8 hTT HTX HSET HNX
    go_wp2_with fail
    exact ⟨⟨k + 1, zs.set k TT, by omega, by go_num, S1.out, S2.out, S5⟩, by simp [intOf]; omega⟩
   | some p =>
    rw [hp] at hlk HMK
    simp only [Option.map_some, Option.getD_some, Option.isSome_some] at hlk
    have hmp : AS[k]? = some p := by rw [HAK.out, HMK.out]
    have hnx := HNX.out p hmp
    obtain ⟨s1, s2, s3, s4⟩ := HSET.out wr p (Below.refl _ _)
    have S1 := hid_of (s1.alloc (.cells #[.string (str p)] 189))
    have S2 := hid_of (s2.alloc (by simp; omega) (.cells #[.string (str p)] 189))
    have S5 := hid_of hnx
    clear s1 s2 hnx hmp hset hown hbl hbl' hzs hcb hr1 hr2 hrr hbx hfm hbw HSET HNX HAK HMK hpk hp
    go_wp2_with fail
    exact ⟨⟨k + 1, zs.set k p, by omega, by go_num, S1.out, S2.out, S5⟩, by simp [intOf]; omega⟩
  ·obtain rfl : k = K := by omega
   have hze : zs = AS := by
    have h := hzs.out
    rw [← hzl, List.take_length, hzl, List.take_of_length_le (by rw [hAl]; exact Nat.le_refl _)] at h
    exact h
   rw [hze] at hown
   have hgw : w.heap.size ≤ g := by
    have h1 := hbw.size
    have h2 := (HST.out W4 (Below.refl _ _)).2.2.2.2.2.2.size
    omega
   have HO := hid_of hown
   have HBW := hid_of hbw
   clear hown hbw hzs hze hcb hr1 hr2 hrr hbx hfm hbl hbl'
   go_wp2_with fail
   go_ret
   exact ⟨_, rfl, ownsRow_base hgw HO.out, HBW.out⟩
end Go.Proofs.YtonjphollmdicaaGreatDoor
namespace Go.Proofs
open Go.Shelf
def Tryz.lays156_ren : Go.Shelf.Ren := ⟨fun | 156 => 136 | 165 => 131 | 166 => 132 | 169 => 134 | 240 => 146 | 241 => 147 | 276 => 159 | 277 => 160 | n => n, fun | 31 => 23 | 9 => 9 | 3 => 3 | 4 => 4 | 0 => 0 | 20 => 20 | 72 => 217 | 76 => 221 | 70 => 215 | 37 => 67 | 75 => 220 | 127 => 234 | 164 => 247 | 5 => 5 | 80 => 169 | n => n, fun | n => n⟩
theorem Tryz.lays156 : Go.Proofs.Lays.n156 Tryz.prog Tryz.lays156_ren := {
 mixed := by kernel_rfl
 f156 := Tryz.func136.trans (congrArg some (by kernel_rfl))
 f165 := Tryz.func131.trans (congrArg some (by kernel_rfl))
 f166 := Tryz.func132.trans (congrArg some (by kernel_rfl))
 f169 := Tryz.func134.trans (congrArg some (by kernel_rfl))
 f240 := Tryz.func146.trans (congrArg some (by kernel_rfl))
 f241 := Tryz.func147.trans (congrArg some (by kernel_rfl))
 f276 := Tryz.func159.trans (congrArg some (by kernel_rfl))
 f277 := Tryz.func160.trans (congrArg some (by kernel_rfl))
 t0 := Tryz.underlying0
 a0 := Tryz.isAgg0
 z0 := Tryz.sizeOf0
 v0 := Tryz.zeroValue0
 t3 := Tryz.underlying3
 a3 := Tryz.isAgg3
 z3 := Tryz.sizeOf3
 v3 := Tryz.zeroValue3
 t4 := Tryz.underlying4
 a4 := Tryz.isAgg4
 z4 := Tryz.sizeOf4
 v4 := Tryz.zeroValue4
 t9 := Tryz.underlying9
 a9 := Tryz.isAgg9
 z9 := Tryz.sizeOf9
 v9 := Tryz.zeroValue9
 t20 := Tryz.underlying20
 a20 := Tryz.isAgg20
 z20 := Tryz.sizeOf20
 v20 := Tryz.zeroValue20
 t31 := Tryz.underlying23
 a31 := Tryz.isAgg23
 z31 := Tryz.sizeOf23
 v31 := Tryz.zeroValue23
 t37 := Tryz.underlying67
 a37 := Tryz.isAgg67
 z37 := Tryz.sizeOf67
 v37 := Tryz.zeroValue67
 t70 := Tryz.underlying215
 a70 := Tryz.isAgg215
 z70 := Tryz.sizeOf215
 v70 := Tryz.zeroValue215
 t72 := Tryz.underlying217
 a72 := Tryz.isAgg217
 z72 := Tryz.sizeOf217
 v72 := Tryz.zeroValue217
 t75 := Tryz.underlying220
 a75 := Tryz.isAgg220
 z75 := Tryz.sizeOf220
 v75 := Tryz.zeroValue220
 t76 := Tryz.underlying221
 a76 := Tryz.isAgg221
 z76 := Tryz.sizeOf221
 v76 := Tryz.zeroValue221
 t127 := Tryz.underlying234
 a127 := Tryz.isAgg234
 z127 := Tryz.sizeOf234
 v127 := Tryz.zeroValue234
 t164 := Tryz.underlying247
 a164 := Tryz.isAgg247
 z164 := Tryz.sizeOf247
 v164 := Tryz.zeroValue247 }
theorem Tryz.Builder_Extra_156 : Builder.Extra Tryz.prog Tryz.lays156_ren := {
 sizeBuilder := by kernel_rfl
 liesBuilder := by kernel_rfl
 t5 := Tryz.underlying5
 a5 := Tryz.isAgg5
 z5 := Tryz.sizeOf5
 v5 := Tryz.zeroValue5
 infoByte := by kernel_rfl
 cellsByte := by kernel_rfl
 sizeByte := by kernel_rfl
 neB5 := by decide }
open Go.RowKit in
theorem Tryz.strings_Join_none (a : Option Addr) (c : Nat) (sep : ByteArray) (w : World) :
  Calls Tryz.prog 136 #[.slice a 0 c, .string sep] w fun e w' => e = .returned (.string ⟨#[]⟩) ∧ w' = w := Any.strings_Join_none Tryz.lays156 Tryz.Builder_Extra_156 a c sep w
open Go.RowKit in
theorem Tryz.strings_Join (bk o c : Nat) (xs : List ByteArray) (sep : ByteArray) (w : World) (hcells : ∀ (j : Nat) x, xs[j]? = some x → w.cell? ⟨bk, o + j, none⟩ = some (.string x)) (hbk : bk < w.heap.size) (hN : xs.length ≤ 140737488355328) (hcap : xs.length ≤ c) (hlen : (Lib.join (xs.map (·.data.toList)) sep.data.toList).length ≤ 140737488355328) :
  Calls Tryz.prog 136 #[.slice (some ⟨bk, o, none⟩) xs.length c, .string sep] w fun e w' => e = .returned (.string ⟨(Lib.join (xs.map (·.data.toList)) sep.data.toList).toArray⟩) ∧ Below w.heap.size w w' := Any.strings_Join Tryz.lays156 Tryz.Builder_Extra_156 bk o c xs sep w hcells hbk hN hcap hlen
def Tryz.laysM316_ren : Go.Shelf.Ren := ⟨fun | 316 => 135 | n => n, fun | 9 => 9 | 3 => 3 | 4 => 4 | 37 => 67 | 0 => 0 | 127 => 234 | 5 => 5 | n => n, fun | n => n⟩
theorem Tryz.laysM316 : Go.Proofs.LaysM.n316 Tryz.prog Tryz.laysM316_ren := {
 mixed := by kernel_rfl
 f316 := Tryz.func135.trans (congrArg some (by kernel_rfl))
 t0 := Tryz.underlying0
 a0 := Tryz.isAgg0
 z0 := Tryz.sizeOf0
 v0 := Tryz.zeroValue0
 t3 := Tryz.underlying3
 a3 := Tryz.isAgg3
 z3 := Tryz.sizeOf3
 v3 := Tryz.zeroValue3
 t4 := Tryz.underlying4
 a4 := Tryz.isAgg4
 z4 := Tryz.sizeOf4
 v4 := Tryz.zeroValue4
 t9 := Tryz.underlying9
 a9 := Tryz.isAgg9
 z9 := Tryz.sizeOf9
 v9 := Tryz.zeroValue9
 t37 := Tryz.underlying67
 a37 := Tryz.isAgg67
 z37 := Tryz.sizeOf67
 v37 := Tryz.zeroValue67
 t127 := Tryz.underlying234
 a127 := Tryz.isAgg234
 z127 := Tryz.sizeOf234
 v127 := Tryz.zeroValue234
 t5 := Tryz.underlying5
 a5 := Tryz.isAgg5
 z5 := Tryz.sizeOf5
 v5 := Tryz.zeroValue5
 i0 := by kernel_rfl
 i3 := by kernel_rfl
 i4 := by kernel_rfl
 i5 := by kernel_rfl
 i9 := by kernel_rfl
 i37 := by kernel_rfl
 i127 := by kernel_rfl }
open Go.RowKit in
theorem Tryz.stringslite_Clone (s : ByteArray) (w : World) (hlim : s.size ≤ 281474976710656) :
  Calls Tryz.prog 135 #[.string s] w fun e w' => e = .returned (.string s) ∧ Below w.heap.size w w' := Any.stringslite_Clone Tryz.laysM316 s w hlim
end Go.Proofs
namespace Go.Proofs.YtonjphollmdicaaGreatDoor
open Go.ChangeShapes Go.WideShapes Go.ChangeAt Go.RowKit
theorem join_flat : ∀ (l : List (List UInt8)), Lib.join l [] = l.flatten
 | [] => rfl
 | [x] => by simp [Lib.join]
 | x :: y :: r => by
  have h := join_flat (y :: r)
  have e : Lib.join (x :: y :: r) [] = x ++ Lib.join (y :: r) [] := by simp [Lib.join, List.intercalate]
  rw [e, h]
  rfl
theorem Clone_walk (l : List UInt8) (hl : l.length ≤ 1000000) (w : World) :
  Calls Tryz.prog 116 #[.string (str l)] w fun e w' => e = .returned (.string (str l)) ∧ Below w.heap.size w w' := by
 have hC := hid_of (fun W => Tryz.stringslite_Clone (str l) W (by rw [str_size]; omega))
 go_enter Tryz.func116, Tryz.ntmps116
 go_wp2_with fail
 refine (hC.out _).mono ?_
 rintro e w1 ⟨rfl, hb⟩
 go_wp2_with fail
 go_ret
 exact ⟨rfl, hb⟩
theorem sJoin_walk (ts : List (List UInt8)) (a : Option Addr) (c : Nat) (hc : ts.length ≤ c) (hn : ts.length ≤ 1000) (hl : ts.flatten.length ≤ 1000000) (w : World) (hrd : Rd w a (strV ts)) :
  Calls Tryz.prog 136 #[.slice a ts.length c, .string ⟨#[]⟩] w fun e w' => e = .returned (.string (str ts.flatten)) ∧ Below w.heap.size w w' := by
 cases ts with
 | nil =>
  refine (Tryz.strings_Join_none a c ⟨#[]⟩ w).mono ?_
  rintro e w' ⟨rfl, rfl⟩
  exact ⟨rfl, Below.refl _ _⟩
 | cons t r =>
  obtain ⟨b, off, rfl, h0⟩ := hrd 0 (.string (str t)) rfl
  have hx : ((t :: r).map str).map (fun s : ByteArray => s.data.toList) = t :: r := by
   rw [List.map_map]
   have : ((fun s : ByteArray => s.data.toList) ∘ str) = id := funext fun l => str_data l
   rw [this, List.map_id]
  have key := Tryz.strings_Join b off c ((t :: r).map str) ⟨#[]⟩ w (fun j x hj => by
   obtain ⟨b', off', e, h⟩ := hrd j (.string x) (by
    rw [List.getElem?_map] at hj
    unfold strV
    rw [List.getElem?_map]
    cases h2 : (t :: r)[j]? with
    | none => rw [h2] at hj; cases hj
    | some y => rw [h2] at hj; cases hj; rfl)
   cases e
   exact h) (World.block_lt_of_cell? w _ h0) (by rw [List.length_map]; omega) (by rw [List.length_map]; exact hc) (by rw [hx]; show (Lib.join (t :: r) []).length ≤ _; rw [join_flat]; omega)
  rw [List.length_map, hx] at key
  refine key.mono ?_
  rintro e w' ⟨rfl, hb⟩
  refine ⟨?_, hb⟩
  show Ending.returned (.string ⟨(Lib.join (t :: r) []).toArray⟩) = _
  rw [join_flat]
  rfl
theorem Join_walk (ts : List (List UInt8)) (a : Option Addr) (c n : Nat) (hc : ts.length ≤ c) (hn : ts.length ≤ 1000) (hl : ts.flatten.length ≤ 1000000) (hn2 : n ≤ ts.flatten.length) (w : World) (hrd : Rd w a (strV ts)) :
  Calls Tryz.prog 117 #[.slice a ts.length c, .int .i64 (n : Int)] w fun e w' => e = .returned (.string (str (ts.flatten.take n))) ∧ Below w.heap.size w w' := by
 have hJ := hid_of (sJoin_walk ts a c hc hn hl w hrd)
 have hC := hid_of (fun W => Clone_walk (ts.flatten.take n) (by rw [List.length_take]; omega) W)
 have hx : (str ts.flatten).extract 0 n = str (ts.flatten.take n) := by rw [str_extract]; simp
 have hs := str_size ts.flatten
 obtain ⟨F, hF⟩ : ∃ x, x = ts.flatten := ⟨_, rfl⟩
 rw [← hF] at hJ hC hx hs hn2 hl ⊢
 clear hF hrd
 go_enter Tryz.func117, Tryz.ntmps117
 go_wp2_with fail
 refine hJ.out.mono ?_
 rintro e w1 ⟨rfl, hb1⟩
 go_wp2_with fail
 refine (hC.out _).mono ?_
 rintro e w2 ⟨rfl, hb2⟩
 go_wp2_with fail
 go_ret
 exact ⟨rfl, Below.next hb1 hb2⟩
end Go.Proofs.YtonjphollmdicaaGreatDoor
namespace Go.Proofs.YtonjphollmdicaaGreatDoor
open Go.ChangeShapes Go.WideShapes Go.ChangeAt Go.RowKit
open Go.Maps
theorem Tryz.infoBool : (Tryz.prog.info? 4).map (fun i => (i.zero, i.size, i.bytes)) = some (some (.bool false), 1, 1) := by kernel_rfl
def stOf (fs : List FileL) (f : FoundL) : Nat := stateL (fName f.body) (fLong f.body) (fHash f.body) fs
def statesV (fs : List FileL) (L : List FoundL) : List Value := L.map fun f => .int .i64 (stOf fs f : Int)
def flagsV (l : List Bool) : List Value := l.map Value.bool
theorem owns_lower {w : World} {b b' : Nat} {e : TypeId} {sz : Nat} {v : Value} {n : Nat} {xs : List Value} (h : w.ownsRow b e sz v n xs) (hb : b' ≤ b) : w.ownsRow b' e sz v n xs := by
 obtain ⟨h1, h2⟩ := h
 refine ⟨h1, ?_⟩
 rcases h2 with h | ⟨g, cap, cur, h3, h4, h5⟩
 ·exact .inl h
 ·exact .inr ⟨g, cap, cur, h3, Nat.le_trans hb h4, h5⟩
def marksV (n : Nat) (ss : List Nat) : List Value := (List.range n).map fun i => .bool (decide (i ∈ ss))
theorem marks_start (n : Nat) : (madeCells #[Value.bool false] n).toList = marksV n [] := by
 apply List.ext_getElem?
 intro i
 by_cases h : i < n
 ·simp [marksV, madeCells, h, Nat.mod_one]
 ·rw [List.getElem?_eq_none (by simp [madeCells]; omega), List.getElem?_eq_none (by simp [marksV]; omega)]
theorem marks_set (n : Nat) (ss : List Nat) (i : Nat) : (marksV n ss).set i (.bool true) = marksV n (ss ++ [i]) := by
 apply List.ext_getElem?
 intro j
 by_cases h : j < n
 ·by_cases c : j = i
  ·subst c
   rw [List.getElem?_set_self (by simp [marksV]; exact h)]
   simp [marksV, h]
  ·rw [List.getElem?_set_ne (Ne.symm c)]
   simp [marksV, h, c]
 ·rw [List.getElem?_eq_none (by simp [marksV]; omega), List.getElem?_eq_none (by simp [marksV]; omega)]
end Go.Proofs.YtonjphollmdicaaGreatDoor
namespace Go.Proofs.YtonjphollmdicaaGreatDoor
open Go.ChangeShapes Go.WideShapes Go.ChangeAt Go.RowKit
open Go.Maps
def noReport : Value := .agg #[.slice none 0 0, .slice none 0 0, .int .i64 0, .int .i64 0]
def ReportAt (w : World) (base : Nat) (v : Value) (states : List Nat) (flags : List Bool) (lost extra : Nat) : Prop := ∃ sv pv, v = .agg #[sv, pv, .int .i64 (lost : Int), .int .i64 (extra : Int)] ∧
 w.ownsRow base 3 1 sv states.length (natsV states) ∧ w.ownsRow base 4 1 pv flags.length (flagsV flags)
structure ReportL where
 states : List Nat
 flags : List Bool
 lost : Nat
 extra : Nat
def reportP (fs : List FileL) (l : List FoundL) (m : MainL) : ReportL :=
 ⟨(listedL l m).map (stOf fs), presL (allPieces m.size fs) (sliceHs (listedL l m)), (sliceHs (listedL l m)).length - presN (allPieces m.size fs) (sliceHs (listedL l m)), (extraKeys l m).length⟩
def lookP (fs : List FileL) (vs : List (List UInt8)) : ReportL ⊕ Nat :=
 if handable fs vs = false then .inr 1 else match chiefL (findL vs) with
  | none => .inr 3
  | some f => if isListed (findL vs) (mainOf f) = false then .inr 4 else .inl (reportP fs (findL vs) (mainOf f))
def LookRes (r : ReportL ⊕ Nat) (w : World) (e : Ending) (w' : World) : Prop := Below w.heap.size w w' ∧ match r with
 | .inr n => e = .returned (.tuple #[noReport, .int .i64 (n : Int)])
 | .inl p => ∃ v, e = .returned (.tuple #[v, .int .i64 0]) ∧ ReportAt w' w.heap.size v p.states p.flags p.lost p.extra
end Go.Proofs.YtonjphollmdicaaGreatDoor
