import Derived.Test.YtonjphollmdicaaGreatDoorB32
import Derived.Test.YtonjphollmdicaaGreatDoorB40
import Derived.Test.YtonjphollmdicaaGreatDoorB42
set_option maxRecDepth 100000
set_option maxHeartbeats 4000000
set_option linter.unusedSimpArgs false
namespace Go.Proofs.YtonjphollmdicaaGreatDoor
open Go.ChangeShapes Go.WideShapes Go.ChangeAt Go.RowKit
open Go.Maps
theorem FE : ∀ (ds : List DescL) (fl : List Ak), DP ds fl = true ↔ ∀ (k : Nat) (d : DescL) (f : Ak), ds[k]? = some d → fl[k]? = some f → AC f.2 = d.hash
  | [], _ => by simp [DP]
  | d :: r, [] => by simp [DP]
  | d :: r, f :: l => by
    have ih := FE r l
    simp only [DP, Bool.and_eq_true, beq_iff_eq]
    constructor
    · rintro ⟨h1, h2⟩ k d' f' hd hf
      cases k with
      | zero => simp at hd hf; subst hd hf; exact h1
      | succ k => exact ih.1 h2 k d' f' hd hf
    · intro h
      exact ⟨h 0 d f rfl rfl, ih.2 (fun k d' f' hd hf => h (k + 1) d' f' hd hf)⟩
theorem LP {ds : List DescL} {fl : List Ak} {k : Nat} {d : DescL} {f : Ak} (hd : ds[k]? = some d) (hf : fl[k]? = some f) (h : AC f.2 ≠ d.hash) : DP ds fl = false := by
  cases hc : DP ds fl with
  | false => rfl
  | true => exact absurd ((FE ds fl).1 hc k d f hd hf) h
def Gf (r : List Ak ⊕ Nat) (w : World) (e : Ending) (w' : World) : Prop := Below w.heap.size w w' ∧ match r with
  | .inr n => e = .returned (.tuple #[.slice none 0 0, .int .i64 (n : Int)])
  | .inl fl => ∃ v, e = .returned (.tuple #[v, .int .i64 0]) ∧ w'.ownsRow w.heap.size 62 2 v fl.length (As fl)
def EQ (size : Nat) (L : List FoundL) (hs : List Nat) (Q : List (List UInt8)) (es : List (Nat × List UInt8)) : List Ak ⊕ Nat :=
  if es.length < hs.length - Dr Q hs then .inr 5 else if DP (L.map EZ) (F9 (L.map EZ) (GV size hs.length (BN Q hs) es)) then .inl (F9 (L.map EZ) (GV size hs.length (BN Q hs) es)) else .inr 6
theorem Nu {w : World} {base : Nat} {e : TypeId} {sz : Nat} {v : Value} {n : Nat} {xs : List Value} (h : w.ownsRow base e sz v n xs) : ∃ a cap, v = .slice a n cap ∧ (0 < n → n ≤ cap) ∧ Rd w a xs := by
  obtain ⟨a, cap, e, hr⟩ := AE h
  refine ⟨a, cap, e, fun h0 => ?_, hr⟩
  rcases h.2 with ⟨rfl, h1⟩ | ⟨g, c, cur, rfl, _, _, hc, _⟩
  · omega
  · cases e
    exact hc
theorem Mr (size : Nat) (fa : Option Addr) (fc : Nat) (L : List FoundL) (hs : List Nat) (N c : Nat) (D : DataW Value) (Q : List (List UInt8)) (ea : Option Addr) (es : List (Nat × List UInt8)) (ec : Nat) (base : Nat) (hsz : 2 ≤ size) (hsz2 : size ≤ 32) (hev : size % 2 = 0) (hL6 : L.length ≤ 6) (hn1 : 1 ≤ hs.length) (hn : hs.length ≤ 60) (hec : es.length ≤ ec)
    (hhs : hs = AI L) (he : ∀ e ∈ es, e.1 < 20 ∧ e.2.length = size) (hQ : ∀ i p, BN Q hs i = some p → p.length = size)
    (hlong : ∀ f ∈ L, Bh f.body ≤ (Ai f.body).length * size ∧ (AW f.body).length ≤ 100 ∧ Bh f.body ≤ 400) (w : World) (hFR : FRow w base fa L) (hF : FoundM w N c D hs Q) (hE : Rd w ea (exV es)) :
    Calls Tryz.prog 47 #[.agg #[.int .i64 (size : Int), .slice fa L.length fc, .int .i64 (hs.length : Int), .map (some N), .slice ea es.length ec]] w fun e w' => Gf (EQ size L hs Q es) w e w' := by
  have hbk := Blk.new w #[.int .i64 (size : Int), .slice fa L.length fc, .int .i64 (hs.length : Int), .map (some N), .slice ea es.length ec] 92
  have hb1 : Below w.heap.size w (w.alloc (.cells #[.int .i64 (size : Int), .slice fa L.length fc, .int .i64 (hs.length : Int), .map (some N), .slice ea es.length ec] 92)) := (Below.refl _ _).alloc (Nat.le_refl _) _
  obtain ⟨W1, hW1⟩ : ∃ x, x = w.alloc (.cells #[.int .i64 (size : Int), .slice fa L.length fc, .int .i64 (hs.length : Int), .map (some N), .slice ea es.length ec] 92) := ⟨_, rfl⟩
  rw [← hW1] at hbk hb1
  have hs1 : W1.heap.size = w.heap.size + 1 := by rw [hW1]; simp
  have hall : ∀ W, Below W1.heap.size W1 W → Blk W w.heap.size [.int .i64 (size : Int), .slice fa L.length fc, .int .i64 (hs.length : Int), .map (some N), .slice ea es.length ec] ∧ FoundM W N c D hs Q ∧ Rd W ea (exV es) ∧ FRow W base fa L ∧ Below w.heap.size w W := by
    intro W hW
    have hb := Below.next hb1 hW
    exact ⟨hbk.touch (Touch.of_below hW []) (by simp), ⟨Ar hF.own (Touch.of_below hb []) (by simp), hF.at', hF.keys⟩, hE.later (Nat.le_refl _) hb, hFR.later hb, hb⟩
  obtain ⟨K, hK⟩ : ∃ x, x = hs.length := ⟨_, rfl⟩
  obtain ⟨n, hnL⟩ : ∃ x, x = L.length := ⟨_, rfl⟩
  have hlo := fun W (hW : Below W1.heap.size W1 W) => IQ (size : Int) (.slice fa L.length fc) (.slice ea es.length ec) N c D hs Q (by omega) W (hall W hW).2.1
  have hal := fun (hlost : hs.length - Dr Q hs ≤ es.length) W (hW : Below W1.heap.size W1 W) => Jc size (.slice fa L.length fc) hs N c D Q ea es ec hsz hsz2 hn1 hn hec he hQ hlost W (hall W hW).2.1 (hall W hW).2.2.1
  have hSl : (GV size hs.length (BN Q hs) es).length = hs.length := by simp [GV]
  have hsumL : (L.map fun f => (Ai f.body).length).sum = hs.length := by
    rw [hhs]
    unfold AI
    rw [List.length_flatMap]
  have hSs : ∀ t ∈ GV size hs.length (BN Q hs) es, t.length = size := by
    intro t ht
    unfold GV at ht
    obtain ⟨i, _, rfl⟩ := List.mem_map.1 ht
    exact LN size hs.length (BN Q hs) es hev hQ i
  have hjf := fun W sa sc (hW : Below W1.heap.size W1 W) (hsc : hs.length ≤ sc) (hS : Rd W sa (AM (GV size hs.length (BN Q hs) es))) => I2 size fa fc L (.int .i64 (hs.length : Int)) (.map (some N)) (.slice ea es.length ec) sa sc (GV size hs.length (BN Q hs) es) base hsz2 hL6 (by rw [hSl]; exact hn1) (by rw [hSl]; exact hn) (by rw [hSl]; exact hsumL) (by rw [hSl]; exact hsc) hSs (fun f hf => ⟨(hlong f hf).1, (hlong f hf).2.1⟩) W (hall W hW).2.2.2.1 hS
  rw [hSl] at hjf
  have hJl : (F9 (L.map EZ) (GV size hs.length (BN Q hs) es)).length = L.length := by rw [Kv, List.length_map]
  obtain ⟨m, hm⟩ : ∃ x, x = hs.length - Dr Q hs := ⟨_, rfl⟩
  obtain ⟨SS, hSS⟩ : ∃ x, x = GV size hs.length (BN Q hs) es := ⟨_, rfl⟩
  obtain ⟨JJ, hJJ⟩ : ∃ x, x = F9 (L.map EZ) SS := ⟨_, rfl⟩
  have hrq : EQ size L hs Q es = if es.length < m then .inr 5 else if DP (L.map EZ) JJ then .inl JJ else .inr 6 := by unfold EQ; rw [← hm, ← hSS, ← hJJ]
  rw [← hSS, ← hJJ] at hjf hJl
  rw [← hSS] at hal
  rw [← hm] at hlo hal
  rw [← hK] at hlo hal hjf hall hW1 hn hn1 ⊢
  rw [← hnL] at hlo hal hjf hall hW1 hJl hL6 ⊢
  have HA := Aa hall
  have HW1 := Aa hW1
  have HLO := Aa hlo
  have HAL := Aa hal
  have HJF := Aa hjf
  have HRQ := Aa hrq
  have HNL := Aa hnL
  have HJJ := Aa hJJ
  have HLG := Aa hlong
  have hm60 : m ≤ 60 := by omega
  clear hall hW1 hlo hal hjf hrq hnL hJJ hbk hb1 hFR hF hE hSl hSs hsumL hSS hm hhs hQ he hlong hK
  go_enter Tryz.func47, Tryz.ntmps47
  go_wp2_with fail
  rw [← HW1.out]
  have HS : Hid (∀ W, Below W1.heap.size W1 W → W.cell? ⟨w.heap.size, 0, none⟩ = some (.int .i64 (size : Int)) ∧ W.cell? ⟨w.heap.size, 1, none⟩ = some (.slice fa n fc) ∧ W.cell? ⟨w.heap.size, 2, none⟩ = some (.int .i64 (K : Int)) ∧ W.cell? ⟨w.heap.size, 3, none⟩ = some (.map (some N)) ∧ W.cell? ⟨w.heap.size, 4, none⟩ = some (.slice ea es.length ec) ∧ Below W1.heap.size W1 W) := Aa (fun W hW => by
    have h := (HA.out W hW).1
    exact ⟨(h 0 _ rfl).1, (h 1 _ rfl).1, (h 2 _ rfl).1, (h 3 _ rfl).1, (h 4 _ rfl).1, hW⟩)
  have hT0 : Below W1.heap.size W1 W1.drew := (Below.refl _ _).drew
  have HE5 : Hid (es.length < m → ∀ W, Below W1.heap.size W1 W → Gf (EQ size L hs Q es) w (.returned (.tuple #[.slice none 0 0, .int .i64 5])) W) := Aa (fun h W hW => by
    rw [HRQ.out, if_pos h]
    exact ⟨(HA.out W hW).2.2.2.2, rfl⟩)
  by_cases hlost : es.length < m
  · have e1 : ¬ ((m : Int) ≤ (es.length : Int)) := by omega
    have HE6 := Aa (HE5.out hlost)
    clear HE5 HRQ
    go_region_held (fun W => W.cell? ⟨w.heap.size, 0, none⟩ = some (.int .i64 (size : Int)) ∧ W.cell? ⟨w.heap.size, 1, none⟩ = some (.slice fa n fc) ∧ W.cell? ⟨w.heap.size, 2, none⟩ = some (.int .i64 (K : Int)) ∧ W.cell? ⟨w.heap.size, 3, none⟩ = some (.map (some N)) ∧ W.cell? ⟨w.heap.size, 4, none⟩ = some (.slice ea es.length ec) ∧ Below W1.heap.size W1 W)
      (first | assumption | exact HS.out _ hT0 | exact HS.out _ (Below.next hT0 hb6))
      (first | (go_at_call 84; refine (HLO.out _ hT0).mono ?_; rintro e w6 ⟨rfl, hb6⟩))
    have hb06 := Below.next hT0 hb6
    clear hb6 HS HLO HAL HJF
    go_wp2_with fail
    go_ret2
    exact HE6.out _ hb06
  · clear HE5
    rw [if_neg hlost] at HRQ
    have e1 : (m : Int) ≤ (es.length : Int) := by omega
    go_region_held (fun W => W.cell? ⟨w.heap.size, 0, none⟩ = some (.int .i64 (size : Int)) ∧ W.cell? ⟨w.heap.size, 1, none⟩ = some (.slice fa n fc) ∧ W.cell? ⟨w.heap.size, 2, none⟩ = some (.int .i64 (K : Int)) ∧ W.cell? ⟨w.heap.size, 3, none⟩ = some (.map (some N)) ∧ W.cell? ⟨w.heap.size, 4, none⟩ = some (.slice ea es.length ec) ∧ Below W1.heap.size W1 W)
      (first | assumption | exact HS.out _ hT0 | exact HS.out _ (Below.next hT0 hb6))
      (first | (go_at_call 84; refine (HLO.out _ hT0).mono ?_; rintro e w6 ⟨rfl, hb6⟩))
    have hb06 := Below.next hT0 hb6
    clear hb6 HLO
    go_wp2_with fail
    have hT6 : Below W1.heap.size W1 w6.drew := hb06.drew
    clear hT0
    go_region_held (fun W => W.cell? ⟨w.heap.size, 0, none⟩ = some (.int .i64 (size : Int)) ∧ W.cell? ⟨w.heap.size, 1, none⟩ = some (.slice fa n fc) ∧ W.cell? ⟨w.heap.size, 2, none⟩ = some (.int .i64 (K : Int)) ∧ W.cell? ⟨w.heap.size, 3, none⟩ = some (.map (some N)) ∧ W.cell? ⟨w.heap.size, 4, none⟩ = some (.slice ea es.length ec) ∧ Below W1.heap.size W1 W)
      (first | assumption | exact HS.out _ hT6 | exact HS.out _ hT7 | exact HS.out _ hT8)
      (first | (go_at_call 91; refine (HAL.out (by omega) _ hT6).mono ?_; rintro e w7 ⟨v7, rfl, ho7, hb7⟩; obtain ⟨a7, c7, rfl, hc7, hr7⟩ := Nu ho7; have hT7 : Below W1.heap.size W1 w7 := Below.next hT6 hb7; have hq7 : K ≤ c7 := hc7 (by omega); have HR7 := Aa hr7; clear ho7 hb7 hr7 hc7)
             | (go_at_call 90; refine (HJF.out _ a7 c7 hT7 hq7 HR7.out).mono ?_; rintro e w8 ⟨v8, rfl, ho8, hb8⟩; obtain ⟨a8, c8, rfl, hr8⟩ := AE ho8; have hT8 : Below W1.heap.size W1 w8 := Below.next hT7 hb8; have HO8 := Aa ho8; have HR8 := Aa hr8; have hs78 := hT7.size; clear ho8 hb8 hr8))
    obtain ⟨_, z1, _⟩ := HS.out w8 hT8
    have hJs : ∀ f ∈ JJ, f.2.length ≤ 400 := by
      intro f hf
      obtain ⟨k, hk, rfl⟩ := List.mem_iff_getElem.1 hf
      have hk' : k < L.length := by rw [← HNL.out, ← hJl]; exact hk
      have h := Mu L SS k hk'
      rw [← HJJ.out, List.getElem?_eq_getElem hk] at h
      rw [Option.some.inj h]
      have := (HLG.out _ (List.getElem_mem hk')).2.2
      rw [List.length_take]
      omega
    have HJS := Aa hJs
    have HT8 := Aa hT8
    clear hT6 hT7 hT8 hq7 HR7 HAL HJF HS hb06 hJs
    go_wp2_with fail
    go_loopw [20] (fun i wr => ∃ k : Nat, k ≤ n ∧ i = .int .i64 (k : Int) ∧ Below w8.heap.size w8 wr ∧ Hid (∀ (j : Nat) (d : DescL) (f : Ak), j < k → (L.map EZ)[j]? = some d → JJ[j]? = some f → AC f.2 = d.hash))
      (fun i _ => n - (intOf i).toNat)
    case atStart => exact ⟨0, by omega, rfl, Below.refl _ _, Aa (fun j d f h => by omega)⟩
    case round =>
      obtain ⟨k, hk, rfl, hbl, hok⟩ := hrel
      have hT := Below.next HT8.out hbl
      obtain ⟨_, _, _, hfr, hbw⟩ := HA.out wr hT
      by_cases hlt : k < n
      · have hltL : k < L.length := by rw [← HNL.out]; exact hlt
        have hltJ : k < JJ.length := by omega
        obtain ⟨bb, fo, fsa, fsc, rfl, e0, e1', e2, e3, e4, _⟩ := hfr k hltL
        obtain ⟨jb, jo, rfl, d1, d2⟩ := Bk HR8.out (Nat.le_refl _) hbl k hltJ
        have hdl := HJS.out _ (List.getElem_mem hltJ)
        have hDk : (L.map EZ)[k]? = some (EZ L[k]) := by rw [List.getElem?_map, List.getElem?_eq_getElem hltL]; rfl
        have hJk : JJ[k]? = some JJ[k] := List.getElem?_eq_getElem hltJ
        have hdh : (EZ L[k]).hash = BQ L[k].body := by unfold EZ; with_reducible rfl
        obtain ⟨nm, hnm⟩ : ∃ x, x = AW L[k].body := ⟨_, rfl⟩
        obtain ⟨lg, hlgE⟩ : ∃ x, x = Bh L[k].body := ⟨Bh L[k].body, rfl⟩
        obtain ⟨nb, hnb⟩ : ∃ x, x = Av L[k].body := ⟨Av L[k].body, rfl⟩
        obtain ⟨hh, hhh⟩ : ∃ x, x = BQ L[k].body := ⟨BQ L[k].body, rfl⟩
        obtain ⟨ct, hct⟩ : ∃ x, x = (Ai L[k].body).length := ⟨_, rfl⟩
        obtain ⟨dt, hdt⟩ : ∃ x, x = JJ[k].2 := ⟨_, rfl⟩
        rw [← hnb] at e0
        rw [← hnm] at e1'
        rw [← hlgE] at e2
        rw [← hhh] at e3 hdh
        rw [← hct] at e4
        rw [← hdt] at d2 hdl
        have l1 := World.block_lt_of_cell? wr _ d2
        have y2 : ∀ o, (wr.alloc o).cell? ⟨jb, jo + k * 2 + 1, none⟩ = some (.string (str dt)) := fun o => (((Below.refl wr.heap.size wr).alloc (Nat.le_refl _) o).cell l1).trans d2
        have HDT := Aa hdt
        have HHS := Aa (fun W => FR dt (by omega) W)
        have hba := hbl.alloc hbl.size (.cells #[.int .i64 (nb : Int), .string (str nm), .int .i64 (lg : Int), .int .u64 (hh : Int), .slice fsa ct fsc] 143)
        have hTa := Below.next HT8.out hba
        have HBA := Aa hba
        have HBW := Aa (HA.out _ hTa).2.2.2.2
        obtain ⟨hv, hhv⟩ : ∃ x, x = AC dt := ⟨AC dt, rfl⟩
        rw [← hhv] at HHS
        have HHV := Aa hhv
        have HDH := Aa hdh
        have HDK := Aa hDk
        have HJK := Aa hJk
        clear hnm hlgE hnb hhh hct hdt hba hTa hbl hbw hT hfr hhv hdh hDk hJk d1 d2 l1
        by_cases heq : hv = hh
        · subst heq
          go_wp2_with fail
          go_quiet ((go_at_call 92; refine (HHS.out _).mono ?_; rintro e w' ⟨rfl, rfl⟩; exact ⟨rfl, _, rfl⟩))
          go_wp2_with fail
          refine ⟨⟨k + 1, by omega, by go_num, BJ HBA.out _, Aa (fun j d f hj hd hf => ?_)⟩, by simp [intOf]; omega⟩
          by_cases hjk : j < k
          · exact hok.out j d f hjk hd hf
          · obtain rfl : j = k := by omega
            rw [HDK.out] at hd
            rw [HJK.out] at hf
            cases hd
            cases hf
            rw [HDH.out, ← HDT.out, HHV.out]
        · have hno : DP (L.map EZ) JJ = false := LP HDK.out HJK.out (by rw [HDH.out, ← HDT.out, ← HHV.out]; exact heq)
          have HE6 : Hid (∀ W, Below w.heap.size w W → Gf (EQ size L hs Q es) w (.returned (.tuple #[.slice none 0 0, .int .i64 6])) W) := Aa (fun W hW => by
            rw [HRQ.out, hno]
            exact ⟨hW, rfl⟩)
          have hne : ((hv : Int) = (hh : Int)) = False := eq_false (by omega)
          clear hno
          go_wp2_with fail
          go_quiet ((go_at_call 92; refine (HHS.out _).mono ?_; rintro e w' ⟨rfl, rfl⟩; exact ⟨rfl, _, rfl⟩))
          go_wp2_with fail
          go_ret2
          exact HE6.out _ (BJ HBW.out _)
      · obtain rfl : k = n := by omega
        have hyes : DP (L.map EZ) JJ = true := (FE _ _).2 (fun j d f hd hf => hok.out j d f (by
          have := (List.getElem?_eq_some_iff.1 hf).1
          omega) hd hf)
        have hfin : Gf (EQ size L hs Q es) w (.returned (.tuple #[.slice a8 k c8, .int .i64 0])) wr := by
          rw [HRQ.out, if_pos hyes]
          refine ⟨hbw, _, rfl, ?_⟩
          rw [hJl]
          have h := Ab HO8.out (Nat.le_refl _) hbl
          refine Ad ?_ h
          omega
        have HFIN := Aa hfin
        clear hfin hyes hok hfr hbw hT hbl
        go_wp2_with fail
        go_ret2
        exact HFIN.out
end Go.Proofs.YtonjphollmdicaaGreatDoor
namespace Go.Proofs.YtonjphollmdicaaGreatDoor
open Go.ChangeShapes Go.WideShapes Go.ChangeAt Go.RowKit
open Go.Maps
def MS (l : List FoundL) (m : MainL) : List (Nat × List UInt8) := (AU l m).map fun j => (j, ((AN (A7 m) (l.filter (·.kind == 82)) j).map fun g => Ce g.body m.size).getD [])
theorem Nx (l : List FoundL) (m : MainL) : (MS l m).length = (AU l m).length := by simp [MS]
theorem IA {m : MainL} {f : FoundL} {j : Nat} (h : A7 m f = some j) : FP f.body m.size = true ∧ AY f.body = j := by
 unfold A7 at h
 split at h
 ·rename_i hc
  cases h
  exact ⟨hc.2, rfl⟩
 ·cases h
theorem RO (l : List FoundL) (m : MainL) : ∀ e ∈ MS l m, e.1 < 20 ∧ e.2.length = m.size := by
 intro e he
 unfold MS at he
 obtain ⟨j, hj, rfl⟩ := List.mem_map.1 he
 obtain ⟨h20, f, hf⟩ := DV hj
 refine ⟨h20, ?_⟩
 rw [hf]
 have hg : A7 m f = some j := by
  have := List.find?_some hf
  simpa using this
 obtain ⟨h1, _⟩ := IA hg
 rw [LQ] at h1
 simp only [Bool.and_eq_true, decide_eq_true_eq] at h1
 show (Ce f.body m.size).length = m.size
 rw [(Kk h1.1).2, List.length_drop, h1.1]
 omega
theorem Qd {l : List FoundL} {m : MainL} {D : DataW Value} (hK : KMap D (A7 m) (l.filter (·.kind == 82)) 20 (fun v g => v = DY m.size g)) : CD D (AU l m) = exV (MS l m) := by
 unfold CD exV MS
 rw [List.flatMap_map]
 have key : ∀ j ∈ AU l m, cellsL ((atM D (Bo j)).getD undef) = [.int .i64 (j : Int), .string (str (((AN (A7 m) (l.filter (·.kind == 82)) j).map fun g => Ce g.body m.size).getD []))] := by
  intro j hj
  obtain ⟨_, f, hf⟩ := DV hj
  obtain ⟨v, h1, h2⟩ := hK.there j f hf
  have hg : A7 m f = some j := by
   have := List.find?_some hf
   simpa using this
  obtain ⟨_, hn⟩ := IA hg
  rw [h1, h2, hf]
  unfold DY
  rw [hn]
  rfl
 have cong : ∀ (ks : List Nat), (∀ j ∈ ks, j ∈ AU l m) → (ks.flatMap fun k => cellsL ((atM D (Bo k)).getD undef)) = ks.flatMap fun (j : Nat) => [Value.int .i64 (j : Int), .string (str (((AN (A7 m) (l.filter (·.kind == 82)) j).map fun g => Ce g.body m.size).getD []))] := by
  intro ks
  induction ks with
  | nil => intro _; rfl
  | cons k r ih =>
   intro h
   rw [List.flatMap_cons, List.flatMap_cons, key k (h k (List.mem_cons_self ..)), ih (fun j hj => h j (List.mem_cons_of_mem _ hj))]
 exact cong _ (fun j hj => hj)
theorem LR {b : Nat} {fs : List Ak} {p : List UInt8} (hb : 0 < b) (h : p ∈ AG b fs) : p.length = b := by
 unfold AG at h
 obtain ⟨f, _, h⟩ := List.mem_flatMap.1 h
 unfold Cq at h
 obtain ⟨j, hj, rfl⟩ := List.mem_map.1 h
 have := List.mem_range.1 hj
 unfold CP GR
 rw [List.length_take, List.length_drop, List.length_append, List.length_replicate]
 omega
theorem MW {l : List FoundL} {m : MainL} (h0 : 0 < m.size) : ∀ f ∈ Am l m, Bh f.body ≤ (Ai f.body).length * m.size ∧ (AW f.body).length ≤ 100 ∧ Bh f.body ≤ 400 := by
 intro f hf
 obtain ⟨_, i, _, hg⟩ := Jt hf
 unfold AZ at hg
 split at hg
 ·rename_i hc
  have := hc.2.1
  unfold D9 at this
  simp only [Bool.and_eq_true, decide_eq_true_eq] at this
  obtain ⟨⟨⟨⟨_, _⟩, h2⟩, h3⟩, h4⟩ := this
  refine ⟨?_, by omega, h3⟩
  rw [h4]
  exact Ff _ _ h0
 ·cases hg
def Fo (fs : List Ak) (vs : List (List UInt8)) : List Ak ⊕ Nat :=
 if BO fs vs = false then .inr 1 else match AV (At vs) with
  | none => .inr 3
  | some f => if Ci (At vs) (Ag f) = false then .inr 4 else EQ (Al f.body) (Am (At vs) (Ag f)) (AI (Am (At vs) (Ag f))) (AG (Al f.body) fs) (MS (At vs) (Ag f))
theorem NR {fs : List Ak} {vs : List (List UInt8)} {w w' : World} {e : Ending} (h : B9 fs vs w e w') : Below w.heap.size w w' ∧ ((∃ n : Nat, Fo fs vs = .inr n ∧ n ≠ 0 ∧ n < 10 ∧ e = .returned (.tuple #[AR, .int .i64 (n : Int)])) ∨
  (∃ f, BO fs vs = true ∧ AV (At vs) = some f ∧ Ci (At vs) (Ag f) = true ∧ Fo fs vs = EQ (Al f.body) (Am (At vs) (Ag f)) (AI (Am (At vs) (Ag f))) (AG (Al f.body) fs) (MS (At vs) (Ag f)) ∧
   ∃ (fa : Option Addr) (fc N base c ec : Nat) (ea : Option Addr) (D : DataW Value), e = .returned (.tuple #[.agg #[.int .i64 (Al f.body : Int), .slice fa (Am (At vs) (Ag f)).length fc, .int .i64 ((AI (Am (At vs) (Ag f))).length : Int), .map (some N), .slice ea (MS (At vs) (Ag f)).length ec], .int .i64 0]) ∧
    FRow w' base fa (Am (At vs) (Ag f)) ∧ FoundM w' N c D (AI (Am (At vs) (Ag f))) (AG (Al f.body) fs) ∧ (MS (At vs) (Ag f)).length ≤ ec ∧ Rd w' ea (exV (MS (At vs) (Ag f))))) := by
 obtain ⟨hb, h⟩ := h
 refine ⟨hb, ?_⟩
 unfold Fo
 cases hh : BO fs vs with
 | false =>
  rw [if_pos hh] at h
  exact .inl ⟨1, by rw [if_pos rfl], by decide, by decide, h⟩
 | true =>
  rw [if_neg (by rw [hh]; simp)] at h
  rw [if_neg (by simp)]
  cases hc : AV (At vs) with
  | none =>
   rw [hc] at h
   exact .inl ⟨3, rfl, by decide, by decide, h⟩
  | some f =>
   rw [hc] at h
   simp only at h ⊢
   cases hl : Ci (At vs) (Ag f) with
   | false =>
    rw [if_pos hl] at h
    exact .inl ⟨4, by rw [if_pos rfl], by decide, by decide, h⟩
   | true =>
    rw [if_neg (by rw [hl]; simp)] at h
    obtain ⟨fa, fc, N, base, ev, _, _, rfl, hFR, ⟨M, b9, hFS⟩, ⟨DE, b0, hev, hKE⟩⟩ := h
    obtain ⟨_, c, D, _, hfm, q1, q2⟩ := hFS
    rw [Qd hKE, ← Nx] at hev
    obtain ⟨ea, ec, rfl, hec, hre⟩ := Nu hev
    exact .inr ⟨f, trivial, rfl, hl, by rw [if_neg (by simp)], fa, fc, N, base, c, ec, ea, D, rfl, hFR, ⟨hfm, q1, q2⟩, by omega, hre⟩
theorem Mg (fs : List Ak) (vs : List (List UInt8)) (a b : Option Addr) (ca cb : Nat) (w : World) (hK : Kinds w) (hfa : Rd w a (As fs)) (hvb : Rd w b (AM vs)) :
  Calls Tryz.prog 20 #[.slice a fs.length ca, .slice b vs.length cb] w fun e w' => Gf (Fo fs vs) w e w' := by
 have hG := Aa (Iz fs vs a b ca cb w hK hfa hvb)
 clear hfa hvb hK
 go_enter Tryz.func20, Tryz.ntmps20
 go_wp2_with fail
 refine hG.out.mono ?_
 rintro e w1 hg
 obtain ⟨hb1, hor⟩ := NR hg
 have HBW := Aa hb1
 have hs1 := hb1.size
 clear hg hb1 hG
 rcases hor with ⟨n, hlp, hn0, hn10, rfl⟩ | ⟨f, hha, hch, hil, hlp, fa, fc, N, base, c, ec, ea, D, rfl, hFR, hFM, hec, hre⟩
 ·have HE : Hid (∀ w', Below w.heap.size w w' → Gf (Fo fs vs) w (.returned (.tuple #[.slice none 0 0, .int .i64 (n : Int)])) w') := Aa (fun w' h => by rw [hlp]; exact ⟨h, rfl⟩)
  clear hlp
  have e1 : ((n : Int) != 0) = true := by simp; omega
  have e2 : ((n : Int) == 0) = false := by simp; omega
  unfold AR
  have hfin := HBW.out.alloc hs1 (.cells #[.int .i64 0, .slice none 0 0, .int .i64 0, .map none, .slice none 0 0] 92)
  have HF := Aa hfin
  clear hfin
  go_wp2_with fail
  go_ret2
  exact HE.out _ HF.out
 ·obtain ⟨_, _, hn1, hn6, hz2, hz32⟩ := Cu hch
  have hev : Al f.body % 2 = 0 := by
   have h1 := (Cu hch).2.1
   obtain ⟨_, _, _, _, _, h6⟩ := Eg h1
   unfold Ay at h6
   simp only [decide_eq_true_eq] at h6
   omega
  have hLn : (Am (At vs) (Ag f)).length ≤ 6 ∧ 1 ≤ (AI (Am (At vs) (Ag f))).length ∧ (AI (Am (At vs) (Ag f))).length ≤ 60 := by
   unfold Ci at hil
   simp only [Bool.and_eq_true, decide_eq_true_eq] at hil
   refine ⟨?_, hil.1.2, hil.2⟩
   rw [hil.1.1.1]
   exact hn6
  have hmo : (Ag f).size = Al f.body := rfl
  have hex := RO (At vs) (Ag f)
  have hll := MW (l := At vs) (m := Ag f) (by rw [hmo]; omega)
  rw [hmo] at hex hll
  have hpc : ∀ i p, BN (AG (Al f.body) fs) (AI (Am (At vs) (Ag f))) i = some p → p.length = Al f.body := by
   intro i p hp
   unfold BN BV at hp
   exact LR (by omega) (List.mem_of_find?_eq_some hp)
  have hRep := fun W (hW : Below w1.heap.size w1 W) => Mr (Al f.body) fa fc (Am (At vs) (Ag f)) (AI (Am (At vs) (Ag f))) N c D (AG (Al f.body) fs) ea (MS (At vs) (Ag f)) ec base hz2 hz32 hev hLn.1 hLn.2.1 hLn.2.2 hec rfl hex hpc hll W (hFR.later hW) ⟨Ar hFM.own (Touch.of_below hW []) (by simp), hFM.at', hFM.keys⟩ (hre.later (Nat.le_refl _) hW)
  rw [← hlp] at hRep
  obtain ⟨sz, hsz⟩ : ∃ x, x = Al f.body := ⟨Al f.body, rfl⟩
  obtain ⟨nl, hnl⟩ : ∃ x, x = (Am (At vs) (Ag f)).length := ⟨_, rfl⟩
  obtain ⟨nh, hnh⟩ : ∃ x, x = (AI (Am (At vs) (Ag f))).length := ⟨_, rfl⟩
  obtain ⟨ne, hne⟩ : ∃ x, x = (MS (At vs) (Ag f)).length := ⟨_, rfl⟩
  rw [← hsz, ← hnl, ← hnh, ← hne] at hRep ⊢
  have HR := Aa hRep
  obtain ⟨R, hR⟩ : ∃ x, x = Fo fs vs := ⟨_, rfl⟩
  rw [← hR] at HR
  have HRE := Aa hR
  clear hRep hsz hnl hnh hne hR hpc hex hll hmo hLn hev hlp hch hha hil hFR hFM hre hec hn1 hn6 hz2 hz32
  go_wp2_with fail
  refine (HR.out _ ((Below.refl _ _).alloc (Nat.le_refl _) _)).mono ?_
  rintro e w2 ⟨hb2, h2⟩
  have hbf : Below w.heap.size w w2 := (HBW.out.alloc hs1 _).trans (hb2.mono (by simp; omega))
  have HBF := Aa hbf
  cases R with
  | inr n =>
   obtain rfl := h2
   clear hb2 hbf
   go_wp2_with fail
   go_ret2
   rw [← HRE.out]
   exact ⟨HBF.out, rfl⟩
  | inl fl =>
   obtain ⟨v, rfl, hov⟩ := h2
   obtain ⟨va, vc, rfl, _⟩ := AE hov
   have hbase := Ad (base' := w.heap.size) (by simp; omega) hov
   have HO := Aa hbase
   clear hb2 hbf hov hbase
   go_wp2_with fail
   go_ret2
   rw [← HRE.out]
   exact ⟨HBF.out, _, rfl, HO.out⟩
end Go.Proofs.YtonjphollmdicaaGreatDoor
namespace Go.Proofs.YtonjphollmdicaaGreatDoor
theorem JA {l : List FoundL} {f : FoundL} (hb : 0 < Aq f) (hsz : (Ag f).size = Aq f) : MS l (Ag f) = Be (FD l f) := by
 unfold MS Be AU Ba
 have hg : ∀ j, j < 20 → (FD l f).getD j [] = KS l f j := fun j hj => by
  unfold FD
  simp [hj]
 have he : ∀ j, j < 20 → (AN (A7 (Ag f)) (l.filter (·.kind == 82)) j).map (fun g => Ce g.body (Ag f).size) = exL l f.set (Aq f) j := fun j hj => by
  have h := Gs (Ag f) j hj l
  have hset : (Ag f).set = f.set := rfl
  rw [hset] at h
  rw [hsz] at h ⊢
  exact h
 have e1 : (List.range 20).filter (fun i => (AN (A7 (Ag f)) (l.filter (·.kind == 82)) i).isSome) = (List.range 20).filter fun j => decide ((FD l f).getD j [] ≠ []) := by
  refine List.filter_congr (fun j hj => ?_)
  have hj := List.mem_range.1 hj
  have h := he j hj
  rw [hg j hj]
  unfold KS
  rw [← h]
  cases hf : AN (A7 (Ag f)) (l.filter (·.kind == 82)) j with
  | none => simp
  | some g =>
   rw [hf] at h
   have hl : (Ce g.body (Ag f).size).length = Aq f := JV h.symm
   simp only [Option.isSome_some, Option.map_some, Option.getD_some, ne_eq]
   symm
   rw [decide_eq_true_iff]
   intro e0
   rw [e0] at hl
   simp at hl
   omega
 rw [e1]
 refine List.map_congr_left (fun j hj => ?_)
 have hj := List.mem_range.1 (List.mem_filter.1 hj).1
 rw [hg j hj]
 unfold KS
 rw [← he j hj]
theorem OA (fs : List Ak) (vs : List (List UInt8)) : Fo fs vs = C9 fs vs := by
 unfold Fo C9 AH
 have hh : BO fs vs = DZ fs vs := rfl
 rw [hh]
 cases DZ fs vs with
 | false => rfl
 | true =>
  simp only [Bool.true_eq_false, if_false, if_true]
  unfold EH
  cases hc : AV (At vs) with
  | none => rfl
  | some f =>
   simp only
   obtain ⟨h1, h2, h3⟩ := Ls hc
   have hpos : 2 ≤ Aq f := by rw [← h2]; exact (Cu hc).2.2.2.2.1
   unfold Ci GZ
   rw [h1]
   cases ha : CN (At vs) f (Bs f) with
   | false => simp
   | true =>
    have h3 := h3 ha
    have hnm : (Df (Bv (At vs) f (Bs f))).map (·.1) = (Am (At vs) (Ag f)).map fun g => AW g.body := by
     rw [h3]
     simp [Df, Function.comp_def]
    have htw := Ij _ _ hnm
    rw [List.length_map] at htw
    rw [htw]
    have hhs : AF (Bv (At vs) f (Bs f)) = AI (Am (At vs) (Ag f)) := by
     rw [h3]
     unfold AF AI
     rw [List.flatMap_map]
    have hsum : Dc (Bv (At vs) f (Bs f)) = (AI (Am (At vs) (Ag f))).length := by rw [← hhs]; rfl
    rw [hsum]
    cases hb : (true && !DT (Df (Bv (At vs) f (Bs f))) && decide (1 ≤ (AI (Am (At vs) (Ag f))).length) && decide ((AI (Am (At vs) (Ag f))).length ≤ 60)) with
    | false => simp
    | true =>
     simp only [Bool.true_eq_false, if_false, if_true]
     have hms : Al f.body = Aq f := h2
     have hds : (Am (At vs) (Ag f)).map EZ = Bv (At vs) f (Bs f) := by
      rw [h3]
      exact List.map_congr_left (fun g _ => by unfold EZ; with_reducible rfl)
     unfold EQ Ct MV
     simp only
     rw [hds, hms, hhs, JA (by omega) h2]
     have hpi : BN (AG (Aq f) fs) (AI (Am (At vs) (Ag f))) = Eq fs ⟨Aq f, Bv (At vs) f (Bs f), FD (At vs) f⟩ := by
      funext i
      unfold BN Eq
      simp only
      rw [hhs, Dd]
     rw [hpi, Jo]
     have hxl : (Be (FD (At vs) f)).length = exN (FD (At vs) f) := by
      rw [← JA (by omega) h2, Nx, II (by omega) h2]
     rw [hxl]
end Go.Proofs.YtonjphollmdicaaGreatDoor
namespace Go.Proofs.YtonjphollmdicaaGreatDoor
def CY (es : List (List UInt8)) (n : Nat) : List (Nat × List UInt8) := ((List.range n).filter fun j => decide (es.getD j [] ≠ [])).map fun j => (j, es.getD j [])
theorem Lo (es : List (List UInt8)) : CY es 20 = Be es := rfl
theorem GF (es : List (List UInt8)) : CY es 0 = [] := rfl
theorem PX {es : List (List UInt8)} {j : Nat} (h : es.getD j [] ≠ []) : CY es (j + 1) = CY es j ++ [(j, es.getD j [])] := by
 unfold CY
 rw [List.range_succ, List.filter_append, List.map_append, List.filter_cons, if_pos (decide_eq_true h)]
 rfl
theorem QL {es : List (List UInt8)} {j : Nat} (h : es.getD j [] = []) : CY es (j + 1) = CY es j := by
 unfold CY
 rw [List.range_succ, List.filter_append, List.map_append, List.filter_cons, if_neg (by rw [decide_eq_true_eq]; exact fun c => c h)]
 simp
theorem PM (es : List (List UInt8)) {n m : Nat} (h : n ≤ m) : CY es n = (CY es m).take (CY es n).length := by
 obtain ⟨d, rfl⟩ : ∃ d, m = n + d := ⟨m - n, by omega⟩
 have e : ∃ r, CY es (n + d) = CY es n ++ r := by
  unfold CY
  rw [List.range_add, List.filter_append, List.map_append]
  exact ⟨_, rfl⟩
 obtain ⟨r, e⟩ := e
 rw [e, List.take_left]
theorem Pd {K : Nat} {P : Nat → Option (List UInt8)} {es : List (List UInt8)} {n : Nat} (hn : n ≤ 20) (hl : (AT K P).length + (CY es n).length ≤ K) (h : n = 20 ∨ (AT K P).length + (CY es n).length = K) : CY es n = GH K P (Be es) := by
 unfold GH
 rcases h with rfl | h
 ·rw [Lo] at hl ⊢
  rw [List.take_of_length_le (by omega)]
 ·rw [← Lo, show K - (AT K P).length = (CY es n).length from by omega]
  exact PM es hn
def Cw (P : Nat → Option (List UInt8)) (n : Nat) : List Nat := (List.range n).filter fun i => (P i).isSome
theorem Qt (K : Nat) (P : Nat → Option (List UInt8)) : Cw P K = AT K P := rfl
theorem Pt {P : Nat → Option (List UInt8)} {n : Nat} (h : (P n).isSome = true) : Cw P (n + 1) = Cw P n ++ [n] := by
 unfold Cw
 rw [List.range_succ, List.filter_append, List.filter_cons, if_pos h]
 rfl
theorem Rf {P : Nat → Option (List UInt8)} {n : Nat} (h : (P n).isSome = false) : Cw P (n + 1) = Cw P n := by
 unfold Cw
 rw [List.range_succ, List.filter_append, List.filter_cons, if_neg (by rw [h]; decide)]
 simp
theorem Oz (P : Nat → Option (List UInt8)) (n : Nat) : (Cw P n).length ≤ n := Nat.le_trans (List.length_filter_le _ _) (by simp)
theorem Ow (size K : Nat) (P : Nat → Option (List UInt8)) (es : List (Nat × List UInt8)) (h : ∀ i, i < K → (P i).isSome = true) : GV size K P es = (List.range K).map fun i => (P i).getD [] := by
 unfold GV
 refine List.map_congr_left (fun i hi => ?_)
 obtain ⟨p, hp⟩ := Option.isSome_iff_exists.1 (h i (List.mem_range.1 hi))
 unfold Ho
 rw [hp]
 rfl
end Go.Proofs.YtonjphollmdicaaGreatDoor
