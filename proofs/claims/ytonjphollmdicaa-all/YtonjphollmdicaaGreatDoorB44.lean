import Derived.Test.YtonjphollmdicaaGreatDoorB32
import Derived.Test.YtonjphollmdicaaGreatDoorB41
import Derived.Test.YtonjphollmdicaaGreatDoorB43
set_option maxRecDepth 100000
set_option maxHeartbeats 4000000
set_option linter.unusedSimpArgs false
namespace Go.Proofs.YtonjphollmdicaaGreatDoor
open Go.ChangeShapes Go.WideShapes Go.ChangeAt Go.RowKit
open Go.Maps
theorem FB : ∀ (ds : List DescL) (fl : List Aj), DU ds fl = true ↔ ∀ (k : Nat) (d : DescL) (f : Aj), ds[k]? = some d → fl[k]? = some f → AA f.2 = d.hash
  | [], _ => by simp [DU]
  | d :: r, [] => by simp [DU]
  | d :: r, f :: l => by
    have ih := FB r l
    simp only [DU, Bool.and_eq_true, beq_iff_eq]
    constructor
    · rintro ⟨h1, h2⟩ k d' f' hd hf
      cases k with
      | zero => simp at hd hf; subst hd hf; exact h1
      | succ k => exact ih.1 h2 k d' f' hd hf
    · intro h
      exact ⟨h 0 d f rfl rfl, ih.2 (fun k d' f' hd hf => h (k + 1) d' f' hd hf)⟩
theorem Lr {ds : List DescL} {fl : List Aj} {k : Nat} {d : DescL} {f : Aj} (hd : ds[k]? = some d) (hf : fl[k]? = some f) (h : AA f.2 ≠ d.hash) : DU ds fl = false := by
  cases hc : DU ds fl with
  | false => rfl
  | true => exact absurd ((FB ds fl).1 hc k d f hd hf) h
def Gq (r : List Aj ⊕ Nat) (w : World) (e : Ending) (w' : World) : Prop := Below w.heap.size w w' ∧ match r with
  | .inr n => e = .returned (.tuple #[.slice none 0 0, .int .i64 (n : Int)])
  | .inl fl => ∃ v, e = .returned (.tuple #[v, .int .i64 0]) ∧ w'.ownsRow w.heap.size 62 2 v fl.length (Ar fl)
def EJ (size : Nat) (L : List FoundL) (hs : List Nat) (Q : List (List UInt8)) (es : List (Nat × List UInt8)) : List Aj ⊕ Nat :=
  if es.length < hs.length - Dm Q hs then .inr 5 else if DU (L.map EW) (Gb (L.map EW) (Ha size hs.length (BM Q hs) es)) then .inl (Gb (L.map EW) (Ha size hs.length (BM Q hs) es)) else .inr 6
theorem Nd {w : World} {base : Nat} {e : TypeId} {sz : Nat} {v : Value} {n : Nat} {xs : List Value} (h : w.ownsRow base e sz v n xs) : ∃ a cap, v = .slice a n cap ∧ (0 < n → n ≤ cap) ∧ Rd w a xs := by
  obtain ⟨a, cap, e, hr⟩ := AC h
  refine ⟨a, cap, e, fun h0 => ?_, hr⟩
  rcases h.2 with ⟨rfl, h1⟩ | ⟨g, c, cur, rfl, _, _, hc, _⟩
  · omega
  · cases e
    exact hc
theorem Ms (size : Nat) (fa : Option Addr) (fc : Nat) (L : List FoundL) (hs : List Nat) (N c : Nat) (D : DataW Value) (Q : List (List UInt8)) (ea : Option Addr) (es : List (Nat × List UInt8)) (ec : Nat) (base : Nat) (hsz : 2 ≤ size) (hsz2 : size ≤ 32) (hev : size % 2 = 0) (hL6 : L.length ≤ 6) (hn1 : 1 ≤ hs.length) (hn : hs.length ≤ 60) (hec : es.length ≤ ec)
    (hhs : hs = AH L) (he : ∀ e ∈ es, e.1 < 20 ∧ e.2.length = size) (hQ : ∀ i p, BM Q hs i = some p → p.length = size)
    (hlong : ∀ f ∈ L, Bi f.body ≤ (Ah f.body).length * size ∧ (AU f.body).length ≤ 100 ∧ Bi f.body ≤ 400) (w : World) (hFR : FRow w base fa L) (hF : FoundM w N c D hs Q) (hE : Rd w ea (exV es)) :
    Calls Tryz.prog 47 #[.agg #[.int .i64 (size : Int), .slice fa L.length fc, .int .i64 (hs.length : Int), .map (some N), .slice ea es.length ec]] w fun e w' => Gq (EJ size L hs Q es) w e w' := by
  have hbk := Blk.new w #[.int .i64 (size : Int), .slice fa L.length fc, .int .i64 (hs.length : Int), .map (some N), .slice ea es.length ec] 92
  have hb1 : Below w.heap.size w (w.alloc (.cells #[.int .i64 (size : Int), .slice fa L.length fc, .int .i64 (hs.length : Int), .map (some N), .slice ea es.length ec] 92)) := (Below.refl _ _).alloc (Nat.le_refl _) _
  obtain ⟨W1, hW1⟩ : ∃ x, x = w.alloc (.cells #[.int .i64 (size : Int), .slice fa L.length fc, .int .i64 (hs.length : Int), .map (some N), .slice ea es.length ec] 92) := ⟨_, rfl⟩
  rw [← hW1] at hbk hb1
  have hs1 : W1.heap.size = w.heap.size + 1 := by rw [hW1]; simp
  have hall : ∀ W, Below W1.heap.size W1 W → Blk W w.heap.size [.int .i64 (size : Int), .slice fa L.length fc, .int .i64 (hs.length : Int), .map (some N), .slice ea es.length ec] ∧ FoundM W N c D hs Q ∧ Rd W ea (exV es) ∧ FRow W base fa L ∧ Below w.heap.size w W := by
    intro W hW
    have hb := Below.next hb1 hW
    exact ⟨hbk.touch (Touch.of_below hW []) (by simp), ⟨Aq hF.own (Touch.of_below hb []) (by simp), hF.at', hF.keys⟩, hE.later (Nat.le_refl _) hb, hFR.later hb, hb⟩
  obtain ⟨K, hK⟩ : ∃ x, x = hs.length := ⟨_, rfl⟩
  obtain ⟨n, hnL⟩ : ∃ x, x = L.length := ⟨_, rfl⟩
  have hlo := fun W (hW : Below W1.heap.size W1 W) => II (size : Int) (.slice fa L.length fc) (.slice ea es.length ec) N c D hs Q (by omega) W (hall W hW).2.1
  have hal := fun (hlost : hs.length - Dm Q hs ≤ es.length) W (hW : Below W1.heap.size W1 W) => Jc size (.slice fa L.length fc) hs N c D Q ea es ec hsz hsz2 hn1 hn hec he hQ hlost W (hall W hW).2.1 (hall W hW).2.2.1
  have hSl : (Ha size hs.length (BM Q hs) es).length = hs.length := by simp [Ha]
  have hsumL : (L.map fun f => (Ah f.body).length).sum = hs.length := by
    rw [hhs]
    unfold AH
    rw [List.length_flatMap]
  have hSs : ∀ t ∈ Ha size hs.length (BM Q hs) es, t.length = size := by
    intro t ht
    unfold Ha at ht
    obtain ⟨i, _, rfl⟩ := List.mem_map.1 ht
    exact LF size hs.length (BM Q hs) es hev hQ i
  have hjf := fun W sa sc (hW : Below W1.heap.size W1 W) (hsc : hs.length ≤ sc) (hS : Rd W sa (AL (Ha size hs.length (BM Q hs) es))) => I4 size fa fc L (.int .i64 (hs.length : Int)) (.map (some N)) (.slice ea es.length ec) sa sc (Ha size hs.length (BM Q hs) es) base hsz2 hL6 (by rw [hSl]; exact hn1) (by rw [hSl]; exact hn) (by rw [hSl]; exact hsumL) (by rw [hSl]; exact hsc) hSs (fun f hf => ⟨(hlong f hf).1, (hlong f hf).2.1⟩) W (hall W hW).2.2.2.1 hS
  rw [hSl] at hjf
  have hJl : (Gb (L.map EW) (Ha size hs.length (BM Q hs) es)).length = L.length := by rw [Kt, List.length_map]
  obtain ⟨m, hm⟩ : ∃ x, x = hs.length - Dm Q hs := ⟨_, rfl⟩
  obtain ⟨SS, hSS⟩ : ∃ x, x = Ha size hs.length (BM Q hs) es := ⟨_, rfl⟩
  obtain ⟨JJ, hJJ⟩ : ∃ x, x = Gb (L.map EW) SS := ⟨_, rfl⟩
  have hrq : EJ size L hs Q es = if es.length < m then .inr 5 else if DU (L.map EW) JJ then .inl JJ else .inr 6 := by unfold EJ; rw [← hm, ← hSS, ← hJJ]
  rw [← hSS, ← hJJ] at hjf hJl
  rw [← hSS] at hal
  rw [← hm] at hlo hal
  rw [← hK] at hlo hal hjf hall hW1 hn hn1 ⊢
  rw [← hnL] at hlo hal hjf hall hW1 hJl hL6 ⊢
  have HA := Aa hall
  have HW1 := Aa hW1
  have HLO := Aa hlo
  have HAL := Aa hal
  have HJF := Aa hjf
  have HRQ := Aa hrq
  have HNL := Aa hnL
  have HJJ := Aa hJJ
  have HLG := Aa hlong
  have hm60 : m ≤ 60 := by omega
  clear hall hW1 hlo hal hjf hrq hnL hJJ hbk hb1 hFR hF hE hSl hSs hsumL hSS hm hhs hQ he hlong hK
  go_enter Tryz.func47, Tryz.ntmps47
  go_wp2_with fail
  rw [← HW1.out]
  have HS : Hid (∀ W, Below W1.heap.size W1 W → W.cell? ⟨w.heap.size, 0, none⟩ = some (.int .i64 (size : Int)) ∧ W.cell? ⟨w.heap.size, 1, none⟩ = some (.slice fa n fc) ∧ W.cell? ⟨w.heap.size, 2, none⟩ = some (.int .i64 (K : Int)) ∧ W.cell? ⟨w.heap.size, 3, none⟩ = some (.map (some N)) ∧ W.cell? ⟨w.heap.size, 4, none⟩ = some (.slice ea es.length ec) ∧ Below W1.heap.size W1 W) := Aa (fun W hW => by
    have h := (HA.out W hW).1
    exact ⟨(h 0 _ rfl).1, (h 1 _ rfl).1, (h 2 _ rfl).1, (h 3 _ rfl).1, (h 4 _ rfl).1, hW⟩)
  have hT0 : Below W1.heap.size W1 W1.drew := (Below.refl _ _).drew
  have HE5 : Hid (es.length < m → ∀ W, Below W1.heap.size W1 W → Gq (EJ size L hs Q es) w (.returned (.tuple #[.slice none 0 0, .int .i64 5])) W) := Aa (fun h W hW => by
    rw [HRQ.out, if_pos h]
    exact ⟨(HA.out W hW).2.2.2.2, rfl⟩)
  by_cases hlost : es.length < m
  · have e1 : ¬ ((m : Int) ≤ (es.length : Int)) := by omega
    have HE6 := Aa (HE5.out hlost)
    clear HE5 HRQ
    go_region_held (fun W => W.cell? ⟨w.heap.size, 0, none⟩ = some (.int .i64 (size : Int)) ∧ W.cell? ⟨w.heap.size, 1, none⟩ = some (.slice fa n fc) ∧ W.cell? ⟨w.heap.size, 2, none⟩ = some (.int .i64 (K : Int)) ∧ W.cell? ⟨w.heap.size, 3, none⟩ = some (.map (some N)) ∧ W.cell? ⟨w.heap.size, 4, none⟩ = some (.slice ea es.length ec) ∧ Below W1.heap.size W1 W)
      (first | assumption | exact HS.out _ hT0 | exact HS.out _ (Below.next hT0 hb6))
      (first | (go_at_call 84; refine (HLO.out _ hT0).mono ?_; rintro e w6 ⟨rfl, hb6⟩))
    have hb06 := Below.next hT0 hb6
    clear hb6 HS HLO HAL HJF
    go_wp2_with fail
    go_ret2
    exact HE6.out _ hb06
  · clear HE5
    rw [if_neg hlost] at HRQ
    have e1 : (m : Int) ≤ (es.length : Int) := by omega
    go_region_held (fun W => W.cell? ⟨w.heap.size, 0, none⟩ = some (.int .i64 (size : Int)) ∧ W.cell? ⟨w.heap.size, 1, none⟩ = some (.slice fa n fc) ∧ W.cell? ⟨w.heap.size, 2, none⟩ = some (.int .i64 (K : Int)) ∧ W.cell? ⟨w.heap.size, 3, none⟩ = some (.map (some N)) ∧ W.cell? ⟨w.heap.size, 4, none⟩ = some (.slice ea es.length ec) ∧ Below W1.heap.size W1 W)
      (first | assumption | exact HS.out _ hT0 | exact HS.out _ (Below.next hT0 hb6))
      (first | (go_at_call 84; refine (HLO.out _ hT0).mono ?_; rintro e w6 ⟨rfl, hb6⟩))
    have hb06 := Below.next hT0 hb6
    clear hb6 HLO
    go_wp2_with fail
    have hT6 : Below W1.heap.size W1 w6.drew := hb06.drew
    clear hT0
    go_region_held (fun W => W.cell? ⟨w.heap.size, 0, none⟩ = some (.int .i64 (size : Int)) ∧ W.cell? ⟨w.heap.size, 1, none⟩ = some (.slice fa n fc) ∧ W.cell? ⟨w.heap.size, 2, none⟩ = some (.int .i64 (K : Int)) ∧ W.cell? ⟨w.heap.size, 3, none⟩ = some (.map (some N)) ∧ W.cell? ⟨w.heap.size, 4, none⟩ = some (.slice ea es.length ec) ∧ Below W1.heap.size W1 W)
      (first | assumption | exact HS.out _ hT6 | exact HS.out _ hT7 | exact HS.out _ hT8)
      (first | (go_at_call 91; refine (HAL.out (by omega) _ hT6).mono ?_; rintro e w7 ⟨v7, rfl, ho7, hb7⟩; obtain ⟨a7, c7, rfl, hc7, hr7⟩ := Nd ho7; have hT7 : Below W1.heap.size W1 w7 := Below.next hT6 hb7; have hq7 : K ≤ c7 := hc7 (by omega); have HR7 := Aa hr7; clear ho7 hb7 hr7 hc7)
             | (go_at_call 90; refine (HJF.out _ a7 c7 hT7 hq7 HR7.out).mono ?_; rintro e w8 ⟨v8, rfl, ho8, hb8⟩; obtain ⟨a8, c8, rfl, hr8⟩ := AC ho8; have hT8 : Below W1.heap.size W1 w8 := Below.next hT7 hb8; have HO8 := Aa ho8; have HR8 := Aa hr8; have hs78 := hT7.size; clear ho8 hb8 hr8))
    obtain ⟨_, z1, _⟩ := HS.out w8 hT8
    have hJs : ∀ f ∈ JJ, f.2.length ≤ 400 := by
      intro f hf
      obtain ⟨k, hk, rfl⟩ := List.mem_iff_getElem.1 hf
      have hk' : k < L.length := by rw [← HNL.out, ← hJl]; exact hk
      have h := Mb L SS k hk'
      rw [← HJJ.out, List.getElem?_eq_getElem hk] at h
      rw [Option.some.inj h]
      have := (HLG.out _ (List.getElem_mem hk')).2.2
      rw [List.length_take]
      omega
    have HJS := Aa hJs
    have HT8 := Aa hT8
    clear hT6 hT7 hT8 hq7 HR7 HAL HJF HS hb06 hJs
    go_wp2_with fail
    go_loopw [20] (fun i wr => ∃ k : Nat, k ≤ n ∧ i = .int .i64 (k : Int) ∧ Below w8.heap.size w8 wr ∧ Hid (∀ (j : Nat) (d : DescL) (f : Aj), j < k → (L.map EW)[j]? = some d → JJ[j]? = some f → AA f.2 = d.hash))
      (fun i _ => n - (intOf i).toNat)
    case atStart => exact ⟨0, by omega, rfl, Below.refl _ _, Aa (fun j d f h => by omega)⟩
    case round =>
      obtain ⟨k, hk, rfl, hbl, hok⟩ := hrel
      have hT := Below.next HT8.out hbl
      obtain ⟨_, _, _, hfr, hbw⟩ := HA.out wr hT
      by_cases hlt : k < n
      · have hltL : k < L.length := by rw [← HNL.out]; exact hlt
        have hltJ : k < JJ.length := by omega
        obtain ⟨bb, fo, fsa, fsc, rfl, e0, e1', e2, e3, e4, _⟩ := hfr k hltL
        obtain ⟨jb, jo, rfl, d1, d2⟩ := Bh HR8.out (Nat.le_refl _) hbl k hltJ
        have hdl := HJS.out _ (List.getElem_mem hltJ)
        have hDk : (L.map EW)[k]? = some (EW L[k]) := by rw [List.getElem?_map, List.getElem?_eq_getElem hltL]; rfl
        have hJk : JJ[k]? = some JJ[k] := List.getElem?_eq_getElem hltJ
        have hdh : (EW L[k]).hash = BQ L[k].body := by unfold EW; with_reducible rfl
        obtain ⟨nm, hnm⟩ : ∃ x, x = AU L[k].body := ⟨_, rfl⟩
        obtain ⟨lg, hlgE⟩ : ∃ x, x = Bi L[k].body := ⟨Bi L[k].body, rfl⟩
        obtain ⟨nb, hnb⟩ : ∃ x, x = Au L[k].body := ⟨Au L[k].body, rfl⟩
        obtain ⟨hh, hhh⟩ : ∃ x, x = BQ L[k].body := ⟨BQ L[k].body, rfl⟩
        obtain ⟨ct, hct⟩ : ∃ x, x = (Ah L[k].body).length := ⟨_, rfl⟩
        obtain ⟨dt, hdt⟩ : ∃ x, x = JJ[k].2 := ⟨_, rfl⟩
        rw [← hnb] at e0
        rw [← hnm] at e1'
        rw [← hlgE] at e2
        rw [← hhh] at e3 hdh
        rw [← hct] at e4
        rw [← hdt] at d2 hdl
        have l1 := World.block_lt_of_cell? wr _ d2
        have y2 : ∀ o, (wr.alloc o).cell? ⟨jb, jo + k * 2 + 1, none⟩ = some (.string (str dt)) := fun o => (((Below.refl wr.heap.size wr).alloc (Nat.le_refl _) o).cell l1).trans d2
        have HDT := Aa hdt
        have HHS := Aa (fun W => FO dt (by omega) W)
        have hba := hbl.alloc hbl.size (.cells #[.int .i64 (nb : Int), .string (str nm), .int .i64 (lg : Int), .int .u64 (hh : Int), .slice fsa ct fsc] 143)
        have hTa := Below.next HT8.out hba
        have HBA := Aa hba
        have HBW := Aa (HA.out _ hTa).2.2.2.2
        obtain ⟨hv, hhv⟩ : ∃ x, x = AA dt := ⟨AA dt, rfl⟩
        rw [← hhv] at HHS
        have HHV := Aa hhv
        have HDH := Aa hdh
        have HDK := Aa hDk
        have HJK := Aa hJk
        clear hnm hlgE hnb hhh hct hdt hba hTa hbl hbw hT hfr hhv hdh hDk hJk d1 d2 l1
        by_cases heq : hv = hh
        · subst heq
          go_wp2_with fail
          go_quiet ((go_at_call 92; refine (HHS.out _).mono ?_; rintro e w' ⟨rfl, rfl⟩; exact ⟨rfl, _, rfl⟩))
          go_wp2_with fail
          refine ⟨⟨k + 1, by omega, by go_num, BJ HBA.out _, Aa (fun j d f hj hd hf => ?_)⟩, by simp [intOf]; omega⟩
          by_cases hjk : j < k
          · exact hok.out j d f hjk hd hf
          · obtain rfl : j = k := by omega
            rw [HDK.out] at hd
            rw [HJK.out] at hf
            cases hd
            cases hf
            rw [HDH.out, ← HDT.out, HHV.out]
        · have hno : DU (L.map EW) JJ = false := Lr HDK.out HJK.out (by rw [HDH.out, ← HDT.out, ← HHV.out]; exact heq)
          have HE6 : Hid (∀ W, Below w.heap.size w W → Gq (EJ size L hs Q es) w (.returned (.tuple #[.slice none 0 0, .int .i64 6])) W) := Aa (fun W hW => by
            rw [HRQ.out, hno]
            exact ⟨hW, rfl⟩)
          have hne : ((hv : Int) = (hh : Int)) = False := eq_false (by omega)
          clear hno
          go_wp2_with fail
          go_quiet ((go_at_call 92; refine (HHS.out _).mono ?_; rintro e w' ⟨rfl, rfl⟩; exact ⟨rfl, _, rfl⟩))
          go_wp2_with fail
          go_ret2
          exact HE6.out _ (BJ HBW.out _)
      · obtain rfl : k = n := by omega
        have hyes : DU (L.map EW) JJ = true := (FB _ _).2 (fun j d f hd hf => hok.out j d f (by
          have := (List.getElem?_eq_some_iff.1 hf).1
          omega) hd hf)
        have hfin : Gq (EJ size L hs Q es) w (.returned (.tuple #[.slice a8 k c8, .int .i64 0])) wr := by
          rw [HRQ.out, if_pos hyes]
          refine ⟨hbw, _, rfl, ?_⟩
          rw [hJl]
          have h := Ab HO8.out (Nat.le_refl _) hbl
          refine Ad ?_ h
          omega
        have HFIN := Aa hfin
        clear hfin hyes hok hfr hbw hT hbl
        go_wp2_with fail
        go_ret2
        exact HFIN.out
end Go.Proofs.YtonjphollmdicaaGreatDoor
namespace Go.Proofs.YtonjphollmdicaaGreatDoor
open Go.ChangeShapes Go.WideShapes Go.ChangeAt Go.RowKit
open Go.Maps
def My (l : List FoundL) (m : MainL) : List (Nat × List UInt8) := (AT l m).map fun j => (j, ((AM (A6 m) (l.filter (·.kind == 82)) j).map fun g => Cb g.body m.size).getD [])
theorem Nc (l : List FoundL) (m : MainL) : (My l m).length = (AT l m).length := by simp [My]
theorem IE {m : MainL} {f : FoundL} {j : Nat} (h : A6 m f = some j) : FM f.body m.size = true ∧ AX f.body = j := by
 unfold A6 at h
 split at h
 ·rename_i hc
  cases h
  exact ⟨hc.2, rfl⟩
 ·cases h
theorem RI (l : List FoundL) (m : MainL) : ∀ e ∈ My l m, e.1 < 20 ∧ e.2.length = m.size := by
 intro e he
 unfold My at he
 obtain ⟨j, hj, rfl⟩ := List.mem_map.1 he
 obtain ⟨h20, f, hf⟩ := DR hj
 refine ⟨h20, ?_⟩
 rw [hf]
 have hg : A6 m f = some j := by
  have := List.find?_some hf
  simpa using this
 obtain ⟨h1, _⟩ := IE hg
 rw [Lg] at h1
 simp only [Bool.and_eq_true, decide_eq_true_eq] at h1
 show (Cb f.body m.size).length = m.size
 rw [(Ky h1.1).2, List.length_drop, h1.1]
 omega
theorem Pv {l : List FoundL} {m : MainL} {D : DataW Value} (hK : KMap D (A6 m) (l.filter (·.kind == 82)) 20 (fun v g => v = DW m.size g)) : Cx D (AT l m) = exV (My l m) := by
 unfold Cx exV My
 rw [List.flatMap_map]
 have key : ∀ j ∈ AT l m, cellsL ((atM D (Bn j)).getD undef) = [.int .i64 (j : Int), .string (str (((AM (A6 m) (l.filter (·.kind == 82)) j).map fun g => Cb g.body m.size).getD []))] := by
  intro j hj
  obtain ⟨_, f, hf⟩ := DR hj
  obtain ⟨v, h1, h2⟩ := hK.there j f hf
  have hg : A6 m f = some j := by
   have := List.find?_some hf
   simpa using this
  obtain ⟨_, hn⟩ := IE hg
  rw [h1, h2, hf]
  unfold DW
  rw [hn]
  rfl
 have cong : ∀ (ks : List Nat), (∀ j ∈ ks, j ∈ AT l m) → (ks.flatMap fun k => cellsL ((atM D (Bn k)).getD undef)) = ks.flatMap fun (j : Nat) => [Value.int .i64 (j : Int), .string (str (((AM (A6 m) (l.filter (·.kind == 82)) j).map fun g => Cb g.body m.size).getD []))] := by
  intro ks
  induction ks with
  | nil => intro _; rfl
  | cons k r ih =>
   intro h
   rw [List.flatMap_cons, List.flatMap_cons, key k (h k (List.mem_cons_self ..)), ih (fun j hj => h j (List.mem_cons_of_mem _ hj))]
 exact cong _ (fun j hj => hj)
theorem Ld {b : Nat} {fs : List Aj} {p : List UInt8} (hb : 0 < b) (h : p ∈ AF b fs) : p.length = b := by
 unfold AF at h
 obtain ⟨f, _, h⟩ := List.mem_flatMap.1 h
 unfold Cp at h
 obtain ⟨j, hj, rfl⟩ := List.mem_map.1 h
 have := List.mem_range.1 hj
 unfold CM GQ
 rw [List.length_take, List.length_drop, List.length_append, List.length_replicate]
 omega
theorem L8 {l : List FoundL} {m : MainL} (h0 : 0 < m.size) : ∀ f ∈ Al l m, Bi f.body ≤ (Ah f.body).length * m.size ∧ (AU f.body).length ≤ 100 ∧ Bi f.body ≤ 400 := by
 intro f hf
 obtain ⟨_, i, _, hg⟩ := JA hf
 unfold AY at hg
 split at hg
 ·rename_i hc
  have := hc.2.1
  unfold Eh at this
  simp only [Bool.and_eq_true, decide_eq_true_eq] at this
  obtain ⟨⟨⟨⟨_, _⟩, h2⟩, h3⟩, h4⟩ := this
  refine ⟨?_, by omega, h3⟩
  rw [h4]
  exact Fj _ _ h0
 ·cases hg
def Fs (fs : List Aj) (vs : List (List UInt8)) : List Aj ⊕ Nat :=
 if BR fs vs = false then .inr 1 else match AV (As vs) with
  | none => .inr 3
  | some f => if Ce (As vs) (Ag f) = false then .inr 4 else EJ (Ak f.body) (Al (As vs) (Ag f)) (AH (Al (As vs) (Ag f))) (AF (Ak f.body) fs) (My (As vs) (Ag f))
theorem OP {fs : List Aj} {vs : List (List UInt8)} {w w' : World} {e : Ending} (h : BZ fs vs w e w') : Below w.heap.size w w' ∧ ((∃ n : Nat, Fs fs vs = .inr n ∧ n ≠ 0 ∧ n < 10 ∧ e = .returned (.tuple #[AQ, .int .i64 (n : Int)])) ∨
  (∃ f, BR fs vs = true ∧ AV (As vs) = some f ∧ Ce (As vs) (Ag f) = true ∧ Fs fs vs = EJ (Ak f.body) (Al (As vs) (Ag f)) (AH (Al (As vs) (Ag f))) (AF (Ak f.body) fs) (My (As vs) (Ag f)) ∧
   ∃ (fa : Option Addr) (fc N base c ec : Nat) (ea : Option Addr) (D : DataW Value), e = .returned (.tuple #[.agg #[.int .i64 (Ak f.body : Int), .slice fa (Al (As vs) (Ag f)).length fc, .int .i64 ((AH (Al (As vs) (Ag f))).length : Int), .map (some N), .slice ea (My (As vs) (Ag f)).length ec], .int .i64 0]) ∧
    FRow w' base fa (Al (As vs) (Ag f)) ∧ FoundM w' N c D (AH (Al (As vs) (Ag f))) (AF (Ak f.body) fs) ∧ (My (As vs) (Ag f)).length ≤ ec ∧ Rd w' ea (exV (My (As vs) (Ag f))))) := by
 obtain ⟨hb, h⟩ := h
 refine ⟨hb, ?_⟩
 unfold Fs
 cases hh : BR fs vs with
 | false =>
  rw [if_pos hh] at h
  exact .inl ⟨1, by rw [if_pos rfl], by decide, by decide, h⟩
 | true =>
  rw [if_neg (by rw [hh]; simp)] at h
  rw [if_neg (by simp)]
  cases hc : AV (As vs) with
  | none =>
   rw [hc] at h
   exact .inl ⟨3, rfl, by decide, by decide, h⟩
  | some f =>
   rw [hc] at h
   simp only at h ⊢
   cases hl : Ce (As vs) (Ag f) with
   | false =>
    rw [if_pos hl] at h
    exact .inl ⟨4, by rw [if_pos rfl], by decide, by decide, h⟩
   | true =>
    rw [if_neg (by rw [hl]; simp)] at h
    obtain ⟨fa, fc, N, base, ev, _, _, rfl, hFR, ⟨M, b9, hFS⟩, ⟨DE, b0, hev, hKE⟩⟩ := h
    obtain ⟨_, c, D, _, hfm, q1, q2⟩ := hFS
    rw [Pv hKE, ← Nc] at hev
    obtain ⟨ea, ec, rfl, hec, hre⟩ := Nd hev
    exact .inr ⟨f, trivial, rfl, hl, by rw [if_neg (by simp)], fa, fc, N, base, c, ec, ea, D, rfl, hFR, ⟨hfm, q1, q2⟩, by omega, hre⟩
theorem MC (fs : List Aj) (vs : List (List UInt8)) (a b : Option Addr) (ca cb : Nat) (w : World) (hK : Kinds w) (hfa : Rd w a (Ar fs)) (hvb : Rd w b (AL vs)) :
  Calls Tryz.prog 20 #[.slice a fs.length ca, .slice b vs.length cb] w fun e w' => Gq (Fs fs vs) w e w' := by
 have hG := Aa (Im fs vs a b ca cb w hK hfa hvb)
 clear hfa hvb hK
 go_enter Tryz.func20, Tryz.ntmps20
 go_wp2_with fail
 refine hG.out.mono ?_
 rintro e w1 hg
 obtain ⟨hb1, hor⟩ := OP hg
 have HBW := Aa hb1
 have hs1 := hb1.size
 clear hg hb1 hG
 rcases hor with ⟨n, hlp, hn0, hn10, rfl⟩ | ⟨f, hha, hch, hil, hlp, fa, fc, N, base, c, ec, ea, D, rfl, hFR, hFM, hec, hre⟩
 ·have HE : Hid (∀ w', Below w.heap.size w w' → Gq (Fs fs vs) w (.returned (.tuple #[.slice none 0 0, .int .i64 (n : Int)])) w') := Aa (fun w' h => by rw [hlp]; exact ⟨h, rfl⟩)
  clear hlp
  have e1 : ((n : Int) != 0) = true := by simp; omega
  have e2 : ((n : Int) == 0) = false := by simp; omega
  unfold AQ
  have hfin := HBW.out.alloc hs1 (.cells #[.int .i64 0, .slice none 0 0, .int .i64 0, .map none, .slice none 0 0] 92)
  have HF := Aa hfin
  clear hfin
  go_wp2_with fail
  go_ret2
  exact HE.out _ HF.out
 ·obtain ⟨_, _, hn1, hn6, hz2, hz32⟩ := CA hch
  have hev : Ak f.body % 2 = 0 := by
   have h1 := (CA hch).2.1
   obtain ⟨_, _, _, _, _, h6⟩ := Ec h1
   unfold Ax at h6
   simp only [decide_eq_true_eq] at h6
   omega
  have hLn : (Al (As vs) (Ag f)).length ≤ 6 ∧ 1 ≤ (AH (Al (As vs) (Ag f))).length ∧ (AH (Al (As vs) (Ag f))).length ≤ 60 := by
   unfold Ce at hil
   simp only [Bool.and_eq_true, decide_eq_true_eq] at hil
   refine ⟨?_, hil.1.2, hil.2⟩
   rw [hil.1.1.1]
   exact hn6
  have hmo : (Ag f).size = Ak f.body := rfl
  have hex := RI (As vs) (Ag f)
  have hll := L8 (l := As vs) (m := Ag f) (by rw [hmo]; omega)
  rw [hmo] at hex hll
  have hpc : ∀ i p, BM (AF (Ak f.body) fs) (AH (Al (As vs) (Ag f))) i = some p → p.length = Ak f.body := by
   intro i p hp
   unfold BM BV at hp
   exact Ld (by omega) (List.mem_of_find?_eq_some hp)
  have hRep := fun W (hW : Below w1.heap.size w1 W) => Ms (Ak f.body) fa fc (Al (As vs) (Ag f)) (AH (Al (As vs) (Ag f))) N c D (AF (Ak f.body) fs) ea (My (As vs) (Ag f)) ec base hz2 hz32 hev hLn.1 hLn.2.1 hLn.2.2 hec rfl hex hpc hll W (hFR.later hW) ⟨Aq hFM.own (Touch.of_below hW []) (by simp), hFM.at', hFM.keys⟩ (hre.later (Nat.le_refl _) hW)
  rw [← hlp] at hRep
  obtain ⟨sz, hsz⟩ : ∃ x, x = Ak f.body := ⟨Ak f.body, rfl⟩
  obtain ⟨nl, hnl⟩ : ∃ x, x = (Al (As vs) (Ag f)).length := ⟨_, rfl⟩
  obtain ⟨nh, hnh⟩ : ∃ x, x = (AH (Al (As vs) (Ag f))).length := ⟨_, rfl⟩
  obtain ⟨ne, hne⟩ : ∃ x, x = (My (As vs) (Ag f)).length := ⟨_, rfl⟩
  rw [← hsz, ← hnl, ← hnh, ← hne] at hRep ⊢
  have HR := Aa hRep
  obtain ⟨R, hR⟩ : ∃ x, x = Fs fs vs := ⟨_, rfl⟩
  rw [← hR] at HR
  have HRE := Aa hR
  clear hRep hsz hnl hnh hne hR hpc hex hll hmo hLn hev hlp hch hha hil hFR hFM hre hec hn1 hn6 hz2 hz32
  go_wp2_with fail
  refine (HR.out _ ((Below.refl _ _).alloc (Nat.le_refl _) _)).mono ?_
  rintro e w2 ⟨hb2, h2⟩
  have hbf : Below w.heap.size w w2 := (HBW.out.alloc hs1 _).trans (hb2.mono (by simp; omega))
  have HBF := Aa hbf
  cases R with
  | inr n =>
   obtain rfl := h2
   clear hb2 hbf
   go_wp2_with fail
   go_ret2
   rw [← HRE.out]
   exact ⟨HBF.out, rfl⟩
  | inl fl =>
   obtain ⟨v, rfl, hov⟩ := h2
   obtain ⟨va, vc, rfl, _⟩ := AC hov
   have hbase := Ad (base' := w.heap.size) (by simp; omega) hov
   have HO := Aa hbase
   clear hb2 hbf hov hbase
   go_wp2_with fail
   go_ret2
   rw [← HRE.out]
   exact ⟨HBF.out, _, rfl, HO.out⟩
end Go.Proofs.YtonjphollmdicaaGreatDoor
namespace Go.Proofs.YtonjphollmdicaaGreatDoor
theorem Ju {l : List FoundL} {f : FoundL} (hb : 0 < Ap f) (hsz : (Ag f).size = Ap f) : My l (Ag f) = Bd (Fw l f) := by
 unfold My Bd AT Ba
 have hg : ∀ j, j < 20 → (Fw l f).getD j [] = LE l f j := fun j hj => by
  unfold Fw
  simp [hj]
 have he : ∀ j, j < 20 → (AM (A6 (Ag f)) (l.filter (·.kind == 82)) j).map (fun g => Cb g.body (Ag f).size) = exL l f.set (Ap f) j := fun j hj => by
  have h := Gh (Ag f) j hj l
  have hset : (Ag f).set = f.set := rfl
  rw [hset] at h
  rw [hsz] at h ⊢
  exact h
 have e1 : (List.range 20).filter (fun i => (AM (A6 (Ag f)) (l.filter (·.kind == 82)) i).isSome) = (List.range 20).filter fun j => decide ((Fw l f).getD j [] ≠ []) := by
  refine List.filter_congr (fun j hj => ?_)
  have hj := List.mem_range.1 hj
  have h := he j hj
  rw [hg j hj]
  unfold LE
  rw [← h]
  cases hf : AM (A6 (Ag f)) (l.filter (·.kind == 82)) j with
  | none => simp
  | some g =>
   rw [hf] at h
   have hl : (Cb g.body (Ag f).size).length = Ap f := Kx h.symm
   simp only [Option.isSome_some, Option.map_some, Option.getD_some, ne_eq]
   symm
   rw [decide_eq_true_iff]
   intro e0
   rw [e0] at hl
   simp at hl
   omega
 rw [e1]
 refine List.map_congr_left (fun j hj => ?_)
 have hj := List.mem_range.1 (List.mem_filter.1 hj).1
 rw [hg j hj]
 unfold LE
 rw [← he j hj]
theorem OO (fs : List Aj) (vs : List (List UInt8)) : Fs fs vs = C9 fs vs := by
 unfold Fs C9 AG
 have hh : BR fs vs = DV fs vs := rfl
 rw [hh]
 cases DV fs vs with
 | false => rfl
 | true =>
  simp only [Bool.true_eq_false, if_false, if_true]
  unfold EF
  cases hc : AV (As vs) with
  | none => rfl
  | some f =>
   simp only
   obtain ⟨h1, h2, h3⟩ := Lz hc
   have hpos : 2 ≤ Ap f := by rw [← h2]; exact (CA hc).2.2.2.2.1
   unfold Ce G8
   rw [h1]
   cases ha : CN (As vs) f (Br f) with
   | false => simp
   | true =>
    have h3 := h3 ha
    have hnm : (C8 (Bt (As vs) f (Br f))).map (·.1) = (Al (As vs) (Ag f)).map fun g => AU g.body := by
     rw [h3]
     simp [C8, Function.comp_def]
    have htw := Ir _ _ hnm
    rw [List.length_map] at htw
    rw [htw]
    have hhs : AE (Bt (As vs) f (Br f)) = AH (Al (As vs) (Ag f)) := by
     rw [h3]
     unfold AE AH
     rw [List.flatMap_map]
    have hsum : De (Bt (As vs) f (Br f)) = (AH (Al (As vs) (Ag f))).length := by rw [← hhs]; rfl
    rw [hsum]
    cases hb : (true && !twiceL (C8 (Bt (As vs) f (Br f))) && decide (1 ≤ (AH (Al (As vs) (Ag f))).length) && decide ((AH (Al (As vs) (Ag f))).length ≤ 60)) with
    | false => simp
    | true =>
     simp only [Bool.true_eq_false, if_false, if_true]
     have hms : Ak f.body = Ap f := h2
     have hds : (Al (As vs) (Ag f)).map EW = Bt (As vs) f (Br f) := by
      rw [h3]
      exact List.map_congr_left (fun g _ => by unfold EW; with_reducible rfl)
     unfold EJ Cs M0
     simp only
     rw [hds, hms, hhs, Ju (by omega) h2]
     have hpi : BM (AF (Ap f) fs) (AH (Al (As vs) (Ag f))) = Em fs ⟨Ap f, Bt (As vs) f (Br f), Fw (As vs) f⟩ := by
      funext i
      unfold BM Em
      simp only
      rw [hhs, Db]
     rw [hpi, Jk]
     have hxl : (Bd (Fw (As vs) f)).length = exN (Fw (As vs) f) := by
      rw [← Ju (by omega) h2, Nc, Ii (by omega) h2]
     rw [hxl]
end Go.Proofs.YtonjphollmdicaaGreatDoor
namespace Go.Proofs.YtonjphollmdicaaGreatDoor
def CY (es : List (List UInt8)) (n : Nat) : List (Nat × List UInt8) := ((List.range n).filter fun j => decide (es.getD j [] ≠ [])).map fun j => (j, es.getD j [])
theorem Lo (es : List (List UInt8)) : CY es 20 = Bd es := rfl
theorem GD (es : List (List UInt8)) : CY es 0 = [] := rfl
theorem Pe {es : List (List UInt8)} {j : Nat} (h : es.getD j [] ≠ []) : CY es (j + 1) = CY es j ++ [(j, es.getD j [])] := by
 unfold CY
 rw [List.range_succ, List.filter_append, List.map_append, List.filter_cons, if_pos (decide_eq_true h)]
 rfl
theorem Ru {es : List (List UInt8)} {j : Nat} (h : es.getD j [] = []) : CY es (j + 1) = CY es j := by
 unfold CY
 rw [List.range_succ, List.filter_append, List.map_append, List.filter_cons, if_neg (by rw [decide_eq_true_eq]; exact fun c => c h)]
 simp
theorem PS (es : List (List UInt8)) {n m : Nat} (h : n ≤ m) : CY es n = (CY es m).take (CY es n).length := by
 obtain ⟨d, rfl⟩ : ∃ d, m = n + d := ⟨m - n, by omega⟩
 have e : ∃ r, CY es (n + d) = CY es n ++ r := by
  unfold CY
  rw [List.range_add, List.filter_append, List.map_append]
  exact ⟨_, rfl⟩
 obtain ⟨r, e⟩ := e
 rw [e, List.take_left]
theorem Qs {K : Nat} {P : Nat → Option (List UInt8)} {es : List (List UInt8)} {n : Nat} (hn : n ≤ 20) (hl : (AR K P).length + (CY es n).length ≤ K) (h : n = 20 ∨ (AR K P).length + (CY es n).length = K) : CY es n = GE K P (Bd es) := by
 unfold GE
 rcases h with rfl | h
 ·rw [Lo] at hl ⊢
  rw [List.take_of_length_le (by omega)]
 ·rw [← Lo, show K - (AR K P).length = (CY es n).length from by omega]
  exact PS es hn
def Ct (P : Nat → Option (List UInt8)) (n : Nat) : List Nat := (List.range n).filter fun i => (P i).isSome
theorem OY (K : Nat) (P : Nat → Option (List UInt8)) : Ct P K = AR K P := rfl
theorem PN {P : Nat → Option (List UInt8)} {n : Nat} (h : (P n).isSome = true) : Ct P (n + 1) = Ct P n ++ [n] := by
 unfold Ct
 rw [List.range_succ, List.filter_append, List.filter_cons, if_pos h]
 rfl
theorem QN {P : Nat → Option (List UInt8)} {n : Nat} (h : (P n).isSome = false) : Ct P (n + 1) = Ct P n := by
 unfold Ct
 rw [List.range_succ, List.filter_append, List.filter_cons, if_neg (by rw [h]; decide)]
 simp
theorem OE (P : Nat → Option (List UInt8)) (n : Nat) : (Ct P n).length ≤ n := Nat.le_trans (List.length_filter_le _ _) (by simp)
theorem Oe (size K : Nat) (P : Nat → Option (List UInt8)) (es : List (Nat × List UInt8)) (h : ∀ i, i < K → (P i).isSome = true) : Ha size K P es = (List.range K).map fun i => (P i).getD [] := by
 unfold Ha
 refine List.map_congr_left (fun i hi => ?_)
 obtain ⟨p, hp⟩ := Option.isSome_iff_exists.1 (h i (List.mem_range.1 hi))
 unfold Hi
 rw [hp]
 rfl
end Go.Proofs.YtonjphollmdicaaGreatDoor
