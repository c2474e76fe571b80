/- Walks: kept, possible patterns. -/
import Derived.Test.YtpikecbmooendaaZk
import Derived.Test.YtpikecbmooendaaYd
namespace Go.Proofs.Ytpikecbmooendaa
open Go.RowKit

set_option maxRecDepth 100000 in
set_option maxHeartbeats 2000000 in
theorem i_keptPos {ps : List (List Int)} {v : Value} {B : Nat} {w0 w : World} (rec : Value) (q : List Int → Bool) (ho : OwnP w0 B v ps) (hb0 : Below w0.heap.size w0 w) (hl : ps.length ≤ 1048576)
    (hcl : ∀ l ∈ ps, ∀ w', Below w.heap.size w w' → Calls Try.prog 119 #[rec, .agg #[.int .i64 (at5 l 0), .int .i64 (at5 l 1), .int .i64 (at5 l 2), .int .i64 (at5 l 3), .int .i64 (at5 l 4)]] w' (NewV w' (.bool (q l)))) :
    Calls Try.prog 136 #[v, .func (.func 119) #[rec] #[]] w (NewP w (ps.filter q)) := by
  obtain ⟨a, c, rfl, hat⟩ := ho.at
  have HAT := Lib.hid hat
  have HCL := Lib.hid hcl
  obtain ⟨M, hM⟩ : ∃ M, ps.length = M := ⟨_, rfl⟩
  have HNN := Lib.hid hM
  have hMl : M ≤ 1048576 := by omega
  have hs0 := hb0.size
  rw [hM]
  clear hat ho hM hl hcl
  go_enter Try.func136, Try.ntmps136
  go_wp2
  go_loopw [5, 10] (fun v i wr => ∃ k : Nat, k ≤ M ∧ i = .int .i64 k ∧ OwnP wr w.heap.size v ((ps.take k).filter q) ∧ Below w.heap.size w wr) (fun _ i _ => M - (intOf i).toNat)
  case atStart => exact ⟨0, Nat.zero_le _, rfl, OwnP.nil _ _, Below.refl _ _⟩
  case round =>
    obtain ⟨k, hk, rfl, hown, hB3⟩ := hrel
    have hz3 := hB3.size
    by_cases hlt : k < M
    · obtain ⟨l, hx⟩ := at_of_lt (show k < ps.length by have := HNN.out; omega)
      obtain ⟨g, hg1, hg2, hidx, hcs⟩ := HAT.out k l hx
      have HX := Lib.hid hx
      rw [HNN.out] at hidx
      have hBl3 : Below w0.heap.size w0 wr := hb0.trans (hB3.mono (by omega))
      have hc (j : Nat) (hj : j < 5) : wr.cell? ⟨g, k * 5 + j, none⟩ = some (.int .i64 (at5 l j)) := (hBl3.cell (p := ⟨g, k * 5 + j, none⟩) hg2).trans (hcs j hj)
      have hc0 := hc 0 (by omega)
      have hc1 := hc 1 (by omega)
      have hc2 := hc 2 (by omega)
      have hc3' := hc 3 (by omega)
      have hc4 := hc 4 (by omega)
      simp only [Nat.add_zero] at hc0
      clear hc hcs
      have hbA := (Below.refl wr.heap.size wr).alloc (Nat.le_refl _) (.cells #[.int .i64 (at5 l 0), .int .i64 (at5 l 1), .int .i64 (at5 l 2), .int .i64 (at5 l 3), .int .i64 (at5 l 4)] 62)
      have hml := flt_len q ps k
      have hln := HNN.out
      have hownA : OwnP (wr.alloc (.cells #[.int .i64 (at5 l 0), .int .i64 (at5 l 1), .int .i64 (at5 l 2), .int .i64 (at5 l 3), .int .i64 (at5 l 4)] 62)) w.heap.size _ ((ps.take k).filter q) := hown.kept fun j hj _ => hbA.block j hj
      have hlt' := hown.lt
      have hcall := Lib.hid (HCL.out l (List.mem_of_getElem? hx) (wr.alloc (.cells #[.int .i64 (at5 l 0), .int .i64 (at5 l 1), .int .i64 (at5 l 2), .int .i64 (at5 l 3), .int .i64 (at5 l 4)] 62)) (hB3.trans (hbA.mono (by omega))))
      clear hx
      cases hm : q l
      · have HM := Lib.hid hm
        have HU := Lib.hid (flt_skip (f := q) HX.out hm)
        clear hm
        go_wp2_with fail
        refine hcall.out.mono ?_
        rintro e w2 ⟨rfl, hb2⟩
        rw [HM.out]
        have hown2 : OwnP w2 w.heap.size _ ((ps.take k).filter q) := hownA.kept fun j hj _ => hb2.block j hj
        have hb02 := hbA.trans (hb2.mono (by simp))
        rw [← HU.out] at hown2
        have hB5 : Below w.heap.size w w2 := hB3.trans (hb02.mono (by omega))
        clear hownA hown hc0 hc1 hc2 hc3' hc4 hbA hb2 hlt' hb02 hB3
        go_wp2
        go_roundw
        case rel => exact ⟨k + 1, by omega, by go_num, hown2, hB5⟩
        case measure => simp [intOf]; omega
      · have HM := Lib.hid hm
        have HU := Lib.hid (flt_step (f := q) HX.out hm)
        clear hm
        go_wp2_with fail
        refine hcall.out.mono ?_
        rintro e w2 ⟨rfl, hb2⟩
        rw [HM.out]
        have hown2 : OwnP w2 w.heap.size _ ((ps.take k).filter q) := hownA.kept fun j hj _ => hb2.block j hj
        have hb02 := hbA.trans (hb2.mono (by simp))
        have hs2 := hb02.size
        obtain ⟨e0, e1, e2, e3, e4⟩ := cells5 ((hb2.block wr.heap.size (by simp)).trans (heap_alloc_new wr (.cells #[.int .i64 (at5 l 0), .int .i64 (at5 l 1), .int .i64 (at5 l 2), .int .i64 (at5 l 3), .int .i64 (at5 l 4)] 62)))
        clear hownA hown hc0 hc1 hc2 hc3' hc4 hbA hb2
        go_wp2_with (first
          | (at_builtin; refine wpList_appP rfl _ _ rfl w.heap.size _ ((ps.take k).filter q) rfl hown2 l _ rfl rfl (by omega) (by omega) ?_; intro v5 w5 hown5 hg5)
          | go_in)
        rw [← HU.out] at hown5
        have hB5 : Below w.heap.size w w5 := (hB3.trans (hb02.mono (by omega))).trans (hg5.below (fun g hg => (hlt' g hg).1) (by omega))
        clear hg5 hlt' hown2 hb02 hB3
        go_roundw
        case rel => exact ⟨k + 1, by omega, by go_num, hown5, hB5⟩
        case measure => simp [intOf]; omega
    · have HKE : Hid (ps.take k = ps) := List.take_of_length_le (by have := HNN.out; omega)
      go_wp2
      go_ret
      rw [HKE.out] at hown
      exact ⟨_, rfl, hown, hB3⟩


set_option maxRecDepth 100000 in
set_option maxHeartbeats 2000000 in
theorem s_possiblePatterns {m : List Int} {s : List (List Int)} {a a' : Option Addr} {c c' lo hi lo' hi' : Nat} {w : World} {t : Int} (hok : okM m = true) (hm : RI w lo hi a m) (hB : hi ≤ w.heap.size) (hs : RII w lo' hi' a' s) (hB' : hi' ≤ w.heap.size) (hsl : s.length ≤ 1048576) (hr : ∀ r ∈ s, r.length = m.length) (ht0 : 0 ≤ t) (ht1 : t ≤ m.length) :
    Calls Try.prog 122 #[.slice a m.length c, .slice a' s.length c', .int .i64 t] w (GotII w (posP m s t)) := by
  have hm5 := okM_len hok
  have HOK := Lib.hid hok; clear hok
  have HR := Lib.hid hr; clear hr
  have HRow := Lib.hid (patS_row (m := m) (t := t))
  have HLN := Lib.hid (patS_len (head := []) HOK.out t)
  have hbA := (Below.refl w.heap.size w).alloc (Nat.le_refl _) (.cells #[] 22)
  have hmA := hm.below hbA hB
  have hsA := hs.below hbA hB'
  have HAL := Lib.hid (alL_len2 (b := s) HOK.out)
  have HAR := Lib.hid (alL_row (m := m) (b := s))
  obtain ⟨AL, hAL⟩ : ∃ AL, alL m s = AL := ⟨_, rfl⟩
  have HAA := Lib.hid hAL
  go_enter Try.func122, Try.ntmps122
  go_wp2_with fail
  refine (s_allowedTests HOK.out hmA (by simp; omega) hsA (by simp; omega) hsl HR.out).mono ?_
  rintro e w0 ⟨a0, c0, rfl, h0, hb0⟩
  have hb00 : Below (w.heap.size + 1) (w.alloc (.cells #[] 22)) w0 := hb0.mono (by simp)
  have hs0 := hb0.size
  simp only [World.size_alloc] at hs0
  have hbW0 : Below w.heap.size w w0 := hbA.trans (hb00.mono (by omega))
  have hal := h0.rii
  rw [hAL] at hal HAL HAR ⊢
  have hall0 := HAL.out
  have hbB := (Below.refl w0.heap.size w0).alloc (Nat.le_refl _) (.cells #[] 3)
  have hm3 := (hm.below hbW0 hB).below hbB (by omega)
  clear h0 hb0 hAL hmA hsA
  go_wp2_with fail
  refine (s_patterns HOK.out m.length [] a ⟨w0.heap.size, 0, none⟩ c 0 lo hi 0 0 _ t (by simp) hm3 (by simp; omega) (RI.nil _ _ _ _) (by simp) (by omega) (by omega)).mono ?_
  rintro e w1 ⟨ad1, c1, rfl, h1, hb1⟩
  obtain ⟨ps, hps⟩ : ∃ ps, patS m [] t = ps := ⟨_, rfl⟩
  have HPS := Lib.hid hps
  rw [hps] at h1 HRow HLN ⊢
  clear hps
  have hb1a : Below w0.heap.size w0 w1 := hbB.trans (hb1.mono (by simp))
  have hb01 : Below w.heap.size w w1 := hbW0.trans (hb1a.mono (by omega))
  have hs1 := hb1.size
  simp only [World.size_alloc] at hs1
  have hall : RII w1 (w.heap.size + 1) w1.heap.size (some ad1) ps := by have := h1.rii; simp only [World.size_alloc] at this; exact this.wide (by omega) (Nat.le_refl _)
  have hst : OwnRR w1 w.heap.size (w.heap.size + 1) w1.heap.size (.slice (some ⟨w.heap.size, 0, none⟩) 0 0) [] := OwnRR.start (Nat.le_refl _) (by omega) (hb00.trans (hb1a.mono (by omega)))
  have hs2 : RII w1 (w.heap.size + 1) w1.heap.size a0 AL := (hal.below hb1a (Nat.le_refl _)).wide (by simp) (by have := hb1a.size; omega)
  have hpl := HLN.out
  clear h1 hb1 hbA hbB hm3 hm hs hal
  go_wp2
  go_loopw [7, 10] (fun v i wr => ∃ k : Nat, k ≤ ps.length ∧ i = .int .i64 k ∧ OwnRR wr w.heap.size (w.heap.size + 1) w1.heap.size v ((ps.take k).filter (hasP AL)) ∧ Kp w.heap.size (w.heap.size + 1) w1.heap.size w1 wr) (fun _ i _ => ps.length - (intOf i).toNat)
  case atStart => exact ⟨0, Nat.zero_le _, rfl, by simpa using hst, Kp.refl _ _ _ _⟩
  case round =>
    clear hst
    obtain ⟨k, hk, rfl, hown, hK⟩ := hrel
    have hsz := hK.size
    by_cases hlt : k < ps.length
    · obtain ⟨b, o, a2, c2, r, ha, _, hbh, hcell, hr1, hx, hcp⟩ := (hall.kp hK (Nat.le_refl _)).atc hlt
      have hidx := idxII ha hlt c1
      have HRL := Lib.hid (HRow.out r (List.mem_of_getElem? hx.out))
      have hs3 := hs2.kp hK (Nat.le_refl _)
      have hml := flt_len (hasP AL) ps k
      have H5 : Hid (∀ q ∈ AL, r.length ≤ q.length ∧ q.length ≤ 9223372036854775807) := by
        intro q hq
        have := HAR.out q hq
        have := HRL.out
        omega
      clear ha hall hs2
      cases hc : hasP AL r
      · have HC := Lib.hid hc; clear hc
        have HM := Lib.hid (flt_skip (f := hasP AL) hx.out HC.out)
        go_wp2_with fail
        refine (s_covers hs3 hr1 (by omega) H5.out).mono ?_
        rintro e w2 ⟨rfl, hd⟩
        rw [HC.out]
        have hown2 := hown.below (Dr.below hd _) (by omega)
        rw [← HM.out] at hown2
        have hK2 := hK.trans (Kp.ofBelow (Dr.below hd _))
        clear hK hown
        go_wp2
        go_roundw
        case rel => exact ⟨k + 1, by omega, by go_num, hown2, hK2⟩
        case measure => simp [intOf]; omega
      · have HC := Lib.hid hc; clear hc
        have HM := Lib.hid (flt_step (f := hasP AL) hx.out HC.out)
        go_wp2_with (first
          | (go_at_call 117; refine (s_covers hs3 hr1 (by omega) H5.out).mono ?_; rintro e w2 ⟨rfl, hd⟩; rw [HC.out]; have hown2 := hown.below (Dr.below hd _) (by omega); have hz2 := Dr.le hd; have hr2 := hr1.dr hd; have hcell2 : w2.cell? ⟨b, o + k, none⟩ = _ := ((Dr.below hd wr.heap.size).cell (p := ⟨b, o + k, none⟩) (by show b < _; omega)).trans hcell; have hB02 := Dr.below hd wr.heap.size; clear hd)
          | (at_builtin; refine wpList_appR1 rfl (.tmp 31) (.tmp 36) rfl w.heap.size (w.heap.size + 1) w1.heap.size _ ((ps.take k).filter (hasP AL)) rfl hown2 (by omega) (by omega) r a2 r.length c2 rfl hr2 hcp w2.heap.size rfl rfl (by omega) ?_; intro v3 w3 hown3 hk3 _)
          | go_in)
        rw [← HM.out] at hown3
        have hK3 := hK.trans ((Kp.ofBelow hB02).trans hk3)
        clear hK hk3 hown hown2
        go_roundw
        case rel => exact ⟨k + 1, by omega, by go_num, hown3, hK3⟩
        case measure => simp [intOf]; omega
    · have HKE : Hid (ps.take k = ps) := List.take_of_length_le (by omega)
      have HMI : Hid (posP m s t = ps.filter (hasP AL)) := by show _ = _; unfold posP; rw [HPS.out, HAA.out]
      go_wp2
      rw [HKE.out] at hown
      obtain ⟨a4, c4, rfl, ho4⟩ := hown.slice (by omega) (by omega)
      go_ret
      rw [HMI.out]
      exact ⟨_, _, rfl, ho4, hb01.trans ((hK.below (by omega)))⟩

/- Walks: what is possible, by the program. -/
open Go.RowKit

set_option maxRecDepth 100000 in
set_option maxHeartbeats 2000000 in
theorem i_possible {m : List Int} {b : List (List Int)} {v : Value} {a : Option Addr} {c lo hi B : Nat} {w0 w : World} {t : Int} (hm : RI w lo hi a m) (hhi : hi ≤ w.heap.size) (ho : OwnBn w0 B v b) (hb0 : Below w0.heap.size w0 w) (hok : okM m = true) (hob : okBn m b = true) (ht0 : 0 ≤ t) (ht1 : t ≤ m.length) :
    Calls Try.prog 124 #[.agg #[.slice a m.length c, v], .int .i64 t] w (NewP w (posP m b t)) := by
  have hs0 := hb0.size
  have hm5 := okM_len hok
  have HOK := Lib.hid hok; have HOB := Lib.hid hob
  have hA := Lib.hid (heap_alloc_new w (.cells #[.slice a m.length c, v] 98))
  have hbA := (Below.refl w.heap.size w).alloc (Nat.le_refl _) (.cells #[.slice a m.length c, v] 98)
  obtain ⟨W, hWe⟩ : ∃ W, w.alloc (.cells #[.slice a m.length c, v] 98) = W := ⟨_, rfl⟩
  have hWs : W.heap.size = w.heap.size + 1 := by rw [← hWe]; simp
  rw [hWe] at hA hbA
  have hmW := hm.below hbA hhi
  have HS : Hid (∀ w', Below W.heap.size W w' → w'.cell? ⟨w.heap.size, 0, none⟩ = some (.slice a m.length c) ∧ w'.cell? ⟨w.heap.size, 1, none⟩ = some v) := fun w' hb => by
    have h := (hb.block w.heap.size (by omega)).trans hA.out
    rw [cell_of_row _ _ 0 _ _ _ h, cell_of_row _ _ 1 _ _ _ h]; exact ⟨rfl, rfl⟩
  have hmD : RI W.drew lo hi a m := hmW.below ((Below.refl W.heap.size W).drew) (by omega)
  have hPat := Lib.hid (patS_len (head := []) HOK.out t)
  have hq1 : Below W.heap.size W W := Below.refl _ _
  obtain ⟨ps, hps⟩ : ∃ ps, patS m [] t = ps := ⟨_, rfl⟩
  have HP := Lib.hid hps
  have HC1 : Hid (Calls Try.prog 79 #[.slice a m.length c, .int .i64 t] W.drew (NewP W.drew ps)) := by
    rw [← hps]; exact i_patternsOf HOK.out hmD (by simp; omega) ht0 ht1
  have HC2 : Hid (∀ w2 v2, Below W.heap.size W w2 → OwnP w2 W.heap.size v2 ps → Calls Try.prog 136 #[v2, .func (.func 119) #[.agg #[.slice a m.length c, v]] #[]] w2 (NewP w2 (posP m b t))) := fun w2 v2 hb hop => by
    have hq : posP m b t = ps.filter (hasP (alL m b)) := by unfold posP; rw [hps]
    rw [hq]
    refine i_keptPos (B := W.heap.size) _ _ hop (Below.refl _ _) (by rw [← hps]; exact Nat.le_trans hPat.out (by omega)) fun l hl w' hb' => ?_
    have hz := hb.size
    have hbb : Below W.heap.size W w' := hb.trans (hb'.mono hz)
    rw [← hps] at hl
    exact i_isPossible (hmW.below hbb (by omega)) (by have := hbb.size; omega) ho (hb0.trans ((hbA.trans (hbb.mono (by omega))).mono hs0)) HOK.out HOB.out ((mem_patS HOK.out).1 hl).1
  clear hok hob hm hmW hmD hps
  go_enter Try.func124, Try.ntmps124
  go_wp2_with fail
  try rw [hWe]
  clear hWe
  go_region_held3 (fun w' => w'.cell? ⟨w.heap.size, 0, none⟩ = some (.slice a m.length c) ∧ w'.cell? ⟨w.heap.size, 1, none⟩ = some v)
    (first | exact HS.out _ (by first | exact hq3 | exact hq2 | exact hq1.drew | exact hq1) | go_keep) ((first
    | (go_at_call 79; refine HC1.out.mono ?_; rintro e w2 ⟨v2, rfl, ho2, hb2⟩; have hq2 : Below W.heap.size W w2 := hq1.drew.trans hb2; have hz2 := hq2.size)
    | (go_at_call 136; refine (HC2.out w2 v2 hq2 ho2).mono ?_; rintro e w3 ⟨v3, rfl, ho3, hb3⟩; have hq3 : Below W.heap.size W w3 := hq2.trans (hb3.mono hz2))))
  all_goals
    have hbF := hbA.trans (hq3.mono (by omega))
    go_wp2
    go_ret
    exact ⟨_, rfl, ho3.mono (by omega), hbF⟩


theorem mis_more {s ps : List (List Int)} {k : Nat} {x : List Int} (hx : s[k]? = some x) : rstP (misP (s.take k) ps) x = misP (s.take (k + 1)) ps := by
  unfold rstP misP
  rw [List.filter_filter]
  apply List.filter_congr
  intro p _
  unfold hasP
  rw [take_snoc hx, List.any_append]
  simp [Bool.and_comm]
theorem mis_zero (ps : List (List Int)) : misP [] ps = ps := by
  unfold misP hasP; rw [List.filter_eq_self]; simp
theorem mis_all (s ps : List (List Int)) : decide ((((misP s ps).length : Nat) : Int) = 0) = ps.all (hasP s) := by
  rw [Bool.eq_iff_iff, decide_eq_true_eq, List.all_eq_true]
  constructor
  · intro h p hp
    have h0 : misP s ps = [] := List.eq_nil_of_length_eq_zero (by omega)
    unfold misP at h0
    rw [List.filter_eq_nil_iff] at h0
    simpa using h0 p hp
  · intro h
    have h0 : misP s ps = [] := by
      unfold misP; rw [List.filter_eq_nil_iff]
      intro p hp; simp [h p hp]
    rw [h0]; rfl

end Go.Proofs.Ytpikecbmooendaa
