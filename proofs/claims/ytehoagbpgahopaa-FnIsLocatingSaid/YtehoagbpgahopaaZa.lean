/- Walks: bans of a model. -/
import Derived.Test.YtehoagbpgahopaaWc
import Derived.Test.YtehoagbpgahopaaZn
import Derived.Test.YtehoagbpgahopaaWy
import Derived.Test.YtehoagbpgahopaaWs
namespace Go.Proofs.Ytehoagbpgahopaa
open Go.RowKit

set_option maxHeartbeats 400000 in
theorem s_validBans {m : List Int} {t : List (List Int)} {a a' : Option Addr} {c c' lo hi lo' hi' : Nat} {w : World} (hm : RI w lo hi a m) (ht : RII w lo' hi' a' t) (hok : okM m = true) (hl : t.length ≤ 9223372036854775807) (hg : ∀ r ∈ t, r.length ≤ 9223372036854775807) :
    Calls Try.prog 127 #[.slice a m.length c, .slice a' t.length c'] w (RO w (.bool (okBn m t))) := by
  have HOK := Lib.hid hok; clear hok
  have HG := Lib.hid hg; clear hg
  go_enter Try.func127, Try.ntmps127
  go_wp2
  go_loopw [5] (fun i wr => ∃ k : Nat, k ≤ t.length ∧ i = .int .i64 k ∧ Dr w wr ∧ Hid ((t.take k).all (okP m) = true)) (fun i _ => t.length - (intOf i).toNat)
  case atStart => exact ⟨0, Nat.zero_le _, rfl, Dr.refl _, by simp [Hid]⟩
  case round =>
    obtain ⟨k, hk, rfl, hd, hA⟩ := hrel
    by_cases hlt : k < t.length
    · obtain ⟨b, o, a1, c1, r, ha, _, _, hcell, hr, hx⟩ := (ht.dr hd).at hlt
      have hidx := idxII ha hlt c'
      have hrl := HG.out r (List.mem_of_getElem? hx.out)
      have hmd := hm.dr hd
      clear ha hm ht
      cases hb : okP m r
      · have HB := Lib.hid hb; clear hb
        go_wp2_with fail
        refine (s_validPattern hmd hr HOK.out hrl).mono ?_
        rintro e w' ⟨rfl, n1, rfl⟩
        rw [HB.out]
        go_wp2
        go_ret
        exact (hd.drewN _).boolD (okBn_fails hx.out HB.out).symm
      · have HB := Lib.hid hb; clear hb
        go_wp2_with fail
        refine (s_validPattern hmd hr HOK.out hrl).mono ?_
        rintro e w' ⟨rfl, n1, rfl⟩
        rw [HB.out]
        go_wp2
        go_roundw
        case rel => exact ⟨k + 1, by omega, by go_num, hd.drewN _, all_snoc hx.out hA.out HB.out⟩
        case measure => simp [intOf]; omega
    · go_wp2
      go_ret
      exact hd.boolD (okBn_end (by omega) hA.out)

set_option maxHeartbeats 400000 in
theorem s_ValidBans {m : List Int} {t : List (List Int)} {a a' : Option Addr} {c c' lo hi lo' hi' : Nat} {w : World} (hm : RI w lo hi a m) (hlm : m.length ≤ 9223372036854775807) (ht : RII w lo' hi' a' t) (hl : t.length ≤ 9223372036854775807) (hg : ∀ r ∈ t, r.length ≤ 9223372036854775807) :
    Calls Try.prog 29 #[.slice a m.length c, .slice a' t.length c'] w (RO w (.bool (okM m && okBn m t))) := by
  have HG := Lib.hid hg; clear hg
  cases hok : okM m
  · have HOK := Lib.hid hok; clear hok
    go_enter Try.func29, Try.ntmps29
    go_wp2_with fail
    refine (s_validModel hm hlm).mono ?_
    rintro e w' ⟨rfl, n1, rfl⟩
    rw [HOK.out]
    go_wp2
    go_ret
    exact RO.drew _ _ _
  · have HOK := Lib.hid hok; clear hok
    go_enter Try.func29, Try.ntmps29
    go_wp2_with fail
    refine (s_validModel hm hlm).mono ?_
    rintro e w' ⟨rfl, hd⟩
    rw [HOK.out]
    go_wp2_with fail
    refine (s_validBans (hm.dr hd) (ht.dr hd) HOK.out hl HG.out).mono ?_
    rintro e w'' ⟨rfl, n2, rfl⟩
    go_wp2
    go_ret
    exact (Dr.drewN hd _).boolD (by rw [Bool.true_and])

/-- at most M patterns -/
def aP (m : List Int) (t : List (List Int)) (M : Nat) : Bool := t.all (okP m) && decide (t.length ≤ M)
theorem aP_bn (m : List Int) (t : List (List Int)) : okBn m t = aP m t 5 := rfl
theorem aP_fails {m : List Int} {mm : List (List Int)} {M k : Nat} {r : List Int} (hr : mm[k]? = some r) (h : okP m r = false) : aP m mm M = false := by
  unfold aP; rw [all_fails hr h, Bool.false_and]
theorem aP_no {m : List Int} {mm : List (List Int)} {M : Nat} (h : M < mm.length) : aP m mm M = false := by
  unfold aP; rw [decide_eq_false (by omega), Bool.and_false]
theorem aP_end {m : List Int} {mm : List (List Int)} {M k : Nat} (hk : mm.length ≤ k) (ha : (mm.take k).all (okP m) = true) (h : mm.length ≤ M) : aP m mm M = true := by
  unfold aP; rw [all_whole ha hk, Bool.true_and, decide_eq_true h]

set_option maxHeartbeats 400000 in
theorem i_arePatterns {m : List Int} {t : List (List Int)} {a a' : Option Addr} {c c' lo hi lo' hi' : Nat} {w : World} (hm : RI w lo hi a m) (hlm : m.length ≤ 9223372036854775807) (ht : RII w lo' hi' a' t) (hl : t.length ≤ 9223372036854775807) (hg : ∀ r ∈ t, r.length ≤ 9223372036854775807) (M : Nat) (hM : M ≤ 1048576) :
    Calls Try.prog 125 #[.slice a m.length c, .slice a' t.length c', .int .i64 (M : Int)] w (RO w (.bool (okM m && aP m t M))) := by
  have HG := Lib.hid hg; clear hg
  cases hok : okM m
  · have HOK := Lib.hid hok; clear hok
    go_enter Try.func125, Try.ntmps125
    go_wp2_with fail
    refine (i_ValidModel hm hlm).mono ?_
    rintro e w' ⟨rfl, n1, rfl⟩
    rw [HOK.out]
    go_wp2
    go_ret
    exact RO.drew _ _ _
  have HOK := Lib.hid hok; clear hok
  by_cases h5 : t.length ≤ M
  case neg =>
    go_enter Try.func125, Try.ntmps125
    go_wp2_with fail
    refine (i_ValidModel hm hlm).mono ?_
    rintro e w' ⟨rfl, n1, rfl⟩
    rw [HOK.out]
    go_wp2
    go_ret
    exact RO.bool (by rw [aP_no (by omega)]; rfl) _
  have hdc : decide (M < t.length) = false := decide_eq_false (by omega)
  have hdc2 : decide ((M : Int) < (t.length : Int)) = false := decide_eq_false (by omega)
  go_enter Try.func125, Try.ntmps125
  go_wp2_with fail
  refine (i_ValidModel hm hlm).mono ?_
  rintro e w0 ⟨rfl, hd0⟩
  rw [HOK.out]
  have hd0 : Dr w w0 := hd0
  go_wp2
  go_loopw [20] (fun i wr => ∃ k : Nat, k ≤ t.length ∧ i = .int .i64 k ∧ Dr w wr ∧ Hid ((t.take k).all (okP m) = true)) (fun i _ => t.length - (intOf i).toNat)
  case atStart => exact ⟨0, Nat.zero_le _, rfl, hd0, by simp [Hid]⟩
  case round =>
    obtain ⟨k, hk, rfl, hd, hA⟩ := hrel
    by_cases hlt : k < t.length
    · obtain ⟨b, o, a1, c1, r, ha, _, _, hcell, hr, hx⟩ := (ht.dr hd).at hlt
      have hidx := idxII ha hlt c'
      have hrl := HG.out r (List.mem_of_getElem? hx.out)
      have hmd := hm.dr hd
      clear ha hm ht
      cases hb : okP m r
      · have HB := Lib.hid hb; clear hb
        go_wp2_with fail
        refine (i_ValidPattern hmd hlm hr hrl).mono ?_
        rintro e w' ⟨rfl, n1, rfl⟩
        rw [HB.out, Bool.and_false]
        go_wp2
        go_ret
        exact (hd.drewN _).boolD (by rw [aP_fails hx.out HB.out]; rfl)
      · have HB := Lib.hid hb; clear hb
        go_wp2_with fail
        refine (i_ValidPattern hmd hlm hr hrl).mono ?_
        rintro e w' ⟨rfl, n1, rfl⟩
        rw [HB.out, HOK.out, Bool.and_true]
        go_wp2
        go_roundw
        case rel => exact ⟨k + 1, by omega, by go_num, hd.drewN _, all_snoc hx.out hA.out HB.out⟩
        case measure => simp [intOf]; omega
    · go_wp2
      go_ret
      refine hd.boolD ?_
      rw [aP_end (show t.length ≤ k by omega) hA.out h5]; rfl

set_option maxHeartbeats 400000 in
theorem i_ValidBans {m : List Int} {t : List (List Int)} {a a' : Option Addr} {c c' lo hi lo' hi' : Nat} {w : World} (hm : RI w lo hi a m) (hlm : m.length ≤ 9223372036854775807) (ht : RII w lo' hi' a' t) (hl : t.length ≤ 9223372036854775807) (hg : ∀ r ∈ t, r.length ≤ 9223372036854775807) :
    Calls Try.prog 28 #[.slice a m.length c, .slice a' t.length c'] w (RO w (.bool (okM m && okBn m t))) := by
  go_enter Try.func28, Try.ntmps28
  go_wp2_with fail
  refine (i_arePatterns hm hlm ht hl hg 5 (by omega)).mono ?_
  rintro e w' ⟨rfl, hd⟩
  rw [aP_bn]
  have hd : Dr w w' := hd
  go_wp2
  go_ret
  exact hd.boolD rfl

/- Walks: bans, by the model. -/
open Go.RowKit

set_option maxHeartbeats 1000000 in
theorem s_allowed {t : List (List Int)} {x : List Int} {a a' : Option Addr} {c c' lo hi lo' hi' : Nat} {w : World} (ht : RII w lo' hi' a' t) (hp : RI w lo hi a x) (hl : t.length ≤ 4611686018427387904) (h5 : ∀ r ∈ t, r.length ≤ x.length) (hxl : x.length ≤ 9223372036854775807) :
    Calls Try.prog 153 #[.slice a' t.length c', .slice a x.length c] w (RO w (.bool (!bnB t x))) := by
  have H5 := Lib.hid h5; clear h5
  go_enter Try.func153, Try.ntmps153
  go_wp2
  go_loopw [5] (fun i wr => ∃ k : Nat, k ≤ t.length ∧ i = .int .i64 k ∧ Hid ((t.take k).all (fun r => !mB r x) = true) ∧ Dr w wr) (fun i _ => t.length - (intOf i).toNat)
  case atStart => exact ⟨0, Nat.zero_le _, rfl, by simp [Hid], Dr.refl _⟩
  case round =>
    obtain ⟨k, hk, rfl, hA, hd⟩ := hrel
    by_cases hlt : k < t.length
    · obtain ⟨b, o, a1, c1, r, ha, _, _, hcell, hr, hx⟩ := (ht.dr hd).at hlt
      have hidx := idxII ha hlt c'
      have hr5 := H5.out r (List.mem_of_getElem? hx.out)
      have hpd := hp.dr hd
      clear ha ht hp
      cases hm : mB r x
      · have HM := Lib.hid hm; clear hm
        go_wp2_with fail
        refine (s_matches hr hpd hr5 hxl).mono ?_
        rintro e w1 ⟨rfl, hd1⟩
        rw [HM.out]
        go_wp2
        go_roundw
        case rel => exact ⟨k + 1, by omega, by go_num, all_snoc hx.out hA.out (by rw [HM.out]; rfl), Dr.trans hd hd1⟩
        case measure => simp [intOf]; omega
      · have HM := Lib.hid hm; clear hm
        go_wp2_with fail
        refine (s_matches hr hpd hr5 hxl).mono ?_
        rintro e w1 ⟨rfl, hd1⟩
        rw [HM.out]
        go_wp2
        go_ret
        exact (Dr.trans hd hd1).boolD (b := false) (by rw [bnB_yes hx.out HM.out]; rfl)
    · go_wp2
      go_ret
      exact hd.boolD (by rw [bnB_no (by omega) hA.out]; rfl)


set_option maxRecDepth 100000 in
set_option maxHeartbeats 2000000 in
theorem s_allowedTests {m : List Int} {s : List (List Int)} {a a' : Option Addr} {c c' lo hi lo' hi' : Nat} {w : World} (hok : okM m = true) (hm : RI w lo hi a m) (hB : hi ≤ w.heap.size) (hs : RII w lo' hi' a' s) (hB' : hi' ≤ w.heap.size) (hsl : s.length ≤ 1048576) (hr : ∀ r ∈ s, r.length = m.length) :
    Calls Try.prog 147 #[.slice a m.length c, .slice a' s.length c'] w (GotII w (alL m s)) := by
  have hm5 := okM_len hok
  have HOK := Lib.hid hok; clear hok
  have HR := Lib.hid hr; clear hr
  have HRow := Lib.hid (ext_row (m := m))
  have HLN := Lib.hid (ext_len HOK.out)
  have hbA := (Below.refl w.heap.size w).alloc (Nat.le_refl _) (.cells #[] 23)
  have hbB := ((Below.refl (w.heap.size + 1) (w.alloc (.cells #[] 23))).alloc (by simp) (.cells #[] 3))
  have hbC := hbA.trans (hbB.mono (by simp))
  have hm3 := hm.below hbC hB
  go_enter Try.func147, Try.ntmps147
  go_wp2_with fail
  refine (s_extend HOK.out m.length [] a ⟨w.heap.size + 1, 0, none⟩ c 0 lo hi 0 0 _ (by simp) hm3 (by simp; omega) (RI.nil _ _ _ _) (by simp)).mono ?_
  rintro e w1 ⟨ad1, c1, rfl, h1, hb1⟩
  obtain ⟨ps, hps⟩ : ∃ ps, extS m [] = ps := ⟨_, rfl⟩
  have HPS := Lib.hid hps
  rw [hps] at h1 HRow HLN ⊢
  clear hps
  have hb01 : Below w.heap.size w w1 := hbC.trans (hb1.mono (by simp; omega))
  have hs1 := hb1.size
  simp only [World.size_alloc] at hs1
  have hall : RII w1 (w.heap.size + 2) w1.heap.size (some ad1) ps := by simpa using h1.rii
  have hst : OwnRR w1 w.heap.size (w.heap.size + 2) w1.heap.size (.slice (some ⟨w.heap.size, 0, none⟩) 0 0) [] := OwnRR.start (Nat.le_refl _) (by omega) (hbB.trans (hb1.mono (by simp)))
  have hs2 := hs.below hb01 hB'
  have hpl := HLN.out
  clear h1 hb1 hbA hbB hbC hm3 hm hs
  go_wp2
  go_loopw [5, 7] (fun v i wr => ∃ k : Nat, k ≤ ps.length ∧ i = .int .i64 k ∧ OwnRR wr w.heap.size (w.heap.size + 2) w1.heap.size v ((ps.take k).filter (fun x => !bnB s x)) ∧ Kp w.heap.size (w.heap.size + 2) w1.heap.size w1 wr) (fun _ i _ => ps.length - (intOf i).toNat)
  case atStart => exact ⟨0, Nat.zero_le _, rfl, by simpa using hst, Kp.refl _ _ _ _⟩
  case round =>
    clear hst
    obtain ⟨k, hk, rfl, hown, hK⟩ := hrel
    have hsz := hK.size
    by_cases hlt : k < ps.length
    · obtain ⟨b, o, a2, c2, r, ha, _, hbh, hcell, hr1, hx, hcp⟩ := (hall.kp hK (Nat.le_refl _)).atc hlt
      have hidx := idxII ha hlt c1
      have HRL := Lib.hid (HRow.out r (List.mem_of_getElem? hx.out))
      have hs3 := hs2.below (hK.below (by omega)) hB'
      have hml := flt_len (fun x => !bnB s x) ps k
      have H5 : Hid (∀ q ∈ s, q.length ≤ r.length) := by
        intro q hq
        have := HR.out q hq
        have := HRL.out
        omega
      have hrl : r.length ≤ 9223372036854775807 := by have := HRL.out; omega
      clear ha hall hs2
      cases hc : bnB s r
      · have HC := Lib.hid hc; clear hc
        have HM := Lib.hid (flt_step (f := fun x => !bnB s x) hx.out (by rw [HC.out]; rfl))
        go_wp2_with (first
          | (go_at_call 153; refine (s_allowed hs3 hr1 (by omega) H5.out hrl).mono ?_; rintro e w2 ⟨rfl, hd⟩; rw [HC.out]; have hown2 := hown.below (Dr.below hd _) (by omega); have hz2 := Dr.le hd; have hr2 := hr1.dr hd; have hcell2 : w2.cell? ⟨b, o + k, none⟩ = _ := ((Dr.below hd wr.heap.size).cell (p := ⟨b, o + k, none⟩) (by show b < _; omega)).trans hcell; have hB02 := Dr.below hd wr.heap.size; clear hd)
          | (at_builtin; refine wpList_appR1 rfl (.tmp 24) (.tmp 29) rfl w.heap.size (w.heap.size + 2) w1.heap.size _ ((ps.take k).filter (fun x => !bnB s x)) rfl hown2 (by omega) (by omega) r a2 r.length c2 rfl hr2 hcp w2.heap.size rfl rfl (by omega) ?_; intro v3 w3 hown3 hk3 _)
          | go_in)
        rw [← HM.out] at hown3
        have hK3 := hK.trans ((Kp.ofBelow hB02).trans hk3)
        clear hK hk3 hown hown2
        go_roundw
        case rel => exact ⟨k + 1, by omega, by go_num, hown3, hK3⟩
        case measure => simp [intOf]; omega
      · have HC := Lib.hid hc; clear hc
        have HM := Lib.hid (flt_skip (f := fun x => !bnB s x) hx.out (by rw [HC.out]; rfl))
        go_wp2_with fail
        refine (s_allowed hs3 hr1 (by omega) H5.out hrl).mono ?_
        rintro e w2 ⟨rfl, hd⟩
        rw [HC.out]
        have hown2 := hown.below (Dr.below hd _) (by omega)
        rw [← HM.out] at hown2
        have hK2 := hK.trans (Kp.ofBelow (Dr.below hd _))
        clear hK hown
        go_wp2
        go_roundw
        case rel => exact ⟨k + 1, by omega, by go_num, hown2, hK2⟩
        case measure => simp [intOf]; omega
    · have HKE : Hid (ps.take k = ps) := List.take_of_length_le (by omega)
      have HMI : Hid (alL m s = ps.filter (fun x => !bnB s x)) := by show _ = _; unfold alL; rw [HPS.out]
      go_wp2
      rw [HKE.out] at hown
      obtain ⟨a4, c4, rfl, ho4⟩ := hown.slice (by omega) (by omega)
      go_ret
      rw [HMI.out]
      exact ⟨_, _, rfl, ho4, hb01.trans ((hK.below (by omega)))⟩

end Go.Proofs.Ytehoagbpgahopaa
