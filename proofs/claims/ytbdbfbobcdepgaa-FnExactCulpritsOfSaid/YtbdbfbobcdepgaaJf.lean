/- Walks: SuspectsOf and CulpritsOf, by the model. -/
import Derived.Test.YtbdbfbobcdepgaaVq
import Derived.Test.YtbdbfbobcdepgaaTb
import Derived.Test.YtbdbfbobcdepgaaZl
namespace Go.Proofs.Ytbdbfbobcdepgaa
open Go.RowKit

set_option maxHeartbeats 1000000 in
theorem s_goodFails {m : List Int} {s : List (List Int)} {f : List Bool} {a a1 a2 : Option Addr} {c c1 c2 lo hi lo1 hi1 : Nat} {w : World} {t : Int} (hm : RI w lo hi a m) (hlm : m.length ≤ 9223372036854775807) (hs : RII w lo1 hi1 a1 s) (hls : s.length ≤ 9223372036854775807) (hg : ∀ r ∈ s, r.length ≤ 9223372036854775807) (_hlf : f.length ≤ 9223372036854775807) :
    Calls Try.prog 112 #[.slice a m.length c, .slice a1 s.length c1, .slice a2 f.length c2, .int .i64 t] w (RO w (.bool (jdG m s f t))) := by
  cases hc : okC m s t
  · have HC := Lib.hid hc; clear hc
    have HJ : Hid (jdG m s f t = false) := by show _ = _; unfold jdG; rw [HC.out]; rfl
    go_enter Try.func112, Try.ntmps112
    go_wp2_with fail
    refine (s_good hm hlm hs hls hg).mono ?_
    rintro e w1 ⟨rfl, hd⟩
    rw [HC.out]
    go_wp2
    go_ret
    exact Dr.boolD (b := false) hd HJ.out.symm
  · have HC := Lib.hid hc; clear hc
    have HJ : Hid (((f.length : Int) == (s.length : Int)) = jdG m s f t) := by
      show _ = _; unfold jdG; rw [HC.out, Bool.true_and, Bool.eq_iff_iff, beq_iff_eq, decide_eq_true_eq]; omega
    go_enter Try.func112, Try.ntmps112
    go_wp2_with fail
    refine (s_good hm hlm hs hls hg).mono ?_
    rintro e w1 ⟨rfl, hd⟩
    rw [HC.out]
    go_wp2
    go_ret
    exact Dr.boolD hd HJ.out

theorem RBo.dr {w w' : World} {lo hi : Nat} {a : Option Addr} {m : List Bool} (h : RBo w lo hi a m) (hd : Dr w w') : RBo w' lo hi a m := by
  obtain ⟨n, rfl⟩ := hd
  exact h

set_option maxRecDepth 100000 in
set_option maxHeartbeats 4000000 in
theorem s_suspects {m : List Int} {s : List (List Int)} {f : List Bool} {a a' a2 : Option Addr} {c c' cf lo hi lo' hi' lo2 hi2 : Nat} {w : World} {t : Int} (hok : okM m = true) (hm : RI w lo hi a m) (hB : hi ≤ w.heap.size) (hs : RII w lo' hi' a' s) (hB' : hi' ≤ w.heap.size) (hf : RBo w lo2 hi2 a2 f) (hB2 : hi2 ≤ w.heap.size) (hlen : f.length = s.length) (hsl : s.length ≤ 1048576) (hr : ∀ r ∈ s, r.length = m.length) (ht0 : 0 ≤ t) (ht1 : t ≤ m.length) :
    Calls Try.prog 113 #[.slice a m.length c, .slice a' s.length c', .slice a2 f.length cf, .int .i64 t] w (GotII w (susP m s f t)) := by
  have hm5 := okM_len hok
  have HOK := Lib.hid hok; clear hok
  have HR := Lib.hid hr; clear hr
  have HRow := Lib.hid (patS_row (m := m) (t := t))
  have HLN := Lib.hid (patS_len (head := []) HOK.out t)
  have hbA := (Below.refl w.heap.size w).alloc (Nat.le_refl _) (.cells #[] 22)
  obtain ⟨N, hN⟩ : ∃ N, s.length = N := ⟨_, rfl⟩
  have HN := Lib.hid hN
  have HF : Hid (f.length = N) := by show _ = _; omega
  have hNl : N ≤ 1048576 := by omega
  rw [HF.out, hN]
  have hbB := ((Below.refl w.heap.size w).alloc (Nat.le_refl _) (.cells #[] 22)).alloc (by simp) (.cells #[] 3)
  have hm3 := hm.below hbB hB
  clear hN hlen hsl
  go_enter Try.func113, Try.ntmps113
  go_wp2_with fail
  refine (s_patterns HOK.out m.length [] a ⟨w.heap.size + 1, 0, none⟩ c 0 lo hi 0 0 _ t (by simp) hm3 (by simp; omega) (RI.nil _ _ _ _) (by simp) (by omega) (by omega)).mono ?_
  rintro e w1 ⟨ad1, c1, rfl, h1, hb1⟩
  obtain ⟨ps, hps⟩ : ∃ ps, patS m [] t = ps := ⟨_, rfl⟩
  have HPS := Lib.hid hps
  rw [hps] at h1 HRow HLN ⊢
  clear hps
  have hb1a : Below (w.heap.size + 1) (w.alloc (.cells #[] 22)) w1 := (((Below.refl _ (w.alloc (.cells #[] 22))).alloc (Nat.le_refl _) (.cells #[] 3)).trans (hb1.mono (by simp))).mono (by simp)
  have hb01 : Below w.heap.size w w1 := hbA.trans (hb1a.mono (by omega))
  have hs1 := hb1.size
  simp only [World.size_alloc] at hs1
  have hall : RII w1 (w.heap.size + 1) w1.heap.size (some ad1) ps := by have := h1.rii; simp only [World.size_alloc] at this; exact this.wide (by omega) (Nat.le_refl _)
  have hst : OwnRR w1 w.heap.size (w.heap.size + 1) w1.heap.size (.slice (some ⟨w.heap.size, 0, none⟩) 0 0) [] := OwnRR.start (Nat.le_refl _) (by omega) hb1a
  have hs2 : RII w1 lo' hi' a' s := hs.below hb01 hB'
  have hf2 : RBo w1 lo2 hi2 a2 f := hf.below hb01 hB2
  have hpl := HLN.out
  clear h1 hb1 hbA hbB hm3 hm hs hf hb1a
  go_wp2
  go_loopw [9, 11] (fun v i wr => ∃ k : Nat, k ≤ ps.length ∧ i = .int .i64 k ∧ OwnRR wr w.heap.size (w.heap.size + 1) w1.heap.size v ((ps.take k).filter (susF s f)) ∧ Kp w.heap.size (w.heap.size + 1) w1.heap.size w1 wr) (fun _ i _ => ps.length - (intOf i).toNat)
  case atStart => exact ⟨0, Nat.zero_le _, rfl, by simpa using hst, Kp.refl _ _ _ _⟩
  case round =>
    clear hst
    obtain ⟨k, hk, rfl, hown, hK⟩ := hrel
    have hsz := hK.size
    by_cases hlt : k < ps.length
    · obtain ⟨b, o, a3, c3, r, ha, hbl, hbh, hcell, hr1, hx, hcp⟩ := (hall.kp hK (Nat.le_refl _)).atc hlt
      have hidx := idxII ha hlt c1
      have HRL := Lib.hid (HRow.out r (List.mem_of_getElem? hx.out))
      have hrl : r.length ≤ 5 := by have := HRL.out; omega
      have hs3 : RII wr lo' hi' a' s := hs2.same fun j h1 h2 => (hK.below (by omega)).block j (by omega)
      have hf3 : RBo wr lo2 hi2 a2 f := hf2.same fun j h1 h2 => (hK.below (by omega)).block j (by omega)
      have hml := flt_len (susF s f) ps k
      obtain ⟨wo, hwo⟩ : ∃ wo, wo = wr := ⟨_, rfl⟩
      subst hwo
      clear ha hall hs2 hf2
      go_wp2
      go_loopw [12, 13, 14] (fun vp vf j wr => ∃ (y : Nat) (P F : Bool), y ≤ N ∧ j = .int .i64 y ∧ vp = .bool P ∧ vf = .bool F ∧ Hid (P = mtB false (s.take y) (f.take y) r ∧ F = mtB true (s.take y) (f.take y) r) ∧ Dr wo wr) (fun _ _ j _ => N - (intOf j).toNat)
      case atStart => exact ⟨0, false, false, Nat.zero_le _, rfl, rfl, rfl, ⟨mtB_zero.symm, mtB_zero.symm⟩, Dr.refl _⟩
      case round =>
        obtain ⟨y, P, F, hy, rfl, rfl, rfl, HPF, hd⟩ := hrel
        by_cases hyk : y < N
        · obtain ⟨b2, o2, a4, c4, x, ha4, _, _, hc4, hx4, hxx⟩ := (hs3.dr hd).at (show y < s.length by have := HN.out; omega)
          obtain ⟨b5, o5, g, ha5, _, _, hc5, hgg⟩ := (hf3.dr hd).at (show y < f.length by have := HF.out; omega)
          have hi4 := idxII ha4 hyk c'
          have hi5 := idxBo ha5 hyk cf
          have hxl := HR.out x (List.mem_of_getElem? hxx.out)
          have hr2 := hr1.dr hd
          have hcell2 : wr.cell? ⟨b, o + k, none⟩ = _ := ((Dr.below hd wo.heap.size).cell (p := ⟨b, o + k, none⟩) (by show b < _; omega)).trans hcell
          have HSF : Hid (mtB false (s.take (y + 1)) (f.take (y + 1)) r = (P || (mB r x && g == false)) ∧ mtB true (s.take (y + 1)) (f.take (y + 1)) r = (F || (mB r x && g == true))) :=
            ⟨by rw [mtB_step hxx.out hgg.out, HPF.out.1], by rw [mtB_step hxx.out hgg.out, HPF.out.2]⟩
          have HC := Lib.hid (fun nn => s_matches (c := c3) (c' := c4) (hr2.drewN nn) (hx4.drewN nn) (by have := HRL.out; omega) (by omega))
          clear ha4 ha5 hr2 hx4 hxl hxx hgg HPF
          cases hmx : mB r x
          · rw [hmx] at HC HSF
            clear hmx
            have HI : Hid (P = mtB false (s.take (y + 1)) (f.take (y + 1)) r ∧ F = mtB true (s.take (y + 1)) (f.take (y + 1)) r) := ⟨by rw [HSF.out.1]; simp, by rw [HSF.out.2]; simp⟩
            clear HSF
            go_wp2_with fail
            go_quiet (exact Calls.quiet_of (HC.out _))
            go_wp2
            go_roundw
            case rel => exact ⟨y + 1, P, F, by omega, by go_num, rfl, rfl, HI, Dr.drewN hd _⟩
            case measure => simp [intOf]; omega
          · rw [hmx] at HC HSF
            clear hmx
            cases P <;> cases F <;> cases g
            all_goals
              have HI := HSF
              clear HSF
              go_wp2_with fail
              go_quiet (exact Calls.quiet_of (HC.out _))
              go_wp2
              go_roundw
              case rel => exact ⟨y + 1, _, _, by omega, by go_num, rfl, rfl, ⟨by rw [HI.out.1]; rfl, by rw [HI.out.2]; rfl⟩, Dr.drewN hd _⟩
              case measure => simp [intOf]; omega
        · have HPF2 : Hid (susF s f r = (F && !P)) := by
            have h := HPF.out
            have h5 := HN.out
            have h6 := HF.out
            rw [mtB_end (by omega) (by omega), mtB_end (by omega) (by omega)] at h
            show _ = _
            unfold susF
            rw [← h.1, ← h.2]
          have hr3 := hr1.dr hd
          have hz3 := Dr.le hd
          have hcell3 : wr.cell? ⟨b, o + k, none⟩ = _ := ((Dr.below hd wo.heap.size).cell (p := ⟨b, o + k, none⟩) (by show b < _; omega)).trans hcell
          have hown2 := hown.below (Dr.below hd _) (by omega)
          have hK2 := hK.trans (Kp.ofBelow (Dr.below hd _))
          clear HPF hK hown hcell hd hr1 hs3 hf3
          cases hsu : susF s f r
          · have HC := Lib.hid hsu
            have HM := Lib.hid (flt_skip (f := susF s f) hx.out HC.out)
            rw [← HM.out] at hown2
            rw [hsu] at HPF2
            clear hsu
            cases F <;> cases P
            case true.false => exact absurd HPF2.out (by decide)
            all_goals
              go_wp2
              go_roundw
              case rel => exact ⟨k + 1, by omega, by go_num, hown2, hK2⟩
              case measure => simp [intOf]; omega
          · have HC := Lib.hid hsu
            have HM := Lib.hid (flt_step (f := susF s f) hx.out HC.out)
            rw [hsu] at HPF2
            clear hsu
            cases F <;> cases P
            case true.false =>
              go_wp2_with (first
                | (at_builtin; refine wpList_appR1 rfl (.tmp 61) (.tmp 66) rfl w.heap.size (w.heap.size + 1) w1.heap.size _ ((ps.take k).filter (susF s f)) rfl hown2 (by omega) (by omega) r a3 r.length c3 rfl hr3 hcp wr.heap.size rfl rfl (by omega) ?_; intro v3 w3 hown3 hk3 _)
                | go_in)
              rw [← HM.out] at hown3
              have hK3 := hK2.trans hk3
              clear hK2 hk3 hown2
              go_roundw
              case rel => exact ⟨k + 1, by omega, by go_num, hown3, hK3⟩
              case measure => simp [intOf]; omega
            all_goals exact absurd HPF2.out (by decide)
    · have HKE : Hid (ps.take k = ps) := List.take_of_length_le (by omega)
      have HMI : Hid (susP m s f t = ps.filter (susF s f)) := by show _ = _; unfold susP; rw [HPS.out]
      go_wp2
      rw [HKE.out] at hown
      obtain ⟨a4, c4, rfl, ho4⟩ := hown.slice (by omega) (by omega)
      go_ret
      rw [HMI.out]
      exact ⟨_, _, rfl, ho4, hb01.trans ((hK.below (by omega)))⟩

set_option maxHeartbeats 1000000 in
theorem s_SuspectsOf {m : List Int} {s : List (List Int)} {f : List Bool} {a a1 a2 : Option Addr} {c c1 c2 lo hi lo1 hi1 lo2 hi2 : Nat} {w : World} {t : Int} (hm : RI w lo hi a m) (hlm : m.length ≤ 9223372036854775807) (hs : RII w lo1 hi1 a1 s) (hls : s.length ≤ 9223372036854775807) (hg : ∀ r ∈ s, r.length ≤ 9223372036854775807) (hf : RBo w lo2 hi2 a2 f) (hlf : f.length ≤ 9223372036854775807) (_ht0 : -9223372036854775808 ≤ t) (_ht1 : t ≤ 9223372036854775807) (hB : hi ≤ w.heap.size) (hB1 : hi1 ≤ w.heap.size) (hB2 : hi2 ≤ w.heap.size) :
    Calls Try.prog 40 #[.slice a m.length c, .slice a1 s.length c1, .slice a2 f.length c2, .int .i64 t] w (GotII w (suL m s f t)) := by
  have HG := Lib.hid hg; clear hg
  cases hj : jdG m s f t
  · have HE : Hid (suL m s f t = []) := su_no hj
    have HJ := Lib.hid hj; clear hj
    go_enter Try.func40, Try.ntmps40
    go_wp2_with fail
    refine (s_goodFails hm hlm hs hls HG.out hlf).mono ?_
    rintro e w1 ⟨rfl, hd⟩
    rw [HJ.out]
    go_wp2
    go_ret
    exact GotII.none HE.out (Dr.below hd _)
  have HE : Hid (suL m s f t = susP m s f t) := su_yes hj
  have HJ := Lib.hid hj
  have hjm := jdG_m hj
  have HLF := Lib.hid hjm.2
  have hp := okC_parts hjm.1
  have HR := Lib.hid hp.2.2.2
  have HOK := Lib.hid hp.1
  have ht := hp.2.1
  have hsl := hp.2.2.1
  clear hj hjm hp
  go_enter Try.func40, Try.ntmps40
  go_wp2_with fail
  refine (s_goodFails hm hlm hs hls HG.out hlf).mono ?_
  rintro e w1 ⟨rfl, hd⟩
  rw [HJ.out]
  have hd : Dr w w1 := hd
  have hz1 := Dr.le hd
  go_wp2_with fail
  refine (s_suspects HOK.out (hm.dr hd) (by omega) (hs.dr hd) (by omega) (hf.dr hd) (by omega) HLF.out (by omega) HR.out ht.1 ht.2).mono ?_
  rintro e w4 ⟨a4, c4, rfl, h4, hb4⟩
  go_wp2
  go_ret
  rw [HE.out]
  exact ⟨_, _, rfl, h4.wide (by omega) (Nat.le_refl _), (Dr.below hd w.heap.size).trans (hb4.mono (by omega))⟩

set_option maxHeartbeats 1000000 in
theorem s_same {s : List (List Int)} {f : List Bool} {p : List Int} {a a1 a2 : Option Addr} {c c1 c2 lo hi lo1 hi1 lo2 hi2 : Nat} {w : World} (hs : RII w lo1 hi1 a1 s) (hf : RBo w lo2 hi2 a2 f) (hp : RI w lo hi a p) (hlen : f.length = s.length) (hsl : s.length ≤ 1048576) (hr : ∀ r ∈ s, r.length = p.length) (hpl : p.length ≤ 1048576) :
    Calls Try.prog 120 #[.slice a1 s.length c1, .slice a2 f.length c2, .slice a p.length c] w (RO w (.bool (culF s f p))) := by
  have HR := Lib.hid hr
  obtain ⟨N, hN⟩ : ∃ N, s.length = N := ⟨_, rfl⟩
  have HN := Lib.hid hN
  have HF : Hid (f.length = N) := by show _ = _; omega
  have hNl : N ≤ 1048576 := by omega
  rw [HF.out, hN]
  clear hr hN hlen hsl
  go_enter Try.func120, Try.ntmps120
  go_wp2
  go_loopw [7] (fun j wr => ∃ y : Nat, y ≤ N ∧ j = .int .i64 y ∧ Hid (culF (s.take y) (f.take y) p = true) ∧ Dr w wr) (fun j _ => N - (intOf j).toNat)
  case atStart => exact ⟨0, Nat.zero_le _, rfl, culF_zero, Dr.refl _⟩
  case round =>
    obtain ⟨y, hy, rfl, HC0, hd⟩ := hrel
    by_cases hyk : y < N
    · obtain ⟨b2, o2, a4, c4, x, ha4, _, _, hc4, hx4, hxx⟩ := (hs.dr hd).at (show y < s.length by have := HN.out; omega)
      obtain ⟨b5, o5, g, ha5, _, _, hc5, hgg⟩ := (hf.dr hd).at (show y < f.length by have := HF.out; omega)
      have hi4 := idxII ha4 hyk c1
      have hi5 := idxBo ha5 hyk c2
      have hxl := HR.out x (List.mem_of_getElem? hxx.out)
      have hp2 := hp.dr hd
      have HST : Hid (culF (s.take (y + 1)) (f.take (y + 1)) p = (mB p x == g)) := by
        show _ = _; rw [culF_step hxx.out hgg.out, HC0.out, Bool.true_and]
      have HBAD : Hid (mB p x ≠ g → culF s f p = false) := fun h => culF_fails hxx.out hgg.out h
      have HC := Lib.hid (fun nn => s_matches (c := c) (c' := c4) (hp2.drewN nn) (hx4.drewN nn) (by omega) (by omega))
      clear ha4 ha5 hp2 hx4 hxl hxx hgg HC0
      cases hmx : mB p x <;> cases g
      all_goals
        rw [hmx] at HC HST HBAD
        clear hmx
        go_wp2_with fail
        go_quiet (exact Calls.quiet_of (HC.out _))
        go_wp2
        first
          | (go_ret; exact Dr.boolD (b := false) (Dr.drewN hd _) (HBAD.out (by decide)).symm)
          | (go_roundw
             case rel => exact ⟨y + 1, by omega, by go_num, HST.out, Dr.drewN hd _⟩
             case measure => simp [intOf]; omega)
    · have HE : Hid (culF s f p = true) := by
        have h := HC0.out
        rwa [culF_end (by have := HN.out; omega) (by have := HF.out; omega)] at h
      go_wp2
      go_ret
      exact Dr.boolD (b := true) hd HE.out.symm

set_option maxRecDepth 100000 in
set_option maxHeartbeats 4000000 in
theorem s_CulpritsOf {m : List Int} {s : List (List Int)} {f : List Bool} {a a' a2 : Option Addr} {c c' cf lo hi lo' hi' lo2 hi2 : Nat} {w : World} {t : Int} (hm : RI w lo hi a m) (hlm : m.length ≤ 9223372036854775807) (hs : RII w lo' hi' a' s) (hls : s.length ≤ 9223372036854775807) (hg : ∀ r ∈ s, r.length ≤ 9223372036854775807) (hf : RBo w lo2 hi2 a2 f) (hlf : f.length ≤ 9223372036854775807) (_ht0 : -9223372036854775808 ≤ t) (_ht1 : t ≤ 9223372036854775807) (hB : hi ≤ w.heap.size) (hB' : hi' ≤ w.heap.size) (hB2 : hi2 ≤ w.heap.size) :
    Calls Try.prog 45 #[.slice a m.length c, .slice a' s.length c', .slice a2 f.length cf, .int .i64 t] w (GotII w (cuL m s f t)) := by
  have HG := Lib.hid hg; clear hg
  cases hj : jdG m s f t
  · have HE : Hid (cuL m s f t = []) := cu_no hj
    have HJ := Lib.hid hj; clear hj
    go_enter Try.func45, Try.ntmps45
    go_wp2_with fail
    refine (s_goodFails hm hlm hs hls HG.out hlf).mono ?_
    rintro e w1 ⟨rfl, hd⟩
    rw [HJ.out]
    go_wp2
    go_ret
    exact GotII.none HE.out (Dr.below hd _)
  have HE : Hid (cuL m s f t = culP m s f t) := cu_yes hj
  have HJ := Lib.hid hj
  have hjm := jdG_m hj
  have HLF := Lib.hid hjm.2
  have hp := okC_parts hjm.1
  have HR := Lib.hid hp.2.2.2
  have HOK := Lib.hid hp.1
  have hm5 := okM_len hp.1
  have ht := hp.2.1
  have hsl := hp.2.2.1
  have HRow := Lib.hid (patS_row (m := m) (t := t))
  have HLN := Lib.hid (patS_len (head := []) HOK.out t)
  clear hj hjm hp
  go_enter Try.func45, Try.ntmps45
  go_wp2_with fail
  refine (s_goodFails hm hlm hs hls HG.out hlf).mono ?_
  rintro e w00 ⟨rfl, hd0⟩
  rw [HJ.out]
  have hd0 : Dr w w00 := hd0
  have hz0 := Dr.le hd0
  have hbz := Dr.below hd0 w.heap.size
  have hbA := (Below.refl w00.heap.size w00).alloc (Nat.le_refl _) (.cells #[] 22)
  have hbB := ((Below.refl w00.heap.size w00).alloc (Nat.le_refl _) (.cells #[] 22)).alloc (by simp) (.cells #[] 3)
  have hm3 := (hm.dr hd0).below hbB (by omega)
  have hs00 := hs.dr hd0
  have hf00 := hf.dr hd0
  clear hm hs hf
  go_wp2_with fail
  refine (s_patterns HOK.out m.length [] a ⟨w00.heap.size + 1, 0, none⟩ c 0 lo hi 0 0 _ t (by simp) hm3 (by simp; omega) (RI.nil _ _ _ _) (by simp) (by omega) (by omega)).mono ?_
  rintro e w1 ⟨ad1, c1, rfl, h1, hb1⟩
  obtain ⟨ps, hps⟩ : ∃ ps, patS m [] t = ps := ⟨_, rfl⟩
  have HPS := Lib.hid hps
  rw [hps] at h1 HRow HLN ⊢
  clear hps
  have hb1a : Below (w00.heap.size + 1) (w00.alloc (.cells #[] 22)) w1 := (((Below.refl _ (w00.alloc (.cells #[] 22))).alloc (Nat.le_refl _) (.cells #[] 3)).trans (hb1.mono (by simp))).mono (by simp)
  have hb01 : Below w00.heap.size w00 w1 := hbA.trans (hb1a.mono (by omega))
  have hs1 := hb1.size
  simp only [World.size_alloc] at hs1
  have hall : RII w1 (w00.heap.size + 1) w1.heap.size (some ad1) ps := by have := h1.rii; simp only [World.size_alloc] at this; exact this.wide (by omega) (Nat.le_refl _)
  have hst : OwnRR w1 w00.heap.size (w00.heap.size + 1) w1.heap.size (.slice (some ⟨w00.heap.size, 0, none⟩) 0 0) [] := OwnRR.start (Nat.le_refl _) (by omega) hb1a
  have hs2 : RII w1 lo' hi' a' s := hs00.below hb01 (by omega)
  have hf2 : RBo w1 lo2 hi2 a2 f := hf00.below hb01 (by omega)
  have hpl := HLN.out
  clear h1 hb1 hbA hbB hm3 hs00 hf00 hb1a
  go_wp2
  go_loopw [9, 11] (fun v i wr => ∃ k : Nat, k ≤ ps.length ∧ i = .int .i64 k ∧ OwnRR wr w00.heap.size (w00.heap.size + 1) w1.heap.size v ((ps.take k).filter (culF s f)) ∧ Kp w00.heap.size (w00.heap.size + 1) w1.heap.size w1 wr) (fun _ i _ => ps.length - (intOf i).toNat)
  case atStart => exact ⟨0, Nat.zero_le _, rfl, by simpa using hst, Kp.refl _ _ _ _⟩
  case round =>
    clear hst
    obtain ⟨k, hk, rfl, hown, hK⟩ := hrel
    have hsz := hK.size
    by_cases hlt : k < ps.length
    · obtain ⟨b, o, a3, c3, r, ha, hbl, hbh, hcell, hr1, hx, hcp⟩ := (hall.kp hK (Nat.le_refl _)).atc hlt
      have hidx := idxII ha hlt c1
      have HRL := Lib.hid (HRow.out r (List.mem_of_getElem? hx.out))
      have hs3 : RII wr lo' hi' a' s := hs2.same fun j h1 h2 => (hK.below (by omega)).block j (by omega)
      have hf3 : RBo wr lo2 hi2 a2 f := hf2.same fun j h1 h2 => (hK.below (by omega)).block j (by omega)
      have hml := flt_len (culF s f) ps k
      have HSM := Lib.hid (s_same (c := c3) (c1 := c') (c2 := cf) hs3 hf3 hr1 HLF.out (by omega) (fun q hq => by have := HR.out q hq; have := HRL.out; omega) (by have := HRL.out; omega))
      clear ha hall hs2 hf2 hs3 hf3
      cases hc : culF s f r
      · have HC := Lib.hid hc; clear hc
        have HM := Lib.hid (flt_skip (f := culF s f) hx.out HC.out)
        go_wp2_with fail
        refine HSM.out.mono ?_
        rintro e w2 ⟨rfl, hd⟩
        rw [HC.out]
        have hown2 := hown.below (Dr.below hd _) (by omega)
        rw [← HM.out] at hown2
        have hK2 := hK.trans (Kp.ofBelow (Dr.below hd _))
        clear hK hown
        go_wp2
        go_roundw
        case rel => exact ⟨k + 1, by omega, by go_num, hown2, hK2⟩
        case measure => simp [intOf]; omega
      · have HC := Lib.hid hc; clear hc
        have HM := Lib.hid (flt_step (f := culF s f) hx.out HC.out)
        go_wp2_with (first
          | (go_at_call 120; refine HSM.out.mono ?_; rintro e w2 ⟨rfl, hd⟩; rw [HC.out]; have hown2 := hown.below (Dr.below hd _) (by omega); have hz2 := Dr.le hd; have hr2 := hr1.dr hd; have hcell2 : w2.cell? ⟨b, o + k, none⟩ = _ := ((Dr.below hd wr.heap.size).cell (p := ⟨b, o + k, none⟩) (by show b < _; omega)).trans hcell; have hB02 := Dr.below hd wr.heap.size; clear hd)
          | (at_builtin; refine wpList_appR1 rfl (.tmp 36) (.tmp 41) rfl w00.heap.size (w00.heap.size + 1) w1.heap.size _ ((ps.take k).filter (culF s f)) rfl hown2 (by omega) (by omega) r a3 r.length c3 rfl hr2 hcp w2.heap.size rfl rfl (by omega) ?_; intro v3 w3 hown3 hk3 _)
          | go_in)
        rw [← HM.out] at hown3
        have hK3 := hK.trans ((Kp.ofBelow hB02).trans hk3)
        clear hK hk3 hown hown2
        go_roundw
        case rel => exact ⟨k + 1, by omega, by go_num, hown3, hK3⟩
        case measure => simp [intOf]; omega
    · have HKE : Hid (ps.take k = ps) := List.take_of_length_le (by omega)
      have HMI : Hid (culP m s f t = ps.filter (culF s f)) := by show _ = _; unfold culP; rw [HPS.out]
      go_wp2
      rw [HKE.out] at hown
      obtain ⟨a4, c4, rfl, ho4⟩ := hown.slice (by omega) (by omega)
      go_ret
      rw [HE.out, HMI.out]
      exact ⟨_, _, rfl, ho4.wide (by omega) (Nat.le_refl _), hbz.trans ((hb01.trans ((hK.below (by omega)))).mono (by omega))⟩

end Go.Proofs.Ytbdbfbobcdepgaa
