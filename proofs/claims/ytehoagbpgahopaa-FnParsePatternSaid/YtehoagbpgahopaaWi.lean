/- Walks: HowOften. -/
import Derived.Test.YtehoagbpgahopaaWh
import Derived.Test.YtehoagbpgahopaaMath
namespace Go.Proofs.Ytehoagbpgahopaa
open Go.RowKit

set_option maxHeartbeats 400000 in
theorem s_howOften {t : List (List Int)} {p : List Int} {a a' : Option Addr} {c c' lo hi lo' hi' : Nat} {w : World} (ht : RII w lo' hi' a' t) (hp : RI w lo hi a p) (hl : t.length ≤ 4611686018427387904) (h5 : ∀ r ∈ t, p.length ≤ r.length ∧ r.length ≤ 9223372036854775807) :
    Calls Try.prog 166 #[.slice a' t.length c', .slice a p.length c] w (RO w (.int .i64 (t.countP fun r => mB p r))) := by
  have H5 := Lib.hid h5; clear h5
  go_enter Try.func166, Try.ntmps166
  go_wp2
  go_loopw [5, 6] (fun v i wr => ∃ (k q : Nat), k ≤ t.length ∧ i = .int .i64 k ∧ v = .int .i64 q ∧ q ≤ k ∧ Hid (q = (t.take k).countP fun r => mB p r) ∧ Dr w wr) (fun _ i _ => t.length - (intOf i).toNat)
  case atStart => exact ⟨0, 0, Nat.zero_le _, rfl, rfl, Nat.le_refl _, by simp [Hid], Dr.refl _⟩
  case round =>
    obtain ⟨k, q, hk, rfl, rfl, hqk, hq, hd⟩ := hrel
    by_cases hlt : k < t.length
    · obtain ⟨b, o, a1, c1, r, ha, _, _, hcell, hr, hx⟩ := (ht.dr hd).at hlt
      have hidx := idxII ha hlt c'
      have hr5 := H5.out r (List.mem_of_getElem? hx.out)
      have hpd := hp.dr hd
      clear ha ht hp
      cases hm : mB p r
      · have HM := Lib.hid hm; clear hm
        have HQ : Hid (q = (t.take (k + 1)).countP fun r => mB p r) := by
          show _ = _; rw [take_snoc hx.out, List.countP_append, ← hq.out]; simp [HM.out]
        go_wp2_with fail
        refine (s_matches hpd hr hr5.1 hr5.2).mono ?_
        rintro e w1 ⟨rfl, hd1⟩
        rw [HM.out]
        go_wp2
        go_roundw
        case rel => exact ⟨k + 1, q, by omega, by go_num, rfl, by omega, HQ, Dr.trans hd hd1⟩
        case measure => simp [intOf]; omega
      · have HM := Lib.hid hm; clear hm
        have HQ : Hid (q + 1 = (t.take (k + 1)).countP fun r => mB p r) := by
          show _ = _; rw [take_snoc hx.out, List.countP_append, ← hq.out]; simp [HM.out]
        go_wp2_with fail
        refine (s_matches hpd hr hr5.1 hr5.2).mono ?_
        rintro e w1 ⟨rfl, hd1⟩
        rw [HM.out]
        go_wp2
        go_roundw
        case rel => exact ⟨k + 1, q + 1, by omega, by go_num, by go_num, by omega, HQ, Dr.trans hd hd1⟩
        case measure => simp [intOf]; omega
    · go_wp2
      go_ret
      have h := hq.out
      rw [List.take_of_length_le (by omega)] at h
      exact hd.intD (by rw [← h])

/-- how many tests of a suite match a pattern; -1 where there is no such thing -/
def hoV (m : List Int) (t : List (List Int)) (p : List Int) : Int := if okM m && okS m t && okP m p then (t.countP fun r => mB p r : Nat) else -1
theorem hoV_yes {m p : List Int} {t : List (List Int)} (h : okM m = true) (h' : okS m t = true) (h'' : okP m p = true) : hoV m t p = (t.countP fun r => mB p r : Nat) := by unfold hoV; rw [h, h', h'']; rfl
theorem hoV_no {m p : List Int} {t : List (List Int)} (h : okM m = false ∨ okS m t = false ∨ okP m p = false) : hoV m t p = -1 := by
  unfold hoV
  rcases h with h | h | h <;> rw [h] <;> simp

set_option maxHeartbeats 400000 in
theorem i_HowOften {m p : List Int} {t : List (List Int)} {a a' a'' : Option Addr} {c c' c'' lo hi lo' hi' lo'' hi'' : Nat} {w : World} (hm : RI w lo hi a m) (hlm : m.length ≤ 9223372036854775807) (ht : RII w lo' hi' a' t) (hlt : t.length ≤ 9223372036854775807) (hg : ∀ r ∈ t, r.length ≤ 9223372036854775807) (hp : RI w lo'' hi'' a'' p) (hlp : p.length ≤ 9223372036854775807)
    (hb' : hi' ≤ w.heap.size) (hb'' : hi'' ≤ w.heap.size) :
    Calls Try.prog 72 #[.slice a m.length c, .slice a' t.length c', .slice a'' p.length c''] w (NewV w (.int .i64 (hoV m t p))) := by
  have HG := Lib.hid hg; clear hg
  cases hos : (okM m && okS m t)
  · have HOS := Lib.hid hos; clear hos
    go_enter Try.func72, Try.ntmps72
    go_wp2_with fail
    refine (i_ValidSuite hm hlm ht hlt HG.out).mono ?_
    rintro e w' ⟨rfl, hd⟩
    rw [HOS.out]
    go_wp2
    go_ret
    exact ⟨by rw [hoV_no (by simpa [Bool.and_eq_false_iff, ← or_assoc] using Or.inl (Bool.and_eq_false_iff.1 HOS.out))]; rfl, Dr.below hd _⟩
  have h0 : okM m = true ∧ okS m t = true := by simpa using hos
  have HOK := Lib.hid h0.1
  have HOK2 := Lib.hid h0.2
  have HOS := Lib.hid hos; clear hos h0
  cases hop : okP m p
  · have HOP := Lib.hid hop; clear hop
    go_enter Try.func72, Try.ntmps72
    go_wp2_with fail
    refine (i_ValidSuite hm hlm ht hlt HG.out).mono ?_
    rintro e w' ⟨rfl, hd⟩
    rw [HOS.out]
    go_wp2_with fail
    refine (i_ValidPattern (hm.dr hd) hlm (hp.dr hd) hlp).mono ?_
    rintro e w2 ⟨rfl, hd2⟩
    rw [HOP.out, Bool.and_false]
    go_wp2
    go_ret
    exact ⟨by rw [hoV_no (.inr (.inr HOP.out))]; rfl, Dr.below (Dr.trans hd hd2) _⟩
  have HOP := Lib.hid hop; clear hop
  have h1 := okW_len HOP.out
  have h5 := okM_len HOK.out
  have hp5 : p.length ≤ 5 := by omega
  have HR : Hid (∀ r ∈ t, r.length ≤ 5) := fun r hr => by
    have h2 := okW_len (okS_all HOK2.out hr)
    omega
  have HE : Hid ((t.countP fun r => meet5 (at5 p) (at5 r)) = t.countP fun r => mB p r) := by
    refine List.countP_congr fun r hr => ?_
    have h2 := okW_len (okS_all HOK2.out hr)
    rw [meet5_mB (by omega) hp5]
  have ht20 := okS_len HOK2.out
  clear h1
  go_enter Try.func72, Try.ntmps72
  go_wp2_with fail
  refine (i_ValidSuite hm hlm ht hlt HG.out).mono ?_
  rintro e w' ⟨rfl, hd⟩
  rw [HOS.out]
  go_wp2_with fail
  refine (i_ValidPattern (hm.dr hd) hlm (hp.dr hd) hlp).mono ?_
  rintro e w2 ⟨rfl, hd2⟩
  rw [HOP.out, HOK.out, Bool.and_true]
  have hd2 := Dr.trans hd hd2
  have hz2 := Dr.le hd2
  have hp2 := hp.dr hd2
  have ht2 := ht.dr hd2
  have hB2 := Dr.below hd2 w.heap.size
  go_wp2_with fail
  refine (i_patternOf hp2 (by omega) hp5).mono ?_
  rintro e w3 ⟨rfl, hb3⟩
  have hz3 := hb3.size
  have ht3 := ht2.below hb3 (by omega)
  have hB3 := bnext hB2 hb3
  go_wp2_with fail
  refine (i_countMatches (at5 p) ht3 (by omega) (by omega) HR.out).mono ?_
  rintro e w4 ⟨rfl, hb4⟩
  have hB4 := bnext hB3 hb4
  go_wp2
  go_ret
  exact ⟨by rw [HE.out, hoV_yes HOK.out HOK2.out HOP.out]; rfl, hB4⟩

/- Walks: what covering asks of its arguments; whether a suite has a pattern. -/
open Go.RowKit


set_option maxHeartbeats 400000 in
theorem i_isStrength {m : List Int} {a : Option Addr} {c : Nat} {w : World} {t : Int} (_hlm : m.length ≤ 9223372036854775807) :
    Calls Try.prog 139 #[.slice a m.length c, .int .i64 t] w (RO w (.bool (inR t 0 m.length))) := by
  by_cases h0 : 0 ≤ t
  · by_cases h1 : t ≤ (m.length : Int)
    · go_enter Try.func139, Try.ntmps139
      go_wp2
      go_ret
      exact RO.bool0 (by rw [inR_true.2 ⟨h0, h1⟩])
    · go_enter Try.func139, Try.ntmps139
      go_wp2
      go_ret
      exact RO.bool0 (by rw [inR_false.2 (by omega)])
  · go_enter Try.func139, Try.ntmps139
    go_wp2
    go_ret
    exact RO.bool0 (by rw [inR_false.2 (by omega)])

set_option maxHeartbeats 1000000 in
theorem i_canCover {m : List Int} {s : List (List Int)} {a a' : Option Addr} {c c' lo hi lo' hi' : Nat} {w : World} {t : Int} (hm : RI w lo hi a m) (hlm : m.length ≤ 9223372036854775807) (hs : RII w lo' hi' a' s) (hls : s.length ≤ 9223372036854775807) (hg : ∀ r ∈ s, r.length ≤ 9223372036854775807) :
    Calls Try.prog 149 #[.slice a m.length c, .slice a' s.length c', .int .i64 t] w (RO w (.bool (okC m s t))) := by
  have HG := Lib.hid hg; clear hg
  cases hos : (okM m && okS m s)
  · have HOS := Lib.hid hos; clear hos
    have HC : Hid (okC m s t = false) := by show _ = _; unfold okC; rw [HOS.out]; rfl
    go_enter Try.func149, Try.ntmps149
    go_wp2_with fail
    refine (i_ValidSuite hm hlm hs hls HG.out).mono ?_
    rintro e w1 ⟨rfl, hd⟩
    rw [HOS.out]
    go_wp2
    go_ret
    exact Dr.boolD (b := false) hd HC.out.symm
  · have HOS := Lib.hid hos; clear hos
    have HC : Hid (inR t 0 m.length = okC m s t) := by show _ = _; unfold okC; rw [HOS.out]; rfl
    go_enter Try.func149, Try.ntmps149
    go_wp2_with fail
    refine (i_ValidSuite hm hlm hs hls HG.out).mono ?_
    rintro e w1 ⟨rfl, hd⟩
    rw [HOS.out]
    go_wp2_with fail
    refine (i_isStrength hlm).mono ?_
    rintro e w2 ⟨rfl, hd2⟩
    go_wp2
    go_ret
    exact (Dr.trans hd hd2).boolD HC.out

set_option maxHeartbeats 1000000 in
theorem s_good {m : List Int} {s : List (List Int)} {a a' : Option Addr} {c c' lo hi lo' hi' : Nat} {w : World} {t : Int} (hm : RI w lo hi a m) (hlm : m.length ≤ 9223372036854775807) (hs : RII w lo' hi' a' s) (hls : s.length ≤ 9223372036854775807) (hg : ∀ r ∈ s, r.length ≤ 9223372036854775807) :
    Calls Try.prog 152 #[.slice a m.length c, .slice a' s.length c', .int .i64 t] w (RO w (.bool (okC m s t))) := by
  have HG := Lib.hid hg; clear hg
  cases hok : okM m
  · have HOK := Lib.hid hok; clear hok
    have HC : Hid (okC m s t = false) := by show _ = _; unfold okC; rw [HOK.out]; rfl
    go_enter Try.func152, Try.ntmps152
    go_wp2_with fail
    refine (s_validModel hm hlm).mono ?_
    rintro e w1 ⟨rfl, hd⟩
    rw [HOK.out]
    go_wp2
    go_ret
    exact Dr.boolD (b := false) hd HC.out.symm
  have HOK := Lib.hid hok; clear hok
  cases hos : okS m s
  · have HOS := Lib.hid hos; clear hos
    have HC : Hid (okC m s t = false) := by show _ = _; unfold okC; rw [HOS.out]; simp
    go_enter Try.func152, Try.ntmps152
    go_wp2_with fail
    refine (s_validModel hm hlm).mono ?_
    rintro e w1 ⟨rfl, hd⟩
    rw [HOK.out]
    go_wp2_with fail
    refine (s_validSuite (hm.dr hd) (hs.dr hd) HOK.out hls HG.out).mono ?_
    rintro e w2 ⟨rfl, hd2⟩
    rw [HOS.out]
    go_wp2
    go_ret
    exact (Dr.trans hd hd2).boolD (b := false) HC.out.symm
  have HOS := Lib.hid hos; clear hos
  have HC : Hid (inR t 0 m.length = okC m s t) := by show _ = _; unfold okC; rw [HOK.out, HOS.out]; rfl
  go_enter Try.func152, Try.ntmps152
  go_wp2_with fail
  refine (s_validModel hm hlm).mono ?_
  rintro e w1 ⟨rfl, hd⟩
  rw [HOK.out]
  go_wp2_with fail
  refine (s_validSuite (hm.dr hd) (hs.dr hd) HOK.out hls HG.out).mono ?_
  rintro e w2 ⟨rfl, hd2⟩
  rw [HOS.out]
  go_wp2_with fail
  refine (s_inRange _ _ _ _).mono ?_
  rintro e w3 ⟨rfl, hd3⟩
  go_wp2
  go_ret
  exact (Dr.trans (Dr.trans hd hd2) hd3).boolD HC.out


set_option maxHeartbeats 400000 in
theorem s_covers {t : List (List Int)} {p : List Int} {a a' : Option Addr} {c c' lo hi lo' hi' : Nat} {w : World} (ht : RII w lo' hi' a' t) (hp : RI w lo hi a p) (hl : t.length ≤ 4611686018427387904) (h5 : ∀ r ∈ t, p.length ≤ r.length ∧ r.length ≤ 9223372036854775807) :
    Calls Try.prog 154 #[.slice a' t.length c', .slice a p.length c] w (RO w (.bool (hasP t p))) := by
  have H5 := Lib.hid h5; clear h5
  go_enter Try.func154, Try.ntmps154
  go_wp2
  go_loopw [5] (fun i wr => ∃ k : Nat, k ≤ t.length ∧ i = .int .i64 k ∧ Hid ((t.take k).all (fun r => !mB p r) = true) ∧ Dr w wr) (fun i _ => t.length - (intOf i).toNat)
  case atStart => exact ⟨0, Nat.zero_le _, rfl, by simp [Hid], Dr.refl _⟩
  case round =>
    obtain ⟨k, hk, rfl, hA, hd⟩ := hrel
    by_cases hlt : k < t.length
    · obtain ⟨b, o, a1, c1, r, ha, _, _, hcell, hr, hx⟩ := (ht.dr hd).at hlt
      have hidx := idxII ha hlt c'
      have hr5 := H5.out r (List.mem_of_getElem? hx.out)
      have hpd := hp.dr hd
      clear ha ht hp
      cases hm : mB p r
      · have HM := Lib.hid hm; clear hm
        go_wp2_with fail
        refine (s_matches hpd hr hr5.1 hr5.2).mono ?_
        rintro e w1 ⟨rfl, hd1⟩
        rw [HM.out]
        go_wp2
        go_roundw
        case rel => exact ⟨k + 1, by omega, by go_num, all_snoc hx.out hA.out (by rw [HM.out]; rfl), Dr.trans hd hd1⟩
        case measure => simp [intOf]; omega
      · have HM := Lib.hid hm; clear hm
        go_wp2_with fail
        refine (s_matches hpd hr hr5.1 hr5.2).mono ?_
        rintro e w1 ⟨rfl, hd1⟩
        rw [HM.out]
        go_wp2
        go_ret
        exact (Dr.trans hd hd1).boolD (b := true) (hasP_yes hx.out HM.out).symm
    · go_wp2
      go_ret
      exact hd.boolD (hasP_no (by omega) hA.out).symm

end Go.Proofs.Ytehoagbpgahopaa
