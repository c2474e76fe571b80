/- Walks: HowOften. -/
import Derived.Test.YtpioldgpfpmjiaaGreatDoorWh
import Derived.Test.YtpioldgpfpmjiaaGreatDoorMath
namespace Go.Proofs.YtpioldgpfpmjiaaGreatDoor
open Go.RowKit

/-- how many tests of a suite match a pattern; -1 where there is no such thing -/
def hoV (m : List Int) (t : List (List Int)) (p : List Int) : Int := if okM m && okS m t && okP m p then (t.countP fun r => mB p r : Nat) else -1
theorem hoV_yes {m p : List Int} {t : List (List Int)} (h : okM m = true) (h' : okS m t = true) (h'' : okP m p = true) : hoV m t p = (t.countP fun r => mB p r : Nat) := by unfold hoV; rw [h, h', h'']; rfl
theorem hoV_no {m p : List Int} {t : List (List Int)} (h : okM m = false ∨ okS m t = false ∨ okP m p = false) : hoV m t p = -1 := by
  unfold hoV
  rcases h with h | h | h <;> rw [h] <;> simp

/- Walks: what covering asks of its arguments; whether a suite has a pattern. -/
open Go.RowKit


set_option maxHeartbeats 400000 in
theorem i_isStrength {m : List Int} {a : Option Addr} {c : Nat} {w : World} {t : Int} (_hlm : m.length ≤ 9223372036854775807) :
    Calls Tryz.prog 62 #[.slice a m.length c, .int .i64 t] w (RO w (.bool (inR t 0 m.length))) := by
  by_cases h0 : 0 ≤ t
  · by_cases h1 : t ≤ (m.length : Int)
    · go_enter Tryz.func62, Tryz.ntmps62
      go_wp2
      go_ret
      exact RO.bool0 (by rw [inR_true.2 ⟨h0, h1⟩])
    · go_enter Tryz.func62, Tryz.ntmps62
      go_wp2
      go_ret
      exact RO.bool0 (by rw [inR_false.2 (by omega)])
  · go_enter Tryz.func62, Tryz.ntmps62
    go_wp2
    go_ret
    exact RO.bool0 (by rw [inR_false.2 (by omega)])

set_option maxHeartbeats 1000000 in
theorem i_canCover {m : List Int} {s : List (List Int)} {a a' : Option Addr} {c c' lo hi lo' hi' : Nat} {w : World} {t : Int} (hm : RI w lo hi a m) (hlm : m.length ≤ 9223372036854775807) (hs : RII w lo' hi' a' s) (hls : s.length ≤ 9223372036854775807) (hg : ∀ r ∈ s, r.length ≤ 9223372036854775807) :
    Calls Tryz.prog 80 #[.slice a m.length c, .slice a' s.length c', .int .i64 t] w (RO w (.bool (okC m s t))) := by
  have HG := Lib.hid hg; clear hg
  cases hos : (okM m && okS m s)
  · have HOS := Lib.hid hos; clear hos
    have HC : Hid (okC m s t = false) := by show _ = _; unfold okC; rw [HOS.out]; rfl
    go_enter Tryz.func80, Tryz.ntmps80
    go_wp2_with fail
    refine (i_ValidSuite hm hlm hs hls HG.out).mono ?_
    rintro e w1 ⟨rfl, hd⟩
    rw [HOS.out]
    go_wp2
    go_ret
    exact Dr.boolD (b := false) hd HC.out.symm
  · have HOS := Lib.hid hos; clear hos
    have HC : Hid (inR t 0 m.length = okC m s t) := by show _ = _; unfold okC; rw [HOS.out]; rfl
    go_enter Tryz.func80, Tryz.ntmps80
    go_wp2_with fail
    refine (i_ValidSuite hm hlm hs hls HG.out).mono ?_
    rintro e w1 ⟨rfl, hd⟩
    rw [HOS.out]
    go_wp2_with fail
    refine (i_isStrength hlm).mono ?_
    rintro e w2 ⟨rfl, hd2⟩
    go_wp2
    go_ret
    exact (Dr.trans hd hd2).boolD HC.out

set_option maxHeartbeats 1000000 in
theorem s_good {m : List Int} {s : List (List Int)} {a a' : Option Addr} {c c' lo hi lo' hi' : Nat} {w : World} {t : Int} (hm : RI w lo hi a m) (hlm : m.length ≤ 9223372036854775807) (hs : RII w lo' hi' a' s) (hls : s.length ≤ 9223372036854775807) (hg : ∀ r ∈ s, r.length ≤ 9223372036854775807) :
    Calls Tryz.prog 42 #[.slice a m.length c, .slice a' s.length c', .int .i64 t] w (RO w (.bool (okC m s t))) := by
  have HG := Lib.hid hg; clear hg
  cases hok : okM m
  · have HOK := Lib.hid hok; clear hok
    have HC : Hid (okC m s t = false) := by show _ = _; unfold okC; rw [HOK.out]; rfl
    go_enter Tryz.func42, Tryz.ntmps42
    go_wp2_with fail
    refine (s_validModel hm hlm).mono ?_
    rintro e w1 ⟨rfl, hd⟩
    rw [HOK.out]
    go_wp2
    go_ret
    exact Dr.boolD (b := false) hd HC.out.symm
  have HOK := Lib.hid hok; clear hok
  cases hos : okS m s
  · have HOS := Lib.hid hos; clear hos
    have HC : Hid (okC m s t = false) := by show _ = _; unfold okC; rw [HOS.out]; simp
    go_enter Tryz.func42, Tryz.ntmps42
    go_wp2_with fail
    refine (s_validModel hm hlm).mono ?_
    rintro e w1 ⟨rfl, hd⟩
    rw [HOK.out]
    go_wp2_with fail
    refine (s_validSuite (hm.dr hd) (hs.dr hd) HOK.out hls HG.out).mono ?_
    rintro e w2 ⟨rfl, hd2⟩
    rw [HOS.out]
    go_wp2
    go_ret
    exact (Dr.trans hd hd2).boolD (b := false) HC.out.symm
  have HOS := Lib.hid hos; clear hos
  have HC : Hid (inR t 0 m.length = okC m s t) := by show _ = _; unfold okC; rw [HOK.out, HOS.out]; rfl
  go_enter Tryz.func42, Tryz.ntmps42
  go_wp2_with fail
  refine (s_validModel hm hlm).mono ?_
  rintro e w1 ⟨rfl, hd⟩
  rw [HOK.out]
  go_wp2_with fail
  refine (s_validSuite (hm.dr hd) (hs.dr hd) HOK.out hls HG.out).mono ?_
  rintro e w2 ⟨rfl, hd2⟩
  rw [HOS.out]
  go_wp2_with fail
  refine (s_inRange _ _ _ _).mono ?_
  rintro e w3 ⟨rfl, hd3⟩
  go_wp2
  go_ret
  exact (Dr.trans (Dr.trans hd hd2) hd3).boolD HC.out


set_option maxHeartbeats 400000 in
theorem s_covers {t : List (List Int)} {p : List Int} {a a' : Option Addr} {c c' lo hi lo' hi' : Nat} {w : World} (ht : RII w lo' hi' a' t) (hp : RI w lo hi a p) (hl : t.length ≤ 4611686018427387904) (h5 : ∀ r ∈ t, p.length ≤ r.length ∧ r.length ≤ 9223372036854775807) :
    Calls Tryz.prog 56 #[.slice a' t.length c', .slice a p.length c] w (RO w (.bool (hasP t p))) := by
  have H5 := Lib.hid h5; clear h5
  go_enter Tryz.func56, Tryz.ntmps56
  go_wp2
  go_loopw [5] (fun i wr => ∃ k : Nat, k ≤ t.length ∧ i = .int .i64 k ∧ Hid ((t.take k).all (fun r => !mB p r) = true) ∧ Dr w wr) (fun i _ => t.length - (intOf i).toNat)
  case atStart => exact ⟨0, Nat.zero_le _, rfl, by simp [Hid], Dr.refl _⟩
  case round =>
    obtain ⟨k, hk, rfl, hA, hd⟩ := hrel
    by_cases hlt : k < t.length
    · obtain ⟨b, o, a1, c1, r, ha, _, _, hcell, hr, hx⟩ := (ht.dr hd).at hlt
      have hidx := idxII ha hlt c'
      have hr5 := H5.out r (List.mem_of_getElem? hx.out)
      have hpd := hp.dr hd
      clear ha ht hp
      cases hm : mB p r
      · have HM := Lib.hid hm; clear hm
        go_wp2_with fail
        refine (s_matches hpd hr hr5.1 hr5.2).mono ?_
        rintro e w1 ⟨rfl, hd1⟩
        rw [HM.out]
        go_wp2
        go_roundw
        case rel => exact ⟨k + 1, by omega, by go_num, all_snoc hx.out hA.out (by rw [HM.out]; rfl), Dr.trans hd hd1⟩
        case measure => simp [intOf]; omega
      · have HM := Lib.hid hm; clear hm
        go_wp2_with fail
        refine (s_matches hpd hr hr5.1 hr5.2).mono ?_
        rintro e w1 ⟨rfl, hd1⟩
        rw [HM.out]
        go_wp2
        go_ret
        exact (Dr.trans hd hd1).boolD (b := true) (hasP_yes hx.out HM.out).symm
    · go_wp2
      go_ret
      exact hd.boolD (hasP_no (by omega) hA.out).symm

end Go.Proofs.YtpioldgpfpmjiaaGreatDoor
