/- Walks: bans of a model. -/
import Derived.Test.YtghhmgapjniplaaWc
import Derived.Test.YtghhmgapjniplaaZn
namespace Go.Proofs.Ytghhmgapjniplaa
open Go.RowKit

set_option maxHeartbeats 400000 in
theorem s_validBans {m : List Int} {t : List (List Int)} {a a' : Option Addr} {c c' lo hi lo' hi' : Nat} {w : World} (hm : RI w lo hi a m) (ht : RII w lo' hi' a' t) (hok : okM m = true) (hl : t.length ≤ 9223372036854775807) (hg : ∀ r ∈ t, r.length ≤ 9223372036854775807) :
    Calls Try.prog 162 #[.slice a m.length c, .slice a' t.length c'] w (RO w (.bool (okBn m t))) := by
  have HOK := Lib.hid hok; clear hok
  have HG := Lib.hid hg; clear hg
  go_enter Try.func162, Try.ntmps162
  go_wp2
  go_loopw [5] (fun i wr => ∃ k : Nat, k ≤ t.length ∧ i = .int .i64 k ∧ Dr w wr ∧ Hid ((t.take k).all (okP m) = true)) (fun i _ => t.length - (intOf i).toNat)
  case atStart => exact ⟨0, Nat.zero_le _, rfl, Dr.refl _, by simp [Hid]⟩
  case round =>
    obtain ⟨k, hk, rfl, hd, hA⟩ := hrel
    by_cases hlt : k < t.length
    · obtain ⟨b, o, a1, c1, r, ha, _, _, hcell, hr, hx⟩ := (ht.dr hd).at hlt
      have hidx := idxII ha hlt c'
      have hrl := HG.out r (List.mem_of_getElem? hx.out)
      have hmd := hm.dr hd
      clear ha hm ht
      cases hb : okP m r
      · have HB := Lib.hid hb; clear hb
        go_wp2_with fail
        refine (s_validPattern hmd hr HOK.out hrl).mono ?_
        rintro e w' ⟨rfl, n1, rfl⟩
        rw [HB.out]
        go_wp2
        go_ret
        exact (hd.drewN _).boolD (okBn_fails hx.out HB.out).symm
      · have HB := Lib.hid hb; clear hb
        go_wp2_with fail
        refine (s_validPattern hmd hr HOK.out hrl).mono ?_
        rintro e w' ⟨rfl, n1, rfl⟩
        rw [HB.out]
        go_wp2
        go_roundw
        case rel => exact ⟨k + 1, by omega, by go_num, hd.drewN _, all_snoc hx.out hA.out HB.out⟩
        case measure => simp [intOf]; omega
    · go_wp2
      go_ret
      exact hd.boolD (okBn_end (by omega) hA.out)

set_option maxHeartbeats 400000 in
theorem s_ValidBans {m : List Int} {t : List (List Int)} {a a' : Option Addr} {c c' lo hi lo' hi' : Nat} {w : World} (hm : RI w lo hi a m) (hlm : m.length ≤ 9223372036854775807) (ht : RII w lo' hi' a' t) (hl : t.length ≤ 9223372036854775807) (hg : ∀ r ∈ t, r.length ≤ 9223372036854775807) :
    Calls Try.prog 70 #[.slice a m.length c, .slice a' t.length c'] w (RO w (.bool (okM m && okBn m t))) := by
  have HG := Lib.hid hg; clear hg
  cases hok : okM m
  · have HOK := Lib.hid hok; clear hok
    go_enter Try.func70, Try.ntmps70
    go_wp2_with fail
    refine (s_validModel hm hlm).mono ?_
    rintro e w' ⟨rfl, n1, rfl⟩
    rw [HOK.out]
    go_wp2
    go_ret
    exact RO.drew _ _ _
  · have HOK := Lib.hid hok; clear hok
    go_enter Try.func70, Try.ntmps70
    go_wp2_with fail
    refine (s_validModel hm hlm).mono ?_
    rintro e w' ⟨rfl, hd⟩
    rw [HOK.out]
    go_wp2_with fail
    refine (s_validBans (hm.dr hd) (ht.dr hd) HOK.out hl HG.out).mono ?_
    rintro e w'' ⟨rfl, n2, rfl⟩
    go_wp2
    go_ret
    exact (Dr.drewN hd _).boolD (by rw [Bool.true_and])

set_option maxHeartbeats 400000 in
theorem i_ValidBans {m : List Int} {t : List (List Int)} {a a' : Option Addr} {c c' lo hi lo' hi' : Nat} {w : World} (hm : RI w lo hi a m) (hlm : m.length ≤ 9223372036854775807) (ht : RII w lo' hi' a' t) (hl : t.length ≤ 9223372036854775807) (hg : ∀ r ∈ t, r.length ≤ 9223372036854775807) :
    Calls Try.prog 69 #[.slice a m.length c, .slice a' t.length c'] w (RO w (.bool (okM m && okBn m t))) := by
  have HG := Lib.hid hg; clear hg
  cases hok : okM m
  · have HOK := Lib.hid hok; clear hok
    go_enter Try.func69, Try.ntmps69
    go_wp2_with fail
    refine (i_ValidModel hm hlm).mono ?_
    rintro e w' ⟨rfl, n1, rfl⟩
    rw [HOK.out]
    go_wp2
    go_ret
    exact RO.drew _ _ _
  have HOK := Lib.hid hok; clear hok
  by_cases h5 : t.length ≤ 5
  case neg =>
    go_enter Try.func69, Try.ntmps69
    go_wp2_with fail
    refine (i_ValidModel hm hlm).mono ?_
    rintro e w' ⟨rfl, n1, rfl⟩
    rw [HOK.out]
    go_wp2
    go_ret
    exact RO.bool (by rw [okBn_no (by omega)]; rfl) _
  go_enter Try.func69, Try.ntmps69
  go_wp2_with fail
  refine (i_ValidModel hm hlm).mono ?_
  rintro e w0 ⟨rfl, hd0⟩
  rw [HOK.out]
  have hd0 : Dr w w0 := hd0
  go_wp2
  go_loopw [17] (fun i wr => ∃ k : Nat, k ≤ t.length ∧ i = .int .i64 k ∧ Dr w wr ∧ Hid ((t.take k).all (okP m) = true)) (fun i _ => t.length - (intOf i).toNat)
  case atStart => exact ⟨0, Nat.zero_le _, rfl, hd0, by simp [Hid]⟩
  case round =>
    obtain ⟨k, hk, rfl, hd, hA⟩ := hrel
    by_cases hlt : k < t.length
    · obtain ⟨b, o, a1, c1, r, ha, _, _, hcell, hr, hx⟩ := (ht.dr hd).at hlt
      have hidx := idxII ha hlt c'
      have hrl := HG.out r (List.mem_of_getElem? hx.out)
      have hmd := hm.dr hd
      clear ha hm ht
      cases hb : okP m r
      · have HB := Lib.hid hb; clear hb
        go_wp2_with fail
        refine (i_ValidPattern hmd hlm hr hrl).mono ?_
        rintro e w' ⟨rfl, n1, rfl⟩
        rw [HB.out, Bool.and_false]
        go_wp2
        go_ret
        exact (hd.drewN _).boolD (by rw [okBn_fails hx.out HB.out]; rfl)
      · have HB := Lib.hid hb; clear hb
        go_wp2_with fail
        refine (i_ValidPattern hmd hlm hr hrl).mono ?_
        rintro e w' ⟨rfl, n1, rfl⟩
        rw [HB.out, HOK.out, Bool.and_true]
        go_wp2
        go_roundw
        case rel => exact ⟨k + 1, by omega, by go_num, hd.drewN _, all_snoc hx.out hA.out HB.out⟩
        case measure => simp [intOf]; omega
    · go_wp2
      go_ret
      refine hd.boolD ?_
      rw [← okBn_end (show t.length ≤ k by omega) hA.out]; simp; omega

end Go.Proofs.Ytghhmgapjniplaa
