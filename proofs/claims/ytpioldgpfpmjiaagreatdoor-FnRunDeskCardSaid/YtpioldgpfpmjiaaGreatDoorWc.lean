/- Walks: a test, a pattern of a model. -/
import Derived.Test.YtpioldgpfpmjiaaGreatDoorWa
namespace Go.Proofs.YtpioldgpfpmjiaaGreatDoor
open Go.RowKit

theorem wrap_pred {y : Int} (h : 1 ≤ y) (h' : y ≤ 3) : IntKind.i64.wrap (y - 1) = y - 1 := IntWalk.i64_in _ (by omega)

set_option maxHeartbeats 400000 in
theorem s_validTest {m t : List Int} {a a' : Option Addr} {c c' lo hi lo' hi' : Nat} {w : World} (hm : RI w lo hi a m) (ht : RI w lo' hi' a' t) (hok : okM m = true) (hl : t.length ≤ 9223372036854775807) :
    Calls Tryz.prog 55 #[.slice a m.length c, .slice a' t.length c'] w (RO w (.bool (okT m t))) := by
  have hm5 := okM_len hok
  have HOK := Lib.hid hok; clear hok
  go_enter Tryz.func55, Tryz.ntmps55
  go_wp2
  go_loopw [5] (fun i wr => ∃ k : Nat, k ≤ t.length ∧ k ≤ m.length ∧ i = .int .i64 k ∧ Dr w wr ∧ Hid (((t.zip m).take k).all (fun p => inR p.1 0 (p.2 - 1)) = true)) (fun i _ => t.length - (intOf i).toNat)
  case atStart => exact ⟨0, Nat.zero_le _, Nat.zero_le _, rfl, Dr.refl _, by simp [Hid]⟩
  case round =>
    obtain ⟨k, hk, hk', rfl, hd, hA⟩ := hrel
    by_cases hlt : k < t.length
    · by_cases hlt' : k < m.length
      · obtain ⟨b, o, x, ha, _, _, hcell, hx⟩ := (ht.dr hd).at hlt
        obtain ⟨b2, o2, y, ha2, _, _, hcell2, hy⟩ := (hm.dr hd).at hlt'
        have hidx := idxI ha hlt c'
        have hidx2 := idxI ha2 hlt' c
        have hy3 := okM_at HOK.out hy.out
        have hwr := wrap_pred hy3.1 hy3.2
        clear ha ha2 hm ht
        cases hb : inR x 0 (y - 1)
        · have HB := Lib.hid hb
          go_wp2_with fail
          go_quiet ((go_at_call 52; exact RO.quiet (s_inRange _ _ _ _)))
          clear hwr
          go_wp2
          go_ret
          exact (hd.drewN _).boolD (b := false) (okW_fails hx.out hy.out HB.out).symm
        · have HB := Lib.hid hb
          go_wp2_with fail
          go_quiet ((go_at_call 52; exact RO.quiet (s_inRange _ _ _ _)))
          clear hwr
          go_wp2
          go_roundw
          case rel => exact ⟨k + 1, by omega, by omega, by go_num, hd.drewN _, okW_step hx.out hy.out hA.out HB.out⟩
          case measure => simp [intOf]; omega
      · go_wp2
        go_ret
        exact hd.boolD (okW_end (.inr (by omega)) hA.out)
    · go_wp2
      go_ret
      exact hd.boolD (okW_end (.inl (by omega)) hA.out)

set_option maxHeartbeats 400000 in
theorem i_allWithin {m t : List Int} {a a' : Option Addr} {c c' lo hi lo' hi' : Nat} {w : World} (least : Int) (hm : RI w lo hi a m) (ht : RI w lo' hi' a' t) (_hlm : m.length ≤ 9223372036854775807) (hl : t.length ≤ 9223372036854775807) :
    Calls Tryz.prog 108 #[.slice a m.length c, .slice a' t.length c', .int .i64 least] w (RO w (.bool (okW least m t))) := by
  by_cases hlen : t.length = m.length
  case neg =>
    have h1 : ((t.length : Int) != (m.length : Int)) = true := by rw [bne_iff_ne]; omega
    go_enter Tryz.func108, Tryz.ntmps108
    go_wp2
    go_ret
    exact RO.bool0 (okW_no_len hlen).symm
  have h1 : ((t.length : Int) != (m.length : Int)) = false := by rw [bne_eq_false_iff_eq]; omega
  have HL : Hid (t.length = m.length) := hlen
  have hle : t.length ≤ m.length := by omega
  clear hlen
  go_enter Tryz.func108, Tryz.ntmps108
  go_wp2
  go_loop [16] (fun i => ∃ k : Nat, k ≤ t.length ∧ i = .int .i64 k ∧ Hid (((t.zip m).take k).all (fun p => inR p.1 least (p.2 - 1)) = true)) (fun i => t.length - (intOf i).toNat)
  case atStart => exact ⟨0, Nat.zero_le _, rfl, by simp [Hid]⟩
  case round =>
    obtain ⟨k, hk, rfl, hA⟩ := hrel
    by_cases hlt : k < t.length
    · obtain ⟨b, o, x, ha, _, _, hcell, hx⟩ := ht.at hlt
      obtain ⟨b2, o2, y, ha2, _, _, hcell2, hy⟩ := hm.at (show k < m.length by omega)
      have hidx := idxI ha hlt c'
      have hidx2 := idxI ha2 (show k < m.length by omega) c
      clear ha ha2 hm ht
      by_cases hx1 : least ≤ x
      · by_cases hx3 : x < y
        · go_wp2
          go_round
          case rel => exact ⟨k + 1, by omega, by go_num, okW_step hx.out hy.out hA.out (inR_true.2 ⟨hx1, by omega⟩)⟩
          case measure => simp [intOf]; omega
        · go_wp2
          go_ret
          exact RO.bool0 (okW_fails hx.out hy.out (inR_false.2 (by omega))).symm
      · go_wp2
        go_ret
        exact RO.bool0 (okW_fails hx.out hy.out (inR_false.2 (by omega))).symm
    · go_wp2
      go_ret
      refine RO.bool0 ?_
      rw [← okW_end (.inl (by omega)) hA.out, HL.out]; simp

set_option maxHeartbeats 400000 in
theorem i_ValidTest {m t : List Int} {a a' : Option Addr} {c c' lo hi lo' hi' : Nat} {w : World} (hm : RI w lo hi a m) (hlm : m.length ≤ 9223372036854775807) (ht : RI w lo' hi' a' t) (hl : t.length ≤ 9223372036854775807) :
    Calls Tryz.prog 91 #[.slice a m.length c, .slice a' t.length c'] w (RO w (.bool (okM m && okT m t))) := by
  cases hok : okM m
  · have HOK := Lib.hid hok; clear hok
    go_enter Tryz.func91, Tryz.ntmps91
    go_wp2_with fail
    refine (i_ValidModel hm hlm).mono ?_
    rintro e w' ⟨rfl, n1, rfl⟩
    have h := HOK.out
    go_wp2
    go_ret
    exact RO.drew _ _ _
  · have HOK := Lib.hid hok; clear hok
    go_enter Tryz.func91, Tryz.ntmps91
    go_wp2_with fail
    refine (i_ValidModel hm hlm).mono ?_
    rintro e w' ⟨rfl, hd⟩
    have h := HOK.out
    go_wp2_with fail
    refine (i_allWithin (0) (hm.dr hd) (ht.dr hd) hlm hl).mono ?_
    rintro e w'' ⟨rfl, n2, rfl⟩
    go_wp2
    go_ret
    exact (Dr.drewN hd _).boolD (by rw [Bool.true_and]; rfl)

set_option maxHeartbeats 400000 in
theorem i_ValidPattern {m t : List Int} {a a' : Option Addr} {c c' lo hi lo' hi' : Nat} {w : World} (hm : RI w lo hi a m) (hlm : m.length ≤ 9223372036854775807) (ht : RI w lo' hi' a' t) (hl : t.length ≤ 9223372036854775807) :
    Calls Tryz.prog 105 #[.slice a m.length c, .slice a' t.length c'] w (RO w (.bool (okM m && okP m t))) := by
  cases hok : okM m
  · have HOK := Lib.hid hok; clear hok
    go_enter Tryz.func105, Tryz.ntmps105
    go_wp2_with fail
    refine (i_ValidModel hm hlm).mono ?_
    rintro e w' ⟨rfl, n1, rfl⟩
    have h := HOK.out
    go_wp2
    go_ret
    exact RO.drew _ _ _
  · have HOK := Lib.hid hok; clear hok
    go_enter Tryz.func105, Tryz.ntmps105
    go_wp2_with fail
    refine (i_ValidModel hm hlm).mono ?_
    rintro e w' ⟨rfl, hd⟩
    have h := HOK.out
    go_wp2_with fail
    refine (i_allWithin (-1) (hm.dr hd) (ht.dr hd) hlm hl).mono ?_
    rintro e w'' ⟨rfl, n2, rfl⟩
    go_wp2
    go_ret
    exact (Dr.drewN hd _).boolD (by rw [Bool.true_and]; rfl)

/- Walks: the laws' helpers on slices of slices; a suite. -/
open Go.RowKit

set_option maxHeartbeats 400000 in
theorem s_validSuite {m : List Int} {t : List (List Int)} {a a' : Option Addr} {c c' lo hi lo' hi' : Nat} {w : World} (hm : RI w lo hi a m) (ht : RII w lo' hi' a' t) (hok : okM m = true) (hl : t.length ≤ 9223372036854775807) (hg : ∀ r ∈ t, r.length ≤ 9223372036854775807) :
    Calls Tryz.prog 41 #[.slice a m.length c, .slice a' t.length c'] w (RO w (.bool (okS m t))) := by
  have HOK := Lib.hid hok; clear hok
  have HG := Lib.hid hg; clear hg
  go_enter Tryz.func41, Tryz.ntmps41
  go_wp2
  go_loopw [5] (fun i wr => ∃ k : Nat, k ≤ t.length ∧ i = .int .i64 k ∧ Dr w wr ∧ Hid ((t.take k).all (okT m) = true)) (fun i _ => t.length - (intOf i).toNat)
  case atStart => exact ⟨0, Nat.zero_le _, rfl, Dr.refl _, by simp [Hid]⟩
  case round =>
    obtain ⟨k, hk, rfl, hd, hA⟩ := hrel
    by_cases hlt : k < t.length
    · obtain ⟨b, o, a1, c1, r, ha, _, _, hcell, hr, hx⟩ := (ht.dr hd).at hlt
      have hidx := idxII ha hlt c'
      have hrl := HG.out r (List.mem_of_getElem? hx.out)
      have hmd := hm.dr hd
      clear ha hm ht
      cases hb : okT m r
      · have HB := Lib.hid hb; clear hb
        go_wp2_with fail
        refine (s_validTest hmd hr HOK.out hrl).mono ?_
        rintro e w' ⟨rfl, n1, rfl⟩
        rw [HB.out]
        go_wp2
        go_ret
        exact (hd.drewN _).boolD (okS_fails hx.out HB.out).symm
      · have HB := Lib.hid hb; clear hb
        go_wp2_with fail
        refine (s_validTest hmd hr HOK.out hrl).mono ?_
        rintro e w' ⟨rfl, n1, rfl⟩
        rw [HB.out]
        go_wp2
        go_roundw
        case rel => exact ⟨k + 1, by omega, by go_num, hd.drewN _, all_snoc hx.out hA.out HB.out⟩
        case measure => simp [intOf]; omega
    · go_wp2
      go_ret
      exact hd.boolD (okS_end (by omega) hA.out)

set_option maxHeartbeats 400000 in
theorem i_ValidSuite {m : List Int} {t : List (List Int)} {a a' : Option Addr} {c c' lo hi lo' hi' : Nat} {w : World} (hm : RI w lo hi a m) (hlm : m.length ≤ 9223372036854775807) (ht : RII w lo' hi' a' t) (hl : t.length ≤ 9223372036854775807) (hg : ∀ r ∈ t, r.length ≤ 9223372036854775807) :
    Calls Tryz.prog 75 #[.slice a m.length c, .slice a' t.length c'] w (RO w (.bool (okM m && okS m t))) := by
  have HG := Lib.hid hg; clear hg
  cases hok : okM m
  · have HOK := Lib.hid hok; clear hok
    go_enter Tryz.func75, Tryz.ntmps75
    go_wp2_with fail
    refine (i_ValidModel hm hlm).mono ?_
    rintro e w' ⟨rfl, n1, rfl⟩
    rw [HOK.out]
    go_wp2
    go_ret
    exact RO.drew _ _ _
  have HOK := Lib.hid hok; clear hok
  by_cases h20 : t.length ≤ 20
  case neg =>
    go_enter Tryz.func75, Tryz.ntmps75
    go_wp2_with fail
    refine (i_ValidModel hm hlm).mono ?_
    rintro e w' ⟨rfl, n1, rfl⟩
    rw [HOK.out]
    go_wp2
    go_ret
    exact RO.bool (by rw [okS_no (by omega)]; rfl) _
  go_enter Tryz.func75, Tryz.ntmps75
  go_wp2_with fail
  refine (i_ValidModel hm hlm).mono ?_
  rintro e w0 ⟨rfl, hd0⟩
  rw [HOK.out]
  have hd0 : Dr w w0 := hd0
  go_wp2
  go_loopw [17] (fun i wr => ∃ k : Nat, k ≤ t.length ∧ i = .int .i64 k ∧ Dr w wr ∧ Hid ((t.take k).all (okT m) = true)) (fun i _ => t.length - (intOf i).toNat)
  case atStart => exact ⟨0, Nat.zero_le _, rfl, hd0, by simp [Hid]⟩
  case round =>
    obtain ⟨k, hk, rfl, hd, hA⟩ := hrel
    by_cases hlt : k < t.length
    · obtain ⟨b, o, a1, c1, r, ha, _, _, hcell, hr, hx⟩ := (ht.dr hd).at hlt
      have hidx := idxII ha hlt c'
      have hrl := HG.out r (List.mem_of_getElem? hx.out)
      have hmd := hm.dr hd
      clear ha hm ht
      cases hb : okT m r
      · have HB := Lib.hid hb; clear hb
        go_wp2_with fail
        refine (i_ValidTest hmd hlm hr hrl).mono ?_
        rintro e w' ⟨rfl, n1, rfl⟩
        rw [HB.out, Bool.and_false]
        go_wp2
        go_ret
        exact (hd.drewN _).boolD (by rw [okS_fails hx.out HB.out]; rfl)
      · have HB := Lib.hid hb; clear hb
        go_wp2_with fail
        refine (i_ValidTest hmd hlm hr hrl).mono ?_
        rintro e w' ⟨rfl, n1, rfl⟩
        rw [HB.out, HOK.out, Bool.and_true]
        go_wp2
        go_roundw
        case rel => exact ⟨k + 1, by omega, by go_num, hd.drewN _, all_snoc hx.out hA.out HB.out⟩
        case measure => simp [intOf]; omega
    · go_wp2
      go_ret
      refine hd.boolD ?_
      rw [← okS_end (show t.length ≤ k by omega) hA.out]; simp; omega

end Go.Proofs.YtpioldgpfpmjiaaGreatDoor
