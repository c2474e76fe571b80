/- Walks: a test, a pattern of a model. -/
import Derived.Test.YteoiclkipfdgpaaWa
namespace Go.Proofs.Yteoiclkipfdgpaa
open Go.RowKit

theorem wrap_pred {y : Int} (h : 1 ≤ y) (h' : y ≤ 3) : IntKind.i64.wrap (y - 1) = y - 1 := IntWalk.i64_in _ (by omega)

set_option maxHeartbeats 400000 in
theorem s_validTest {m t : List Int} {a a' : Option Addr} {c c' lo hi lo' hi' : Nat} {w : World} (hm : RI w lo hi a m) (ht : RI w lo' hi' a' t) (hok : okM m = true) (hl : t.length ≤ 9223372036854775807) :
    Calls Try.prog 52 #[.slice a m.length c, .slice a' t.length c'] w (RO w (.bool (okT m t))) := by
  have hm5 := okM_len hok
  have HOK := Lib.hid hok; clear hok
  go_enter Try.func52, Try.ntmps52
  go_wp2
  go_loopw [5] (fun i wr => ∃ k : Nat, k ≤ t.length ∧ k ≤ m.length ∧ i = .int .i64 k ∧ Dr w wr ∧ Hid (((t.zip m).take k).all (fun p => inR p.1 0 (p.2 - 1)) = true)) (fun i _ => t.length - (intOf i).toNat)
  case atStart => exact ⟨0, Nat.zero_le _, Nat.zero_le _, rfl, Dr.refl _, by simp [Hid]⟩
  case round =>
    obtain ⟨k, hk, hk', rfl, hd, hA⟩ := hrel
    by_cases hlt : k < t.length
    · by_cases hlt' : k < m.length
      · obtain ⟨b, o, x, ha, _, _, hcell, hx⟩ := (ht.dr hd).at hlt
        obtain ⟨b2, o2, y, ha2, _, _, hcell2, hy⟩ := (hm.dr hd).at hlt'
        have hidx := idxI ha hlt c'
        have hidx2 := idxI ha2 hlt' c
        have hy3 := okM_at HOK.out hy.out
        have hwr := wrap_pred hy3.1 hy3.2
        clear ha ha2 hm ht
        cases hb : inR x 0 (y - 1)
        · have HB := Lib.hid hb
          go_wp2_with fail
          go_quiet ((go_at_call 22; exact RO.quiet (s_inRange _ _ _ _)))
          clear hwr
          go_wp2
          go_ret
          exact (hd.drewN _).boolD (b := false) (okW_fails hx.out hy.out HB.out).symm
        · have HB := Lib.hid hb
          go_wp2_with fail
          go_quiet ((go_at_call 22; exact RO.quiet (s_inRange _ _ _ _)))
          clear hwr
          go_wp2
          go_roundw
          case rel => exact ⟨k + 1, by omega, by omega, by go_num, hd.drewN _, okW_step hx.out hy.out hA.out HB.out⟩
          case measure => simp [intOf]; omega
      · go_wp2
        go_ret
        exact hd.boolD (okW_end (.inr (by omega)) hA.out)
    · go_wp2
      go_ret
      exact hd.boolD (okW_end (.inl (by omega)) hA.out)

set_option maxHeartbeats 400000 in
theorem i_allWithin {m t : List Int} {a a' : Option Addr} {c c' lo hi lo' hi' : Nat} {w : World} (least : Int) (hm : RI w lo hi a m) (ht : RI w lo' hi' a' t) (_hlm : m.length ≤ 9223372036854775807) (hl : t.length ≤ 9223372036854775807) :
    Calls Try.prog 72 #[.slice a m.length c, .slice a' t.length c', .int .i64 least] w (RO w (.bool (okW least m t))) := by
  by_cases hlen : t.length = m.length
  case neg =>
    have h1 : ((t.length : Int) != (m.length : Int)) = true := by rw [bne_iff_ne]; omega
    go_enter Try.func72, Try.ntmps72
    go_wp2
    go_ret
    exact RO.bool0 (okW_no_len hlen).symm
  have h1 : ((t.length : Int) != (m.length : Int)) = false := by rw [bne_eq_false_iff_eq]; omega
  have HL : Hid (t.length = m.length) := hlen
  have hle : t.length ≤ m.length := by omega
  clear hlen
  go_enter Try.func72, Try.ntmps72
  go_wp2
  go_loop [16] (fun i => ∃ k : Nat, k ≤ t.length ∧ i = .int .i64 k ∧ Hid (((t.zip m).take k).all (fun p => inR p.1 least (p.2 - 1)) = true)) (fun i => t.length - (intOf i).toNat)
  case atStart => exact ⟨0, Nat.zero_le _, rfl, by simp [Hid]⟩
  case round =>
    obtain ⟨k, hk, rfl, hA⟩ := hrel
    by_cases hlt : k < t.length
    · obtain ⟨b, o, x, ha, _, _, hcell, hx⟩ := ht.at hlt
      obtain ⟨b2, o2, y, ha2, _, _, hcell2, hy⟩ := hm.at (show k < m.length by omega)
      have hidx := idxI ha hlt c'
      have hidx2 := idxI ha2 (show k < m.length by omega) c
      clear ha ha2 hm ht
      by_cases hx1 : least ≤ x
      · by_cases hx3 : x < y
        · go_wp2
          go_round
          case rel => exact ⟨k + 1, by omega, by go_num, okW_step hx.out hy.out hA.out (inR_true.2 ⟨hx1, by omega⟩)⟩
          case measure => simp [intOf]; omega
        · go_wp2
          go_ret
          exact RO.bool0 (okW_fails hx.out hy.out (inR_false.2 (by omega))).symm
      · go_wp2
        go_ret
        exact RO.bool0 (okW_fails hx.out hy.out (inR_false.2 (by omega))).symm
    · go_wp2
      go_ret
      refine RO.bool0 ?_
      rw [← okW_end (.inl (by omega)) hA.out, HL.out]; simp

set_option maxHeartbeats 400000 in
theorem i_ValidTest {m t : List Int} {a a' : Option Addr} {c c' lo hi lo' hi' : Nat} {w : World} (hm : RI w lo hi a m) (hlm : m.length ≤ 9223372036854775807) (ht : RI w lo' hi' a' t) (hl : t.length ≤ 9223372036854775807) :
    Calls Try.prog 59 #[.slice a m.length c, .slice a' t.length c'] w (RO w (.bool (okM m && okT m t))) := by
  cases hok : okM m
  · have HOK := Lib.hid hok; clear hok
    go_enter Try.func59, Try.ntmps59
    go_wp2_with fail
    refine (i_ValidModel hm hlm).mono ?_
    rintro e w' ⟨rfl, n1, rfl⟩
    have h := HOK.out
    go_wp2
    go_ret
    exact RO.drew _ _ _
  · have HOK := Lib.hid hok; clear hok
    go_enter Try.func59, Try.ntmps59
    go_wp2_with fail
    refine (i_ValidModel hm hlm).mono ?_
    rintro e w' ⟨rfl, hd⟩
    have h := HOK.out
    go_wp2_with fail
    refine (i_allWithin (0) (hm.dr hd) (ht.dr hd) hlm hl).mono ?_
    rintro e w'' ⟨rfl, n2, rfl⟩
    go_wp2
    go_ret
    exact (Dr.drewN hd _).boolD (by rw [Bool.true_and]; rfl)

/- Walks: the laws' helpers on slices of slices; a suite. -/
open Go.RowKit

set_option maxHeartbeats 400000 in
theorem l_szIntS {m : List Int} {a : Option Addr} {c : Nat} {w : World} {left : Int} (hl : m.length ≤ 9223372036854775807) (h0 : 0 ≤ left) (h1 : left ≤ 4611686018427387904) :
    Calls Try.prog 19 #[.slice a m.length c, .int .i64 left] w (RO w (.int .i64 (szI m left))) := by
  by_cases h : left - m.length < 0
  · go_enter Try.func19, Try.ntmps19
    go_wp2
    go_ret
    exact RO.int0 (by unfold szI; rw [if_pos h])
  · go_enter Try.func19, Try.ntmps19
    go_wp2
    go_ret
    exact RO.int0 (by unfold szI; rw [if_neg (by omega)])

set_option maxHeartbeats 400000 in
theorem l_szIntSS {m : List (List Int)} {a : Option Addr} {c lo hi : Nat} {w : World} {left : Int} (hm : RII w lo hi a m) (hl : m.length ≤ 9223372036854775807) (hg : ∀ r ∈ m, r.length ≤ 9223372036854775807) (h0 : 0 ≤ left) (h1 : left ≤ 4611686018427387904) :
    Calls Try.prog 5 #[.slice a m.length c, .int .i64 left] w (RO w (.int .i64 (szII m left))) := by
  by_cases h : left - m.length < 0
  case pos =>
    go_enter Try.func5, Try.ntmps5
    go_wp2
    go_ret
    exact RO.int0 (szII_start h).symm
  have HG := Lib.hid hg; clear hg
  go_enter Try.func5, Try.ntmps5
  go_wp2
  go_loopw [1, 5] (fun v i wr => ∃ (k : Nat) (q : Int), k ≤ m.length ∧ i = .int .i64 k ∧ v = .int .i64 q ∧ 0 ≤ q ∧ q ≤ left ∧ Hid (q = left - m.length - sumL (m.take k)) ∧ Dr w wr) (fun _ i _ => m.length - (intOf i).toNat)
  case atStart => exact ⟨0, _, Nat.zero_le _, rfl, rfl, by omega, by omega, by simp [Hid, sumL], Dr.refl _⟩
  case round =>
    obtain ⟨k, q, hk, rfl, rfl, hq0, hq1, hq, hd⟩ := hrel
    by_cases hlt : k < m.length
    · obtain ⟨b, o, a', c', r, ha, _, _, hcell, hr, hx⟩ := (hm.dr hd).at hlt
      have hidx := idxII ha hlt c
      have hrl := HG.out r (List.mem_of_getElem? hx.out)
      clear ha hm
      by_cases hneg : q - r.length < 0
      · have HS : Hid (szI r q = -1) := by show _ = _; unfold szI; rw [if_pos hneg]
        go_wp2_with fail
        refine (l_szIntS hrl hq0 (by omega)).mono ?_
        rintro e w' ⟨rfl, n1, rfl⟩
        rw [HS.out]
        go_wp2
        go_ret
        exact (hd.drewN _).intD (b := -1) (szII_fails hx.out (by have := hq.out; omega)).symm
      · have HS : Hid (szI r q = q - r.length) := by show _ = _; unfold szI; rw [if_neg hneg]
        have HQ : Hid (q - r.length = left - m.length - sumL (m.take (k + 1))) := by
          show _ = _; rw [sumL_snoc hx.out]; have := hq.out; omega
        go_wp2_with fail
        refine (l_szIntS hrl hq0 (by omega)).mono ?_
        rintro e w' ⟨rfl, n1, rfl⟩
        rw [HS.out]
        go_wp2
        go_roundw
        case rel => exact ⟨k + 1, _, by omega, by go_num, rfl, by omega, by omega, HQ, hd.drewN _⟩
        case measure => simp [intOf]; omega
    · go_wp2
      go_ret
      exact hd.intD (by rw [szII_end (k := k) (by omega) (by have := hq.out; omega)]; exact hq.out)

set_option maxHeartbeats 400000 in
theorem l_toIntSS {m : List (List Int)} {a : Option Addr} {c lo hi : Nat} {w : World} (hm : RII w lo hi a m) (hB : hi ≤ w.heap.size) (hl : m.length ≤ 1048576) (hg : ∀ r ∈ m, r.length ≤ 1048576) :
    Calls Try.prog 8 #[.slice a m.length c] w (NewII w m) := by
  have hmk := run_make_row' (P := Try.prog) 23 22 (.slice none 0 0) 24 undII infoI rfl .i64 .i64 m.length (by omega) (by omega)
  have hS := Fill.start w m.length 22 m rfl
  have HG := Lib.hid hg; clear hg
  go_enter Try.func8, Try.ntmps8
  go_wp2
  go_loopw [4] (fun i wr => ∃ k : Nat, k ≤ m.length ∧ i = .int .i64 k ∧ Fill w wr 22 m k ∧ Below w.heap.size w wr) (fun i _ => m.length - (intOf i).toNat)
  case atStart => exact ⟨0, Nat.zero_le _, rfl, hS, (Below.refl _ _).alloc (Nat.le_refl _) _⟩
  case round =>
    obtain ⟨k, hk, rfl, hF, hBl⟩ := hrel
    by_cases hlt : k < m.length
    · obtain ⟨b, o, a', c', r, ha, _, _, hcell, hr, hx⟩ := (hm.below hBl hB).at hlt
      have hidx := idxII ha hlt c
      have hidx2 := idxII (a := some ⟨w.heap.size, 0, none⟩) rfl hlt m.length
      simp only [Nat.zero_add] at hidx2
      have hrl := HG.out r (List.mem_of_getElem? hx.out)
      have hBs := hBl.size
      clear ha hm hS
      go_wp2_with fail
      refine (l_toIntS hr (by omega) (by omega) (by omega)).mono ?_
      rintro e w1 ⟨a1, c1, rfl, hn, hb1⟩
      have hF1 := hF.below hb1
      have hfr := hF1.frozen k
      obtain ⟨v, hcl⟩ := hF1.cell hlt
      have hF2 := hF.step (c := c1) hx.out hn hb1
      have hBl2 := (bnext hBl hb1).setCell (p := ⟨w.heap.size, k, none⟩) (Nat.le_refl _) (.slice a1 r.length c1)
      clear hF hF1 hb1 hn hBl
      go_wp2
      go_roundw
      case rel => exact ⟨k + 1, by omega, by go_num, hF2, hBl2⟩
      case measure => simp [intOf]; omega
    · go_wp2
      go_ret
      exact ⟨_, _, rfl, ⟨hF.oii (by omega), Nat.le_refl _⟩, hBl⟩

set_option maxHeartbeats 400000 in
theorem l_eqIntSS {x y : List (List Int)} {a b : Option Addr} {c d lo hi lo' hi' : Nat} {w : World} (hx : RII w lo hi a x) (hy : RII w lo' hi' b y) (_hl : x.length ≤ 4611686018427387904) (hl' : y.length ≤ 4611686018427387904)
    (hg : ∀ r ∈ x, r.length ≤ 4611686018427387904) (hg' : ∀ r ∈ y, r.length ≤ 4611686018427387904) :
    Calls Try.prog 10 #[.slice a x.length c, .slice b y.length d] w (RO w (.bool (eqII x y))) := by
  by_cases hlen : x.length = y.length
  case neg =>
    have h1 : ((x.length : Int) != (y.length : Int)) = true := by rw [bne_iff_ne]; omega
    go_enter Try.func10, Try.ntmps10
    go_wp2
    go_ret
    exact RO.bool0 (eqII_no (by intro h; rw [h] at hlen; exact hlen rfl)).symm
  obtain ⟨n, hn⟩ : ∃ n, y.length = n := ⟨_, rfl⟩
  have HN : Hid (y.length = n) := hn
  have HM : Hid (x.length = n) := hlen.trans hn
  have HG := Lib.hid hg
  have HG' := Lib.hid hg'
  rw [hlen, hn]
  rw [hn] at hl'
  clear _hl hlen hn hg hg'
  go_enter Try.func10, Try.ntmps10
  go_wp2
  go_loopw [5] (fun i wr => ∃ k : Nat, k ≤ n ∧ i = .int .i64 k ∧ Dr w wr ∧ Hid (x.take k = y.take k)) (fun i _ => n - (intOf i).toNat)
  case atStart => exact ⟨0, Nat.zero_le _, rfl, Dr.refl _, rfl⟩
  case round =>
    obtain ⟨k, hk, rfl, hd, hA⟩ := hrel
    by_cases hlt : k < n
    · obtain ⟨b1, o1, a1, c1, u, ha, _, _, hcell, hru, hu⟩ := (hx.dr hd).at (show k < x.length by rw [HM.out]; exact hlt)
      obtain ⟨b2, o2, a2, c2, v, hb, _, _, hcell2, hrv, hv⟩ := (hy.dr hd).at (show k < y.length by rw [HN.out]; exact hlt)
      have hidx := idxII ha hlt c
      have hidx2 := idxII hb hlt d
      have hul := HG.out u (List.mem_of_getElem? hu.out)
      have hvl := HG'.out v (List.mem_of_getElem? hv.out)
      clear ha hb hx hy
      cases huv : eqI u v
      · have HE := Lib.hid huv
        go_wp2
        go_quiet ((go_at_call 11; exact RO.quiet (l_eqIntS (hru.drewN _) (hrv.drewN _) hul hvl)))
        go_wp2
        go_ret
        refine (hd.drewN _).boolD (b := false) (eqII_no ?_).symm
        intro h
        have h1 := hu.out
        rw [h, hv.out] at h1
        cases h1
        have := HE.out
        rw [eqI_true.2 rfl] at this
        cases this
      · have HE := Lib.hid huv
        have HA2 : Hid (x.take (k + 1) = y.take (k + 1)) := by
          show x.take (k + 1) = y.take (k + 1)
          rw [take_snoc hu.out, take_snoc hv.out, hA.out, eqI_true.1 HE.out]
        go_wp2
        go_quiet ((go_at_call 11; exact RO.quiet (l_eqIntS (hru.drewN _) (hrv.drewN _) hul hvl)))
        go_wp2
        go_roundw
        case rel => exact ⟨k + 1, by omega, by go_num, hd.drewN _, HA2⟩
        case measure => simp [intOf]; omega
    · go_wp2
      go_ret
      refine hd.boolD (eqII_true.2 ?_).symm
      have h := hA.out
      rwa [List.take_of_length_le (by rw [HM.out]; omega), List.take_of_length_le (by rw [HN.out]; omega)] at h

set_option maxHeartbeats 400000 in
theorem s_validSuite {m : List Int} {t : List (List Int)} {a a' : Option Addr} {c c' lo hi lo' hi' : Nat} {w : World} (hm : RI w lo hi a m) (ht : RII w lo' hi' a' t) (hok : okM m = true) (hl : t.length ≤ 9223372036854775807) (hg : ∀ r ∈ t, r.length ≤ 9223372036854775807) :
    Calls Try.prog 21 #[.slice a m.length c, .slice a' t.length c'] w (RO w (.bool (okS m t))) := by
  have HOK := Lib.hid hok; clear hok
  have HG := Lib.hid hg; clear hg
  go_enter Try.func21, Try.ntmps21
  go_wp2
  go_loopw [5] (fun i wr => ∃ k : Nat, k ≤ t.length ∧ i = .int .i64 k ∧ Dr w wr ∧ Hid ((t.take k).all (okT m) = true)) (fun i _ => t.length - (intOf i).toNat)
  case atStart => exact ⟨0, Nat.zero_le _, rfl, Dr.refl _, by simp [Hid]⟩
  case round =>
    obtain ⟨k, hk, rfl, hd, hA⟩ := hrel
    by_cases hlt : k < t.length
    · obtain ⟨b, o, a1, c1, r, ha, _, _, hcell, hr, hx⟩ := (ht.dr hd).at hlt
      have hidx := idxII ha hlt c'
      have hrl := HG.out r (List.mem_of_getElem? hx.out)
      have hmd := hm.dr hd
      clear ha hm ht
      cases hb : okT m r
      · have HB := Lib.hid hb; clear hb
        go_wp2_with fail
        refine (s_validTest hmd hr HOK.out hrl).mono ?_
        rintro e w' ⟨rfl, n1, rfl⟩
        rw [HB.out]
        go_wp2
        go_ret
        exact (hd.drewN _).boolD (okS_fails hx.out HB.out).symm
      · have HB := Lib.hid hb; clear hb
        go_wp2_with fail
        refine (s_validTest hmd hr HOK.out hrl).mono ?_
        rintro e w' ⟨rfl, n1, rfl⟩
        rw [HB.out]
        go_wp2
        go_roundw
        case rel => exact ⟨k + 1, by omega, by go_num, hd.drewN _, all_snoc hx.out hA.out HB.out⟩
        case measure => simp [intOf]; omega
    · go_wp2
      go_ret
      exact hd.boolD (okS_end (by omega) hA.out)

set_option maxHeartbeats 400000 in
theorem i_ValidSuite {m : List Int} {t : List (List Int)} {a a' : Option Addr} {c c' lo hi lo' hi' : Nat} {w : World} (hm : RI w lo hi a m) (hlm : m.length ≤ 9223372036854775807) (ht : RII w lo' hi' a' t) (hl : t.length ≤ 9223372036854775807) (hg : ∀ r ∈ t, r.length ≤ 9223372036854775807) :
    Calls Try.prog 28 #[.slice a m.length c, .slice a' t.length c'] w (RO w (.bool (okM m && okS m t))) := by
  have HG := Lib.hid hg; clear hg
  cases hok : okM m
  · have HOK := Lib.hid hok; clear hok
    go_enter Try.func28, Try.ntmps28
    go_wp2_with fail
    refine (i_ValidModel hm hlm).mono ?_
    rintro e w' ⟨rfl, n1, rfl⟩
    rw [HOK.out]
    go_wp2
    go_ret
    exact RO.drew _ _ _
  have HOK := Lib.hid hok; clear hok
  by_cases h20 : t.length ≤ 20
  case neg =>
    go_enter Try.func28, Try.ntmps28
    go_wp2_with fail
    refine (i_ValidModel hm hlm).mono ?_
    rintro e w' ⟨rfl, n1, rfl⟩
    rw [HOK.out]
    go_wp2
    go_ret
    exact RO.bool (by rw [okS_no (by omega)]; rfl) _
  go_enter Try.func28, Try.ntmps28
  go_wp2_with fail
  refine (i_ValidModel hm hlm).mono ?_
  rintro e w0 ⟨rfl, hd0⟩
  rw [HOK.out]
  have hd0 : Dr w w0 := hd0
  go_wp2
  go_loopw [17] (fun i wr => ∃ k : Nat, k ≤ t.length ∧ i = .int .i64 k ∧ Dr w wr ∧ Hid ((t.take k).all (okT m) = true)) (fun i _ => t.length - (intOf i).toNat)
  case atStart => exact ⟨0, Nat.zero_le _, rfl, hd0, by simp [Hid]⟩
  case round =>
    obtain ⟨k, hk, rfl, hd, hA⟩ := hrel
    by_cases hlt : k < t.length
    · obtain ⟨b, o, a1, c1, r, ha, _, _, hcell, hr, hx⟩ := (ht.dr hd).at hlt
      have hidx := idxII ha hlt c'
      have hrl := HG.out r (List.mem_of_getElem? hx.out)
      have hmd := hm.dr hd
      clear ha hm ht
      cases hb : okT m r
      · have HB := Lib.hid hb; clear hb
        go_wp2_with fail
        refine (i_ValidTest hmd hlm hr hrl).mono ?_
        rintro e w' ⟨rfl, n1, rfl⟩
        rw [HB.out, Bool.and_false]
        go_wp2
        go_ret
        exact (hd.drewN _).boolD (by rw [okS_fails hx.out HB.out]; rfl)
      · have HB := Lib.hid hb; clear hb
        go_wp2_with fail
        refine (i_ValidTest hmd hlm hr hrl).mono ?_
        rintro e w' ⟨rfl, n1, rfl⟩
        rw [HB.out, HOK.out, Bool.and_true]
        go_wp2
        go_roundw
        case rel => exact ⟨k + 1, by omega, by go_num, hd.drewN _, all_snoc hx.out hA.out HB.out⟩
        case measure => simp [intOf]; omega
    · go_wp2
      go_ret
      refine hd.boolD ?_
      rw [← okS_end (show t.length ≤ k by omega) hA.out]; simp; omega

end Go.Proofs.Yteoiclkipfdgpaa
