/- Walks: the strength of a pattern; a test that matches a pattern; patterns as arrays. -/
import Derived.Test.YtehoagbpgahopaaWc
import Derived.Laws.CopyOwn
namespace Go.Proofs.Ytehoagbpgahopaa
open Go.RowKit

set_option maxHeartbeats 400000 in
theorem s_strength {m : List Int} {a : Option Addr} {c lo hi : Nat} {w : World} (hm : RI w lo hi a m) (hl : m.length ≤ 4611686018427387904) :
    Calls Try.prog 218 #[.slice a m.length c] w (RO w (.int .i64 (strN m))) := by
  go_enter Try.func218, Try.ntmps218
  go_wp2
  go_loop [3, 4] (fun v i => ∃ (k q : Nat), k ≤ m.length ∧ i = .int .i64 k ∧ v = .int .i64 q ∧ q ≤ k ∧ Hid (q = strN (m.take k))) (fun _ i => m.length - (intOf i).toNat)
  case atStart => exact ⟨0, 0, Nat.zero_le _, rfl, rfl, Nat.le_refl _, by simp [Hid, strN]⟩
  case round =>
    obtain ⟨k, q, hk, rfl, rfl, hqk, hq⟩ := hrel
    by_cases hlt : k < m.length
    · obtain ⟨b, o, x, ha, _, _, hcell, hx⟩ := hm.at hlt
      have hidx := idxI ha hlt c
      have hs := strN_snoc hx.out
      clear ha hm
      cases hc : (x != -1)
      · have HS : Hid (q = strN (m.take (k + 1))) := by show _ = _; rw [hs, hc, ← hq.out]; simp
        clear hs
        go_wp2
        go_round
        case rel => exact ⟨k + 1, q, by omega, by go_num, rfl, by omega, HS⟩
        case measure => simp [intOf]; omega
      · have HS : Hid (q + 1 = strN (m.take (k + 1))) := by show _ = _; rw [hs, hc, ← hq.out]; simp
        clear hs
        go_wp2
        go_round
        case rel => exact ⟨k + 1, q + 1, by omega, by go_num, by go_num, by omega, HS⟩
        case measure => simp [intOf]; omega
    · go_wp2
      go_ret
      refine RO.int0 ?_
      have h := hq.out
      rw [List.take_of_length_le (by omega)] at h
      rw [h]

set_option maxHeartbeats 400000 in
theorem i_StrengthOf {m t : List Int} {a a' : Option Addr} {c c' lo hi lo' hi' : Nat} {w : World} (hm : RI w lo hi a m) (hlm : m.length ≤ 9223372036854775807) (ht : RI w lo' hi' a' t) (hl : t.length ≤ 9223372036854775807) :
    Calls Try.prog 99 #[.slice a m.length c, .slice a' t.length c'] w (RO w (.int .i64 (strV m t))) := by
  cases hok : (okM m && okP m t)
  · have HOK := Lib.hid hok; clear hok
    go_enter Try.func99, Try.ntmps99
    go_wp2_with fail
    refine (i_ValidPattern hm hlm ht hl).mono ?_
    rintro e w' ⟨rfl, n1, rfl⟩
    rw [HOK.out]
    go_wp2
    go_ret
    exact RO.int (strV_no' HOK.out).symm _
  have h2 : okM m = true ∧ okP m t = true := by simpa using hok
  have hlt := okW_len h2.2
  have hm5 := okM_len h2.1
  have hl5 : t.length ≤ 5 := by omega
  have HOK := Lib.hid hok
  have HV : Hid (strV m t = strN t) := strV_yes h2.1 h2.2
  clear hok hlt h2
  go_enter Try.func99, Try.ntmps99
  go_wp2_with fail
  refine (i_ValidPattern hm hlm ht hl).mono ?_
  rintro e w0 ⟨rfl, hd0⟩
  have hd0 : Dr w w0 := hd0
  have ht0 := ht.dr hd0
  rw [HOK.out]
  go_wp2
  go_loop [5, 14] (fun v i => ∃ (k q : Nat), k ≤ t.length ∧ i = .int .i64 k ∧ v = .int .i64 q ∧ q ≤ k ∧ Hid (q = strN (t.take k))) (fun _ i => t.length - (intOf i).toNat)
  case atStart => exact ⟨0, 0, Nat.zero_le _, rfl, rfl, Nat.le_refl _, by simp [Hid, strN]⟩
  case round =>
    obtain ⟨k, q, hk, rfl, rfl, hqk, hq⟩ := hrel
    by_cases hlt : k < t.length
    · obtain ⟨b, o, x, ha, _, _, hcell, hx⟩ := ht0.at hlt
      have hidx := idxI ha hlt c'
      have hs := strN_snoc hx.out
      clear ha hm ht ht0
      cases hc : (x != -1)
      · have HS : Hid (q = strN (t.take (k + 1))) := by show _ = _; rw [hs, hc, ← hq.out]; simp
        clear hs
        go_wp2
        go_round
        case rel => exact ⟨k + 1, q, by omega, by go_num, rfl, by omega, HS⟩
        case measure => simp [intOf]; omega
      · have HS : Hid (q + 1 = strN (t.take (k + 1))) := by show _ = _; rw [hs, hc, ← hq.out]; simp
        clear hs
        go_wp2
        go_round
        case rel => exact ⟨k + 1, q + 1, by omega, by go_num, by go_num, by omega, HS⟩
        case measure => simp [intOf]; omega
    · go_wp2
      go_ret
      refine hd0.intD ?_
      have h := hq.out
      rw [List.take_of_length_le (by omega)] at h
      rw [h, HV.out]

set_option maxHeartbeats 400000 in
theorem s_matches {p t : List Int} {a a' : Option Addr} {c c' lo hi lo' hi' : Nat} {w : World} (hp : RI w lo hi a p) (ht : RI w lo' hi' a' t) (hl : p.length ≤ t.length) (hl' : t.length ≤ 9223372036854775807) :
    Calls Try.prog 219 #[.slice a p.length c, .slice a' t.length c'] w (RO w (.bool (mB p t))) := by
  go_enter Try.func219, Try.ntmps219
  go_wp2
  go_loopw [5] (fun i wr => ∃ k : Nat, k ≤ p.length ∧ i = .int .i64 k ∧ Dr w wr ∧ Hid (((p.zip t).take k).all (fun q => q.1 == -1 || q.1 == q.2) = true)) (fun i _ => p.length - (intOf i).toNat)
  case atStart => exact ⟨0, Nat.zero_le _, rfl, Dr.refl _, by simp [Hid]⟩
  case round =>
    obtain ⟨k, hk, rfl, hd, hA⟩ := hrel
    by_cases hlt : k < p.length
    · obtain ⟨b, o, x, ha, _, _, hcell, hx⟩ := (hp.dr hd).at hlt
      obtain ⟨b2, o2, y, ha2, _, _, hcell2, hy⟩ := (ht.dr hd).at (show k < t.length by omega)
      have hidx := idxI ha hlt c
      have hidx2 := idxI ha2 (show k < t.length by omega) c'
      clear ha ha2 hp ht
      by_cases hx1 : x = -1
      · have HX := Lib.hid hx1
        have hc : (x != -1) = false := by rw [hx1]; rfl
        clear hx1
        go_wp2_with fail
        go_quiet (fail)
        go_wp2
        go_roundw
        case rel => exact ⟨k + 1, by omega, by go_num, hd.drewN _, mB_step hx.out hy.out hA.out (.inl HX.out)⟩
        case measure => simp [intOf]; omega
      · have HX := Lib.hid hx1
        have hc : (x != -1) = true := by rw [bne_iff_ne]; exact hx1
        clear hx1
        by_cases hxy : x = y
        · have HXY := Lib.hid hxy
          have hc2 : (x != y) = false := by rw [hxy]; exact bne_self_eq_false y
          clear hxy
          go_wp2_with fail
          go_quiet (fail)
          go_wp2
          go_roundw
          case rel => exact ⟨k + 1, by omega, by go_num, hd.drewN _, mB_step hx.out hy.out hA.out (.inr HXY.out)⟩
          case measure => simp [intOf]; omega
        · have HXY := Lib.hid hxy
          have hc2 : (x != y) = true := by rw [bne_iff_ne]; exact hxy
          clear hxy
          go_wp2_with fail
          go_quiet (fail)
          go_wp2
          go_ret
          exact (hd.drewN _).boolD (b := false) (mB_fails hx.out hy.out HX.out HXY.out).symm
    · go_wp2
      go_ret
      exact hd.boolD (mB_end (by omega) hA.out).symm

end Go.Proofs.Ytehoagbpgahopaa
