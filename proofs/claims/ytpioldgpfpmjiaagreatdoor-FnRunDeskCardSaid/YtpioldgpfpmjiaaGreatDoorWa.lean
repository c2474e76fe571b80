/- Walks: the laws' helpers on slices of numbers; a model. -/
import Derived.Test.YtpioldgpfpmjiaaGreatDoorFacts
namespace Go.Proofs.YtpioldgpfpmjiaaGreatDoor
open Go.RowKit

set_option maxHeartbeats 400000 in
theorem s_inRange (n lo hi : Int) (w : World) :
    Calls Tryz.prog 52 #[.int .i64 n, .int .i64 lo, .int .i64 hi] w (RO w (.bool (inR n lo hi))) := by
  by_cases h1 : lo ≤ n
  · go_enter Tryz.func52, Tryz.ntmps52
    go_wp2
    go_ret
    exact RO.bool0 (by simp [inR, h1])
  · go_enter Tryz.func52, Tryz.ntmps52
    go_wp2
    go_ret
    exact RO.bool0 (inR_false.2 (by omega)).symm

set_option maxHeartbeats 400000 in
theorem s_validModel {m : List Int} {a : Option Addr} {c lo hi : Nat} {w : World} (hm : RI w lo hi a m) (hl : m.length ≤ 9223372036854775807) :
    Calls Tryz.prog 37 #[.slice a m.length c] w (RO w (.bool (okM m))) := by
  go_enter Tryz.func37, Tryz.ntmps37
  go_wp2
  go_loopw [3] (fun i wr => ∃ k n : Nat, k ≤ m.length ∧ i = .int .i64 k ∧ wr = w.drewN n ∧ Hid ((m.take k).all lvl = true)) (fun i _ => m.length - (intOf i).toNat)
  case atStart => exact ⟨0, 0, Nat.zero_le _, rfl, rfl, by simp [Hid]⟩
  case round =>
    obtain ⟨k, n, hk, rfl, rfl, hA⟩ := hrel
    by_cases hlt : k < m.length
    · obtain ⟨b, o, x, ha, _, _, hcell, hx⟩ := hm.at hlt
      have hidx := idxI ha hlt c
      clear ha hm
      cases hb : lvl x
      · have HB := Lib.hid hb; clear hb
        go_wp2_with fail
        refine (s_inRange _ _ _ _).mono ?_
        rintro e w' ⟨rfl, n1, rfl⟩
        have hc : inR x 1 3 = false := HB.out
        go_wp2
        go_ret
        exact RO.bool (okM_no_all (all_fails hx.out HB.out)).symm _
      · have HB := Lib.hid hb; clear hb
        go_wp2_with fail
        refine (s_inRange _ _ _ _).mono ?_
        rintro e w' ⟨rfl, n1, rfl⟩
        have hc : inR x 1 3 = true := HB.out
        go_wp2
        go_roundw
        case rel => exact ⟨k + 1, _, by omega, by go_num, rfl, all_snoc hx.out hA.out HB.out⟩
        case measure => simp [intOf]; omega
    · go_wp2_with fail
      refine (s_inRange _ _ _ _).mono ?_
      rintro e w' ⟨rfl, n1, rfl⟩
      go_wp2
      go_ret
      exact RO.bool (okM_end (all_whole hA.out (by omega))) _

set_option maxHeartbeats 400000 in
theorem i_ValidModel {m : List Int} {a : Option Addr} {c lo hi : Nat} {w : World} (hm : RI w lo hi a m) (hl : m.length ≤ 9223372036854775807) :
    Calls Tryz.prog 73 #[.slice a m.length c] w (RO w (.bool (okM m))) := by
  by_cases h1 : 1 ≤ m.length
  case neg =>
    go_enter Tryz.func73, Tryz.ntmps73
    go_wp2
    go_ret
    exact RO.bool0 (okM_no (by omega)).symm
  by_cases h5 : m.length ≤ 5
  case neg =>
    go_enter Tryz.func73, Tryz.ntmps73
    go_wp2
    go_ret
    exact RO.bool0 (okM_no (by omega)).symm
  go_enter Tryz.func73, Tryz.ntmps73
  go_wp2
  go_loop [15] (fun i => ∃ k : Nat, k ≤ m.length ∧ i = .int .i64 k ∧ Hid ((m.take k).all lvl = true)) (fun i => m.length - (intOf i).toNat)
  case atStart => exact ⟨0, Nat.zero_le _, rfl, by simp [Hid]⟩
  case round =>
    obtain ⟨k, hk, rfl, hA⟩ := hrel
    by_cases hlt : k < m.length
    · obtain ⟨b, o, x, ha, _, _, hcell, hx⟩ := hm.at hlt
      have hidx := idxI ha hlt c
      clear ha hm
      by_cases hx1 : 1 ≤ x
      · by_cases hx3 : x ≤ 3
        · go_wp2
          go_round
          case rel => exact ⟨k + 1, by omega, by go_num, all_snoc hx.out hA.out (inR_true.2 ⟨hx1, hx3⟩)⟩
          case measure => simp [intOf]; omega
        · go_wp2
          go_ret
          exact RO.bool0 (okM_no_all (all_fails hx.out (inR_false.2 (by omega)))).symm
      · go_wp2
        go_ret
        exact RO.bool0 (okM_no_all (all_fails hx.out (inR_false.2 (by omega)))).symm
    · go_wp2
      go_ret
      exact RO.bool0 (okM_mk h1 h5 (all_whole hA.out (by omega))).symm

/- Walks: the laws' helpers on slices of numbers. -/
open Go.RowKit

def eqI (x y : List Int) : Bool := x == y
theorem eqI_true {x y : List Int} : eqI x y = true ↔ x = y := by simp [eqI]
theorem eqI_no {x y : List Int} (h : x ≠ y) : eqI x y = false := by simp [eqI, h]

end Go.Proofs.YtpioldgpfpmjiaaGreatDoor
