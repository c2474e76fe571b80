/- Walks: the laws' helpers on slices of numbers; a model. -/
import Derived.Test.YtpioldgpfpmjiaaDoorFacts
namespace Go.Proofs.YtpioldgpfpmjiaaDoor
open Go.RowKit

set_option maxHeartbeats 400000 in
theorem s_inRange (n lo hi : Int) (w : World) :
    Calls Tryd.prog 44 #[.int .i64 n, .int .i64 lo, .int .i64 hi] w (RO w (.bool (inR n lo hi))) := by
  by_cases h1 : lo ≤ n
  · go_enter Tryd.func44, Tryd.ntmps44
    go_wp2
    go_ret
    exact RO.bool0 (by simp [inR, h1])
  · go_enter Tryd.func44, Tryd.ntmps44
    go_wp2
    go_ret
    exact RO.bool0 (inR_false.2 (by omega)).symm

set_option maxHeartbeats 400000 in
theorem s_validModel {m : List Int} {a : Option Addr} {c lo hi : Nat} {w : World} (hm : RI w lo hi a m) (hl : m.length ≤ 9223372036854775807) :
    Calls Tryd.prog 23 #[.slice a m.length c] w (RO w (.bool (okM m))) := by
  go_enter Tryd.func23, Tryd.ntmps23
  go_wp2
  go_loopw [3] (fun i wr => ∃ k n : Nat, k ≤ m.length ∧ i = .int .i64 k ∧ wr = w.drewN n ∧ Hid ((m.take k).all lvl = true)) (fun i _ => m.length - (intOf i).toNat)
  case atStart => exact ⟨0, 0, Nat.zero_le _, rfl, rfl, by simp [Hid]⟩
  case round =>
    obtain ⟨k, n, hk, rfl, rfl, hA⟩ := hrel
    by_cases hlt : k < m.length
    · obtain ⟨b, o, x, ha, _, _, hcell, hx⟩ := hm.at hlt
      have hidx := idxI ha hlt c
      clear ha hm
      cases hb : lvl x
      · have HB := Lib.hid hb; clear hb
        go_wp2_with fail
        refine (s_inRange _ _ _ _).mono ?_
        rintro e w' ⟨rfl, n1, rfl⟩
        have hc : inR x 1 3 = false := HB.out
        go_wp2
        go_ret
        exact RO.bool (okM_no_all (all_fails hx.out HB.out)).symm _
      · have HB := Lib.hid hb; clear hb
        go_wp2_with fail
        refine (s_inRange _ _ _ _).mono ?_
        rintro e w' ⟨rfl, n1, rfl⟩
        have hc : inR x 1 3 = true := HB.out
        go_wp2
        go_roundw
        case rel => exact ⟨k + 1, _, by omega, by go_num, rfl, all_snoc hx.out hA.out HB.out⟩
        case measure => simp [intOf]; omega
    · go_wp2_with fail
      refine (s_inRange _ _ _ _).mono ?_
      rintro e w' ⟨rfl, n1, rfl⟩
      go_wp2
      go_ret
      exact RO.bool (okM_end (all_whole hA.out (by omega))) _

set_option maxHeartbeats 400000 in
theorem i_ValidModel {m : List Int} {a : Option Addr} {c lo hi : Nat} {w : World} (hm : RI w lo hi a m) (hl : m.length ≤ 9223372036854775807) :
    Calls Tryd.prog 26 #[.slice a m.length c] w (RO w (.bool (okM m))) := by
  by_cases h1 : 1 ≤ m.length
  case neg =>
    go_enter Tryd.func26, Tryd.ntmps26
    go_wp2
    go_ret
    exact RO.bool0 (okM_no (by omega)).symm
  by_cases h5 : m.length ≤ 5
  case neg =>
    go_enter Tryd.func26, Tryd.ntmps26
    go_wp2
    go_ret
    exact RO.bool0 (okM_no (by omega)).symm
  go_enter Tryd.func26, Tryd.ntmps26
  go_wp2
  go_loop [15] (fun i => ∃ k : Nat, k ≤ m.length ∧ i = .int .i64 k ∧ Hid ((m.take k).all lvl = true)) (fun i => m.length - (intOf i).toNat)
  case atStart => exact ⟨0, Nat.zero_le _, rfl, by simp [Hid]⟩
  case round =>
    obtain ⟨k, hk, rfl, hA⟩ := hrel
    by_cases hlt : k < m.length
    · obtain ⟨b, o, x, ha, _, _, hcell, hx⟩ := hm.at hlt
      have hidx := idxI ha hlt c
      clear ha hm
      by_cases hx1 : 1 ≤ x
      · by_cases hx3 : x ≤ 3
        · go_wp2
          go_round
          case rel => exact ⟨k + 1, by omega, by go_num, all_snoc hx.out hA.out (inR_true.2 ⟨hx1, hx3⟩)⟩
          case measure => simp [intOf]; omega
        · go_wp2
          go_ret
          exact RO.bool0 (okM_no_all (all_fails hx.out (inR_false.2 (by omega)))).symm
      · go_wp2
        go_ret
        exact RO.bool0 (okM_no_all (all_fails hx.out (inR_false.2 (by omega)))).symm
    · go_wp2
      go_ret
      exact RO.bool0 (okM_mk h1 h5 (all_whole hA.out (by omega))).symm

/- Walks: the laws' helpers on slices of numbers. -/
open Go.RowKit

set_option maxHeartbeats 400000 in
theorem l_toIntS {m : List Int} {a : Option Addr} {c lo hi : Nat} {w : World} (hm : RI w lo hi a m) (hB : hi ≤ w.heap.size) (hl : m.length ≤ 4611686018427387904) (hby : 8 * m.length ≤ 281474976710656) :
    Calls Tryd.prog 13 #[.slice a m.length c] w (NewI w m) := by
  have hmk := run_make_row' (P := Tryd.prog) 23 3 (.int .i64 0) 8 undI infoInt rfl .i64 .i64 m.length hby (by omega)
  have hS := row_start w m.length 3 m rfl
  go_enter Tryd.func13, Tryd.ntmps13
  go_wp2
  go_loopw [4] (fun i wr => ∃ k : Nat, k ≤ m.length ∧ i = .int .i64 k ∧ wr.rowIs w.heap.size 3 m.length (fun i => .int .i64 (if i < k then m.getD i 0 else 0)) ∧ Below w.heap.size w wr) (fun i _ => m.length - (intOf i).toNat)
  case atStart => exact ⟨0, Nat.zero_le _, rfl, hS, (Below.refl _ _).alloc (Nat.le_refl _) _⟩
  case round =>
    obtain ⟨k, hk, rfl, hR, hBl⟩ := hrel
    by_cases hlt : k < m.length
    · obtain ⟨b, o, x, ha, _, _, hcell, hx⟩ := (hm.below hBl hB).at hlt
      have hidx := idxI ha hlt c
      have hidx2 := idxI (a := some ⟨w.heap.size, 0, none⟩) rfl hlt m.length
      simp only [Nat.zero_add] at hidx2
      have hfr := hR.frozen k
      have hcl := hR.cell hlt
      have hR2 := row_step hR hx.out
      have hBl2 := hBl.setCell (p := ⟨w.heap.size, k, none⟩) (Nat.le_refl _) (.int .i64 x)
      clear ha hm hR hBl hS
      go_wp2
      go_roundw
      case rel => exact ⟨k + 1, by omega, by go_num, hR2, hBl2⟩
      case measure => simp [intOf]; omega
    · have hR2 := row_end hR (by omega)
      clear hR
      go_wp2
      go_ret
      exact NewI.of_row (Nat.le_refl _) hR2 hBl

def eqI (x y : List Int) : Bool := x == y
theorem eqI_true {x y : List Int} : eqI x y = true ↔ x = y := by simp [eqI]
theorem eqI_no {x y : List Int} (h : x ≠ y) : eqI x y = false := by simp [eqI, h]

set_option maxHeartbeats 400000 in
theorem l_eqIntS {x y : List Int} {a b : Option Addr} {c d lo hi lo' hi' : Nat} {w : World} (hx : RI w lo hi a x) (hy : RI w lo' hi' b y) (_hl : x.length ≤ 4611686018427387904) (hl' : y.length ≤ 4611686018427387904) :
    Calls Tryd.prog 15 #[.slice a x.length c, .slice b y.length d] w (RO w (.bool (eqI x y))) := by
  by_cases hlen : x.length = y.length
  case neg =>
    have h1 : ((x.length : Int) != (y.length : Int)) = true := by rw [bne_iff_ne]; omega
    go_enter Tryd.func15, Tryd.ntmps15
    go_wp2
    go_ret
    exact RO.bool0 (eqI_no (by intro h; rw [h] at hlen; exact hlen rfl)).symm
  obtain ⟨n, hn⟩ : ∃ n, y.length = n := ⟨_, rfl⟩
  have HN : Hid (y.length = n) := hn
  have HM : Hid (x.length = n) := hlen.trans hn
  rw [hlen, hn]
  rw [hn] at hl'
  clear _hl hlen hn
  go_enter Tryd.func15, Tryd.ntmps15
  go_wp2
  go_loopw [5] (fun i wr => ∃ k q : Nat, k ≤ n ∧ i = .int .i64 k ∧ wr = w.drewN q ∧ Hid (x.take k = y.take k)) (fun i _ => n - (intOf i).toNat)
  case atStart => exact ⟨0, 0, Nat.zero_le _, rfl, rfl, rfl⟩
  case round =>
    obtain ⟨k, q, hk, rfl, rfl, hA⟩ := hrel
    by_cases hlt : k < n
    · obtain ⟨b1, o1, u, ha, _, _, hcell, hu⟩ := hx.at (show k < x.length by rw [HM.out]; exact hlt)
      obtain ⟨b2, o2, v, hb, _, _, hcell2, hv⟩ := hy.at (show k < y.length by rw [HN.out]; exact hlt)
      have hidx := idxI ha hlt c
      have hidx2 := idxI hb hlt d
      clear ha hb hx hy
      by_cases huv : u = v
      · subst huv
        have HA2 : Hid (x.take (k + 1) = y.take (k + 1)) := by
          show x.take (k + 1) = y.take (k + 1)
          rw [take_snoc hu.out, take_snoc hv.out, hA.out]
        have hne : (u != u) = false := by simp
        go_wp2
        go_quiet (fail)
        go_wp2
        go_roundw
        case rel => exact ⟨k + 1, _, by omega, by go_num, rfl, HA2⟩
        case measure => simp [intOf]; omega
      · have hne : (u != v) = true := by simpa using huv
        go_wp2
        go_quiet (fail)
        go_wp2
        go_ret
        refine RO.bool2 (b := false) (eqI_no ?_).symm _ _
        intro h
        have h1 := hu.out
        rw [h, hv.out] at h1
        cases h1; exact huv rfl
    · go_wp2
      go_ret
      refine RO.bool (eqI_true.2 ?_).symm _
      have h := hA.out
      rwa [List.take_of_length_le (by rw [HM.out]; omega), List.take_of_length_le (by rw [HN.out]; omega)] at h

end Go.Proofs.YtpioldgpfpmjiaaDoor
