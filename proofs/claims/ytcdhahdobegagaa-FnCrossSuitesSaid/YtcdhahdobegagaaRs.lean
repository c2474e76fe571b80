/- Walks: numbers among others, numbers that ascend; what the laws on spare tests draw. -/
import Derived.Test.YtcdhahdobegagaaRo
import Derived.Test.YtcdhahdobegagaaMath
namespace Go.Proofs.Ytcdhahdobegagaa
open Go.RowKit

theorem Dr.cell {w w' : World} (h : Dr w w') (p : Addr) : w'.cell? p = w.cell? p := by obtain ⟨n, rfl⟩ := h; rfl
def inL (x : List Int) (n : Int) : Bool := x.any fun y => y == n
theorem inL_iff {x : List Int} {n : Int} : inL x n = true ↔ n ∈ x := by
  unfold inL
  rw [List.any_eq_true]
  exact ⟨fun ⟨y, h, h1⟩ => by rw [beq_iff_eq] at h1; exact h1 ▸ h, fun h => ⟨n, h, by simp⟩⟩

set_option maxHeartbeats 1000000 in
theorem l_isIn {x : List Int} {n : Int} {a : Option Addr} {c lo hi : Nat} {w : World} (hx : RI w lo hi a x) (hl : x.length ≤ 4611686018427387904) :
    Calls Try.prog 30 #[.slice a x.length c, .int .i64 n] w (RO w (.bool (inL x n))) := by
  go_enter Try.func30, Try.ntmps30
  go_wp2
  go_loopw [5] (fun i wr => ∃ k : Nat, k ≤ x.length ∧ i = .int .i64 k ∧ Dr w wr ∧ Hid ((x.take k).all (fun r => !(r == n)) = true)) (fun i _ => x.length - (intOf i).toNat)
  case atStart => exact ⟨0, Nat.zero_le _, rfl, Dr.refl _, by simp [Hid]⟩
  case round =>
    obtain ⟨k, hk, rfl, hd, hA⟩ := hrel
    by_cases hlt : k < x.length
    · obtain ⟨b1, o1, u, ha, _, _, hcell, hu⟩ := (hx.dr hd).at hlt
      have hidx := idxI ha hlt c
      clear ha hx
      cases huv : (u == n)
      · have HE := Lib.hid huv
        go_wp2
        go_roundw
        case rel => exact ⟨k + 1, by omega, by go_num, hd, all_snoc hu.out hA.out (by rw [HE.out]; rfl)⟩
        case measure => simp [intOf]; omega
      · have HE := Lib.hid huv
        go_wp2
        go_ret
        refine hd.boolD (b := true) ?_
        have : inL x n = true := by unfold inL; rw [List.any_eq_true]; exact ⟨u, List.mem_of_getElem? hu.out, HE.out⟩
        exact this.symm
    · go_wp2
      go_ret
      refine hd.boolD (b := false) ?_
      have h := all_whole hA.out (show x.length ≤ k by omega)
      have : inL x n = false := by
        unfold inL
        rw [List.any_eq_false]
        intro r hr
        have := (List.all_eq_true.1 h) r hr
        simpa using this
      exact this.symm

theorem l_isInB {x : List Int} {n : Int} {a : Option Addr} {c lo hi : Nat} {w : World} {b : Bool} (hx : RI w lo hi a x) (hl : x.length ≤ 4611686018427387904) (hb : inL x n = b) :
    Calls Try.prog 30 #[.slice a x.length c, .int .i64 n] w (RO w (.bool b)) := hb ▸ l_isIn hx hl
theorem l_equalIntsB {x y : List Int} {a b : Option Addr} {c d lo hi lo' hi' : Nat} {w : World} {v : Bool} (hx : RI w lo hi a x) (hy : RI w lo' hi' b y) (hl : x.length ≤ 4611686018427387904) (hl' : y.length ≤ 4611686018427387904) (hv : eqI x y = v) :
    Calls Try.prog 28 #[.slice a x.length c, .slice b y.length d] w (RO w (.bool v)) := hv ▸ l_equalInts hx hy hl hl'

set_option maxHeartbeats 1000000 in
theorem l_ascends {x : List Int} {a : Option Addr} {c lo hi : Nat} {w : World} (hx : RI w lo hi a x) (hl : x.length ≤ 4611686018427387904) (hp : x.Pairwise (· < ·)) :
    Calls Try.prog 31 #[.slice a x.length c] w (RO w (.bool true)) := by
  have HP := Lib.hid hp; clear hp
  go_enter Try.func31, Try.ntmps31
  go_wp2
  go_loopw [3] (fun i wr => ∃ k : Nat, (k ≤ x.length ∨ k = 1) ∧ 1 ≤ k ∧ i = .int .i64 k ∧ Dr w wr) (fun i _ => x.length - (intOf i).toNat)
  case atStart => exact ⟨1, .inr rfl, Nat.le_refl _, rfl, Dr.refl _⟩
  case round =>
    obtain ⟨k, hk, hk1, rfl, hd⟩ := hrel
    by_cases hlt : k < x.length
    · obtain ⟨b1, o1, u, ha, _, _, hcell, hu⟩ := (hx.dr hd).at hlt
      obtain ⟨b2, o2, v, hb, _, _, hcell2, hv⟩ := (hx.dr hd).at (show k - 1 < x.length by omega)
      have hidx := idxI ha hlt c
      have hidx2 := idxI hb (show k - 1 < x.length by omega) c
      have e1 : ((k - 1 : Nat) : Int) = (k : Int) - 1 := by omega
      rw [e1] at hidx2
      have hvu := pw_at HP.out hv.out hu.out (by omega)
      have hle : ¬ u ≤ v := by omega
      have hw := IntWalk.i64_in ((k : Int) - 1) (by omega)
      clear ha hb hx e1
      go_wp2_with fail
      go_quiet (fail)
      go_wp2
      go_roundw
      case rel => exact ⟨k + 1, by omega, by omega, by go_num, by first | exact hd | exact Dr.trans hd ⟨_, rfl⟩⟩
      case measure => simp [intOf]; omega
    · go_wp2
      go_ret
      exact hd.boolD (b := true) rfl

theorem s_DrawSpareTests {n : Nat} {a : Option Addr} {c : Nat} {w : World} (hm : RB w w.heap.size a n) (hc : n ≤ c) (hl : n ≤ 1048576) :
    Calls Try.prog 26 #[.slice a n c] w (DrS w) := by
  go_enter Try.func26, Try.ntmps26
  go_wp2_with fail
  refine (s_DrawMissingOf hm hc hl).mono ?_
  rintro e w1 ⟨a1, c1, m, a2, c2, s, t, rfl, h⟩
  go_wp2
  go_ret3
  exact ⟨_, _, m, _, _, s, t, rfl, h⟩
theorem s_DrawTrimSuite {n : Nat} {a : Option Addr} {c : Nat} {w : World} (hm : RB w w.heap.size a n) (hc : n ≤ c) (hl : n ≤ 1048576) :
    Calls Try.prog 32 #[.slice a n c] w (DrS w) := by
  go_enter Try.func32, Try.ntmps32
  go_wp2_with fail
  refine (s_DrawMissingOf hm hc hl).mono ?_
  rintro e w1 ⟨a1, c1, m, a2, c2, s, t, rfl, h⟩
  go_wp2
  go_ret3
  exact ⟨_, _, m, _, _, s, t, rfl, h⟩

end Go.Proofs.Ytcdhahdobegagaa
