/- Walks: what the laws compare and reckon. -/
import Derived.Test.YtehoagbpgahopaaRe
import Derived.Test.YtehoagbpgahopaaRc
import Derived.Test.YtehoagbpgahopaaWs
import Derived.Test.YtehoagbpgahopaaMath
import Derived.Test.YtehoagbpgahopaaWi
namespace Go.Proofs.Ytehoagbpgahopaa
open Go.RowKit

theorem prodB {m : List Int} (h : okM m = true) {d : Int} (h0 : 0 ≤ d) (h1 : d ≤ 1) : ∀ k : Nat, 1 ≤ prodL d (m.take k) ∧ prodL d (m.take k) ≤ 4 ^ k
  | 0 => by simp [prodL]
  | k + 1 => by
    have ih := prodB h h0 h1 k
    by_cases hk : k < m.length
    · obtain ⟨x, hx⟩ := at_of_lt hk
      have hx3 := okM_at h hx
      rw [take_snoc hx, prodL_snoc]
      have e4 : (4 : Int) ^ (k + 1) = 4 ^ k * 4 := Int.pow_succ ..
      rw [e4]
      refine ⟨?_, Int.mul_le_mul ih.2 (by omega) (by omega) (by omega)⟩
      have := Int.mul_le_mul ih.1 (show (1 : Int) ≤ x + d by omega) (by omega) (by omega)
      omega
    · rw [List.take_of_length_le (by omega)]
      rw [List.take_of_length_le (by omega)] at ih
      have e4 : (4 : Int) ^ (k + 1) = 4 ^ k * 4 := Int.pow_succ ..
      omega

set_option maxHeartbeats 1000000 in
theorem l_product {m : List Int} {a : Option Addr} {c lo hi : Nat} {w : World} {d : Int} (hok : okM m = true) (hm : RI w lo hi a m) (h0 : 0 ≤ d) (h1 : d ≤ 1) :
    Calls Try.prog 64 #[.slice a m.length c, .int .i64 d] w (RO w (.int .i64 (prodL d m))) := by
  have HB := Lib.hid (prodB hok h0 h1)
  have hm5 := okM_len hok
  have HOK := Lib.hid hok; clear hok
  go_enter Try.func64, Try.ntmps64
  go_wp2
  go_loopw [5, 6] (fun v i wr => ∃ (k : Nat) (q : Int), k ≤ m.length ∧ i = .int .i64 k ∧ v = .int .i64 q ∧ Hid (q = prodL d (m.take k)) ∧ Dr w wr) (fun _ i _ => m.length - (intOf i).toNat)
  case atStart => exact ⟨0, 1, Nat.zero_le _, rfl, rfl, by simp [Hid, prodL], Dr.refl _⟩
  case round =>
    obtain ⟨k, q, hk, rfl, rfl, hq, hd⟩ := hrel
    by_cases hlt : k < m.length
    · obtain ⟨b, o, x, ha, _, _, hcell, hx⟩ := (hm.dr hd).at hlt
      have hidx := idxI ha hlt c
      have hx3 := okM_at HOK.out hx.out
      have hqb : 1 ≤ q ∧ q ≤ 256 := by
        have h9 := HB.out k
        rw [← hq.out] at h9
        have h10 : (4 : Int) ^ k ≤ 4 ^ 4 := by
          have : (4 : Nat) ^ k ≤ 4 ^ 4 := Nat.pow_le_pow_right (by omega) (by omega)
          exact_mod_cast this
        omega
      have HQ : Hid (q * (x + d) = prodL d (m.take (k + 1))) := by show _ = _; rw [take_snoc hx.out, prodL_snoc, hq.out]
      clear ha hm hq
      have hd01 : d = 0 ∨ d = 1 := by omega
      have hx123 : x = 1 ∨ x = 2 ∨ x = 3 := by omega
      rcases hd01 with rfl | rfl <;> rcases hx123 with rfl | rfl | rfl
      all_goals
        go_wp2
        go_roundw
        case rel => exact ⟨k + 1, _, by omega, by go_num, rfl, by first | exact HQ.out | (have := HQ.out; show _ = _; omega), hd⟩
        case measure => simp [intOf]; omega
    · go_wp2
      go_ret
      refine hd.intD ?_
      have h := hq.out
      rw [List.take_of_length_le (by omega)] at h
      exact h

/- Slices of lists, cut at their end. -/
open Go.RowKit

theorem elemI : Program.elem Try.prog 23 = 3 := by kernel_rfl
theorem undIe : Try.prog.underlying 23 = some (.slice (Program.elem Try.prog 23)) := by kernel_rfl
/-- x[:k] -/
theorem sliceTo {b o n c k : Nat} {z : Int} (hz : z = (k : Int)) (hk : k ≤ c) (wx : World) : (Instr.slice 23 (.slice (some ⟨b, o, none⟩) n c) none (some (.int .i64 z)) none).run Try.prog wx = .ok (.slice (some ⟨b, o, none⟩) k c) wx := by
  subst hz
  rw [run_slice_h (P := Try.prog) (w := wx) 23 (some ⟨b, o, none⟩) n c undIe .i64 (k : Int) (by omega) (by omega)]
  have hs := sizeInt wx
  rw [elemI]
  simp [hs, Result.andThen, sliced, Addr.add]
theorem RI.take {w : World} {lo hi : Nat} {a : Option Addr} {m : List Int} (h : RI w lo hi a m) (k : Nat) : RI w lo hi a (m.take k) := by
  intro j hj
  simp at hj
  obtain ⟨b, o, h1, h2, h3, x, h4, h5⟩ := h j (by omega)
  exact ⟨b, o, h1, h2, h3, x, by rw [List.getElem?_take_of_lt (by omega)]; exact h4, h5⟩
theorem okM_take {m : List Int} (h : okM m = true) (h2 : 2 ≤ m.length) : okM (m.take (m.length - 1)) = true := by
  have h5 := okM_len h
  refine okM_mk (by simp; omega) (by simp; omega) ?_
  have h3 := okM_all h
  rw [List.all_eq_true] at h3 ⊢
  exact fun x hx => h3 x (List.mem_of_mem_take hx)

end Go.Proofs.Ytehoagbpgahopaa
