/- Walks: what the laws compare and reckon. -/
import Derived.Test.YtpioldgpfpmjiaaDoorRe
import Derived.Test.YtpioldgpfpmjiaaDoorRc
import Derived.Test.YtpioldgpfpmjiaaDoorWs
import Derived.Test.YtpioldgpfpmjiaaDoorMath
import Derived.Test.YtpioldgpfpmjiaaDoorWi
namespace Go.Proofs.YtpioldgpfpmjiaaDoor
open Go.RowKit

theorem prodB {m : List Int} (h : okM m = true) {d : Int} (h0 : 0 ≤ d) (h1 : d ≤ 1) : ∀ k : Nat, 1 ≤ prodL d (m.take k) ∧ prodL d (m.take k) ≤ 4 ^ k
  | 0 => by simp [prodL]
  | k + 1 => by
    have ih := prodB h h0 h1 k
    by_cases hk : k < m.length
    · obtain ⟨x, hx⟩ := at_of_lt hk
      have hx3 := okM_at h hx
      rw [take_snoc hx, prodL_snoc]
      have e4 : (4 : Int) ^ (k + 1) = 4 ^ k * 4 := Int.pow_succ ..
      rw [e4]
      refine ⟨?_, Int.mul_le_mul ih.2 (by omega) (by omega) (by omega)⟩
      have := Int.mul_le_mul ih.1 (show (1 : Int) ≤ x + d by omega) (by omega) (by omega)
      omega
    · rw [List.take_of_length_le (by omega)]
      rw [List.take_of_length_le (by omega)] at ih
      have e4 : (4 : Int) ^ (k + 1) = 4 ^ k * 4 := Int.pow_succ ..
      omega

/- Slices of lists, cut at their end. -/
open Go.RowKit

theorem elemI : Program.elem Tryd.prog 23 = 3 := by kernel_rfl
theorem undIe : Tryd.prog.underlying 23 = some (.slice (Program.elem Tryd.prog 23)) := by kernel_rfl
/-- x[:k] -/
theorem sliceTo {b o n c k : Nat} {z : Int} (hz : z = (k : Int)) (hk : k ≤ c) (wx : World) : (Instr.slice 23 (.slice (some ⟨b, o, none⟩) n c) none (some (.int .i64 z)) none).run Tryd.prog wx = .ok (.slice (some ⟨b, o, none⟩) k c) wx := by
  subst hz
  rw [run_slice_h (P := Tryd.prog) (w := wx) 23 (some ⟨b, o, none⟩) n c undIe .i64 (k : Int) (by omega) (by omega)]
  have hs := sizeInt wx
  rw [elemI]
  simp [hs, Result.andThen, sliced, Addr.add]
theorem RI.take {w : World} {lo hi : Nat} {a : Option Addr} {m : List Int} (h : RI w lo hi a m) (k : Nat) : RI w lo hi a (m.take k) := by
  intro j hj
  simp at hj
  obtain ⟨b, o, h1, h2, h3, x, h4, h5⟩ := h j (by omega)
  exact ⟨b, o, h1, h2, h3, x, by rw [List.getElem?_take_of_lt (by omega)]; exact h4, h5⟩
theorem okM_take {m : List Int} (h : okM m = true) (h2 : 2 ≤ m.length) : okM (m.take (m.length - 1)) = true := by
  have h5 := okM_len h
  refine okM_mk (by simp; omega) (by simp; omega) ?_
  have h3 := okM_all h
  rw [List.all_eq_true] at h3 ⊢
  exact fun x hx => h3 x (List.mem_of_mem_take hx)

end Go.Proofs.YtpioldgpfpmjiaaDoor
