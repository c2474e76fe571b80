/- Slices of lists, cut at their end. -/
import Derived.Test.YtmmebcjebphfcaaRi
import Derived.Test.YtmmebcjebphfcaaWi
namespace Go.Proofs.Ytmmebcjebphfcaa
open Go.RowKit

theorem elemI : Program.elem Try.prog 23 = 3 := by kernel_rfl
theorem undIe : Try.prog.underlying 23 = some (.slice (Program.elem Try.prog 23)) := by kernel_rfl
/-- x[:k] -/
theorem sliceTo {b o n c k : Nat} {z : Int} (hz : z = (k : Int)) (hk : k ≤ c) (wx : World) : (Instr.slice 23 (.slice (some ⟨b, o, none⟩) n c) none (some (.int .i64 z)) none).run Try.prog wx = .ok (.slice (some ⟨b, o, none⟩) k c) wx := by
  subst hz
  rw [run_slice_h (P := Try.prog) (w := wx) 23 (some ⟨b, o, none⟩) n c undIe .i64 (k : Int) (by omega) (by omega)]
  have hs := sizeInt wx
  rw [elemI]
  simp [hs, Result.andThen, sliced, Addr.add]
theorem RI.take {w : World} {lo hi : Nat} {a : Option Addr} {m : List Int} (h : RI w lo hi a m) (k : Nat) : RI w lo hi a (m.take k) := by
  intro j hj
  simp at hj
  obtain ⟨b, o, h1, h2, h3, x, h4, h5⟩ := h j (by omega)
  exact ⟨b, o, h1, h2, h3, x, by rw [List.getElem?_take_of_lt (by omega)]; exact h4, h5⟩
theorem okM_take {m : List Int} (h : okM m = true) (h2 : 2 ≤ m.length) : okM (m.take (m.length - 1)) = true := by
  have h5 := okM_len h
  refine okM_mk (by simp; omega) (by simp; omega) ?_
  have h3 := okM_all h
  rw [List.all_eq_true] at h3 ⊢
  exact fun x hx => h3 x (List.mem_of_mem_take hx)

end Go.Proofs.Ytmmebcjebphfcaa
