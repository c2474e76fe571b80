/- The walk of FnValidTest: it returns true and writes nothing that was there. -/
import Derived.Test.YtehoagbpgahopaaRi
namespace Go.Proofs.Ytehoagbpgahopaa
open Go.RowKit

theorem has_full {m t : List Int} (h : okM m = true) : hasL (apL m m.length) t = okT m t := by
  have h5 := okM_len h
  rw [Bool.eq_iff_iff, hasL_iff, ap_yes h (inR_true.2 (by omega))]
  exact mem_full h
theorem strV_full {m t : List Int} (h : okM m = true) (h' : okT m t = true) : strV m t = m.length := by
  have h1 := okT_iff.1 h'
  rw [strV_yes h h1.1, h1.2, okW_len h']
theorem apL_g {m : List Int} {t : Int} : ∀ r ∈ apL m t, r.length ≤ 4611686018427387904 := fun r hr => by have := apL_row r hr; omega

end Go.Proofs.Ytehoagbpgahopaa
