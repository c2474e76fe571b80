/- The walk of FnAllTests: it returns true and writes nothing that was there. -/
import Derived.Test.YtehoagbpgahopaaLFnValidTest
import Derived.Test.YtehoagbpgahopaaLFnValidModel
namespace Go.Proofs.Ytehoagbpgahopaa
open Go.RowKit

theorem full_row {m r : List Int} {k : Nat} (h : okM m = true) (hr : (apL m m.length)[k]? = some r) : (okM m && okT m r) = true := by
  have h1 := hasL_iff.2 (List.mem_of_getElem? hr)
  rw [has_full h] at h1
  rw [h, h1]; rfl
theorem apL_nodup {m : List Int} {t : Int} : (apL m t).Nodup := by
  unfold apL
  split
  · exact nodup_patsR
  · simp
theorem eqI_ne {x y : List Int} (h : x ≠ y) : eqI x y = false := eqI_no h

end Go.Proofs.Ytehoagbpgahopaa
