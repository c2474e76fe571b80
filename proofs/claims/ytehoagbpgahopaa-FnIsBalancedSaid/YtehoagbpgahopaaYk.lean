/- Walks: SpareTests, TrimSuite of the program. -/
import Derived.Test.YtehoagbpgahopaaYj
namespace Go.Proofs.Ytehoagbpgahopaa
open Go.RowKit

theorem spF_trG {m : List Int} {l : List (List Int)} {t : Int} {k : Nat} : (if misN m t (l.eraseIdx k) = misN m t l then l.eraseIdx k else l) = if spF m l t k then l.eraseIdx k else l := by
  unfold spF misN
  by_cases h : (misL m (l.eraseIdx k) t).length = (misL m l t).length
  · rw [if_pos h, if_pos (by rw [h]; simp)]
  · rw [if_neg h, if_neg (by simpa using h)]

end Go.Proofs.Ytehoagbpgahopaa
