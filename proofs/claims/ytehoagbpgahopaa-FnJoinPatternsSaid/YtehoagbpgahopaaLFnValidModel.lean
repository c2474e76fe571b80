/- The walk of FnValidModel: it returns true and writes nothing that was there. -/
import Derived.Test.YtehoagbpgahopaaRi
namespace Go.Proofs.Ytehoagbpgahopaa
open Go.RowKit

theorem len_apL {m : List Int} (h : okM m = true) : ((apL m m.length).length : Int) = prodL 0 m := by
  have h5 := okM_len h
  rw [ap_yes h (inR_true.2 (by omega))]
  unfold patS
  rw [List.length_map]
  exact len_full (okM_ge h)

end Go.Proofs.Ytehoagbpgahopaa
