/- Walks: patterns of the program as lists. -/
import Derived.Test.YtpioldgpfpmjiaaDoorWu
import Derived.Test.YtpioldgpfpmjiaaDoorWm
import Derived.Test.YtpioldgpfpmjiaaDoorWi
namespace Go.Proofs.YtpioldgpfpmjiaaDoor
open Go.RowKit

/- Walks: listsOf. -/
open Go.RowKit

theorem OII.oneN {w : World} {lo hi t c n : Nat} {a : Option Addr} {r : List Int} (hn : r.length = n) (h : OIc w lo hi a c r) (hl : lo ≤ w.heap.size) (hh : hi ≤ w.heap.size) :
    OII (w.alloc (.cells #[.slice a n c] t)) lo (w.alloc (.cells #[.slice a n c] t)).heap.size (some ⟨w.heap.size, 0, none⟩) [r] := by
  subst hn
  have h1 := OII.one (t := t) (c := c) h hl hh
  simpa using h1

end Go.Proofs.YtpioldgpfpmjiaaDoor
