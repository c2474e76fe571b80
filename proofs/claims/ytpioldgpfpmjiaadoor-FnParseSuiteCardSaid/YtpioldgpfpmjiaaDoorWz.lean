/- Walks: the patterns that a test matches are taken out of the map. -/
import Derived.Test.YtpioldgpfpmjiaaDoorMap
import Derived.Test.YtpioldgpfpmjiaaDoorWs
namespace Go.Proofs.YtpioldgpfpmjiaaDoor
open Go.RowKit

def cl (ps : List (List Int)) (T : Nat → Int) (S : List Int → Bool) (k : Nat) (q : List Int) : Bool := S q && !((ps.take k).contains q && meet5 (at5 q) T)
theorem cl_zero (ps : List (List Int)) (T : Nat → Int) (S : List Int → Bool) (q : List Int) : cl ps T S 0 q = S q := by simp [cl]
theorem cl_hit {ps : List (List Int)} {T : Nat → Int} {S : List Int → Bool} {k : Nat} {l : List Int} (hx : ps[k]? = some l) (h : meet5 (at5 l) T = true) (q : List Int) : (q != l && cl ps T S k q) = cl ps T S (k + 1) q := by
  unfold cl
  rw [take_snoc hx]
  by_cases e : q = l
  · subst e; simp [h]
  · have e2 : (q != l) = true := by rw [bne_iff_ne]; exact e
    rw [e2, Bool.true_and]
    congr 3
    simp [List.contains_eq_mem, e]
theorem cl_miss {ps : List (List Int)} {T : Nat → Int} {S : List Int → Bool} {k : Nat} {l : List Int} (hx : ps[k]? = some l) (h : meet5 (at5 l) T = false) (q : List Int) : cl ps T S k q = cl ps T S (k + 1) q := by
  unfold cl
  rw [take_snoc hx]
  by_cases e : q = l
  · subst e; simp [h]
  · congr 3
    simp [List.contains_eq_mem, e]
theorem cl_end {ps : List (List Int)} {T : Nat → Int} {S : List Int → Bool} {k : Nat} (hk : ps.length ≤ k) (q : List Int) (hq : q ∈ ps) : cl ps T S k q = (S q && !meet5 (at5 q) T) := by
  unfold cl
  rw [List.take_of_length_le hk]
  simp [List.contains_eq_mem, hq]

theorem upd_alloc {b : Nat} {a w : World} (h : Upd b (b + 1) a w) (o : Obj) : Upd b (b + 1) a (w.alloc o) :=
  h.trans ⟨rfl, rfl, rfl, by simp, fun k hk _ => Below.heap_alloc w _ k hk⟩
theorem upd_below {b : Nat} {a w w' : World} (h : Upd b (b + 1) a w) (hb : Below w.heap.size w w') : Upd b (b + 1) a w' :=
  h.trans ⟨hb.os, hb.tape, hb.output, hb.size, fun k hk _ => hb.block k hk⟩

end Go.Proofs.YtpioldgpfpmjiaaDoor
