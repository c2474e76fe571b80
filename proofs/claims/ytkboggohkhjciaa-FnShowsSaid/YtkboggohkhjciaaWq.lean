/- Walks: lists of patterns, by the model. -/
import Derived.Test.YtkboggohkhjciaaOwnL
import Derived.Test.YtkboggohkhjciaaMath
import Derived.Test.YtkboggohkhjciaaWa
namespace Go.Proofs.Ytkboggohkhjciaa
open Go.RowKit

theorem Fam.ofOII {w : World} {lo hi : Nat} {ad : Addr} {mm : List (List Int)} (h : OII w lo hi (some ad) mm) :
    ∃ (A : Nat → Option Addr) (C G : Nat → Nat), Fam w lo hi A G mm ∧ ∀ k r, mm[k]? = some r → w.cell? (ad.add k) = some (.slice (A k) r.length (C k)) ∧ r.length ≤ C k := by
  rcases h with rfl | ⟨b, o, A, C, G, ha, h⟩
  · exact ⟨fun _ => none, fun _ => 0, fun _ => 0, Fam.nil _ _ _ _ _, by simp⟩
  · cases ha
    refine ⟨A, C, G, h.fam, fun k r e => ?_⟩
    have e6 : (⟨b, o, none⟩ : Addr).add k = ⟨b, o + k, none⟩ := by unfold Addr.add; split <;> simp_all
    rw [e6]; exact ⟨h.cell k r e, h.cap k r e⟩

theorem chain1 {wr w1 : World} {o : Obj} (h : Below wr.heap.size (wr.alloc o) w1) : Below wr.heap.size wr w1 := ((Below.refl wr.heap.size wr).alloc (Nat.le_refl _) o).trans h
theorem named {w : World} {B : Nat} {v : Value} {l : List Int} (h : OwnL w B v l) : ∃ l', Hid (l' = l) ∧ OwnL w B v l' := ⟨l, rfl, h⟩

/- Walks: AllPatterns and AllTests, by the model. -/
open Go.RowKit

/-- all patterns of a model and a strength; none where there is no such thing -/
theorem NewII.none {w w' : World} {l : List (List Int)} (h : l = []) (hb : Below w.heap.size w w') : NewII w l (.returned (.slice none 0 0)) w' := by
  subst h
  exact ⟨_, _, rfl, OIIc.nil _ _ _ _ _, hb⟩

end Go.Proofs.Ytkboggohkhjciaa
