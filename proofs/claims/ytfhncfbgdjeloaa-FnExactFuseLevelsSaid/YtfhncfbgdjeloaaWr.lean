/- Walks: AllPatterns and AllTests, by the model. -/
import Derived.Test.YtfhncfbgdjeloaaWq
namespace Go.Proofs.Ytfhncfbgdjeloaa
open Go.RowKit

/-- all patterns of a model and a strength; none where there is no such thing -/
def apL (m : List Int) (t : Int) : List (List Int) := if okM m && inR t 0 m.length then patsR m t else []
theorem ap_yes {m : List Int} {t : Int} (h : okM m = true) (h' : inR t 0 m.length = true) : apL m t = patS m [] t := by
  unfold apL patS
  rw [h, h']; simp
theorem ap_no {m : List Int} {t : Int} (h : okM m = false ∨ inR t 0 m.length = false) : apL m t = [] := by
  unfold apL
  rcases h with h | h <;> rw [h] <;> simp
theorem NewII.none {w w' : World} {l : List (List Int)} (h : l = []) (hb : Below w.heap.size w w') : NewII w l (.returned (.slice none 0 0)) w' := by
  subst h
  exact ⟨_, _, rfl, OII.nil _ _ _ _, hb⟩

/-- the tests that begin with some levels, told as patterns of all factors -/
theorem patsR_full : ∀ {ms : List Int} (_ : ∀ y ∈ ms, 0 ≤ y), patsR ms ms.length = match ms with
    | [] => [[]]
    | l :: ms => (List.range l.toNat).flatMap fun (x : Nat) => (patsR ms ms.length).map ((x : Int) :: ·)
  | [], _ => by simp [patsR]
  | l :: ms, _ => by
    rw [patsR_cons (by simp; omega) (by simp)]
    rw [patsR_out (ms := ms) (t := ((l :: ms).length : Int)) (.inr (by simp; omega))]
    simp
def extS (m head : List Int) : List (List Int) := patS m head ((m.length : Int) - head.length)
def extK (m head : List Int) (k : Nat) : List (List Int) := (List.range k).flatMap fun (x : Nat) => extS m (head ++ [(x : Int)])
theorem extK_succ (m head : List Int) (k : Nat) : extK m head (k + 1) = extK m head k ++ extS m (head ++ [(k : Int)]) := by
  unfold extK; rw [List.range_succ, List.flatMap_append]; simp
theorem extS_end {m head : List Int} (hh : head.length = m.length) : extS m head = [head] := patS_end hh (by omega)
theorem extS_step {m head : List Int} {y : Int} (hy : m[head.length]? = some y) : extS m head = extK m head y.toNat := by
  have hlt := lt_of_at hy
  unfold extS
  rw [patS_step hy (by omega) (by omega), patS_out (head := head ++ [-1]) (by simp; omega) (.inr (by simp; omega)), List.append_nil]
  unfold patK extK extS
  congr 1
  funext x
  congr 1
  simp; omega

end Go.Proofs.Ytfhncfbgdjeloaa
