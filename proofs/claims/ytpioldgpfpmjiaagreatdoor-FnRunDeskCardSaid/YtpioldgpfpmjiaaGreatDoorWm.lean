/- Walks: a copy of a list; patterns joined. -/
import Derived.Test.YtpioldgpfpmjiaaGreatDoorOwn
import Derived.Test.YtpioldgpfpmjiaaGreatDoorWk
import Derived.Test.YtpioldgpfpmjiaaGreatDoorMath
import Derived.StillTailTactics
namespace Go.Proofs.YtpioldgpfpmjiaaGreatDoor
open Go.RowKit

set_option maxHeartbeats 1000000 in
theorem x_CloneI {l : List Int} {a : Option Addr} {c lo hi : Nat} {w : World} (hm : RI w lo hi a l) (hB : hi ≤ w.heap.size) (h0 : l ≠ []) (hl : l.length ≤ 1048576) :
    Calls Tryz.prog 102 #[.slice a l.length c] w (NewI w l) := by
  have hst := OwnL.made w w.heap.size (Nat.le_refl _)
  have hlen : 0 < l.length := by cases l with | nil => exact absurd rfl h0 | cons _ _ => simp
  obtain ⟨b, o, ha, _, hb, _⟩ := hm 0 hlen
  have hms := hm.below ((Below.refl _ w).alloc (Nat.le_refl _) (.cells #[] 3)) hB
  subst ha
  have hnil := fun wx : World => Lib.run_eql_slice_nil (P := Tryz.prog) wx 45 3 (some ⟨b, o, none⟩) l.length c 0 0 undI
  go_enter Tryz.func102, Tryz.ntmps102
  go_wp2_with (first
    | (at_builtin; refine wpList_appN rfl _ _ rfl w.heap.size _ [] rfl hst l lo hi c _ rfl hms h0 (by simp) (by omega) (by simp) ?_; intro v' w1 hown1 hb1)
    | go_in)
  simp only [List.nil_append] at hown1
  have hB1 := ((Below.refl _ w).alloc (Nat.le_refl _) (.cells #[] 3)).trans hb1
  clear hb1
  obtain ⟨a2, c2, rfl, ho⟩ := hown1.slice
  go_ret
  exact ⟨a2, c2, rfl, ho, hB1⟩

/-- no two different levels -/
theorem agree_fails {p q : List Int} {k : Nat} {x y : Int} (hx : p[k]? = some x) (hy : q[k]? = some y) (h1 : x ≠ -1) (h2 : y ≠ -1) (h3 : x ≠ y) : agree p q = false := all_fails (zip_at hx hy) (by simp [h1, h2, h3])
theorem agree_step {p q : List Int} {k : Nat} {x y : Int} (hx : p[k]? = some x) (hy : q[k]? = some y) (ha : ((p.zip q).take k).all (fun z => z.1 == -1 || z.2 == -1 || z.1 == z.2) = true) (h : x = -1 ∨ y = -1 ∨ x = y) :
    ((p.zip q).take (k + 1)).all (fun z => z.1 == -1 || z.2 == -1 || z.1 == z.2) = true := all_snoc (zip_at hx hy) ha (by rcases h with h | h | h <;> simp [h])
theorem agree_end {p q : List Int} {k : Nat} (hk : p.length ≤ k) (ha : ((p.zip q).take k).all (fun z => z.1 == -1 || z.2 == -1 || z.1 == z.2) = true) : agree p q = true := all_whole ha (by rw [List.length_zip]; omega)

/-- a list whose first k places are joined, the others those of p -/
def Mix (p q : List Int) (k : Nat) (l : List Int) : Prop := l.length = p.length ∧ (∀ i, i < k → l[i]? = (jnL p q)[i]?) ∧ ∀ i, k ≤ i → l[i]? = p[i]?
theorem Mix.start (p q : List Int) : Mix p q 0 p := ⟨rfl, fun i h => absurd h (Nat.not_lt_zero i), fun _ _ => rfl⟩
theorem Mix.keep {p q l : List Int} {k : Nat} {x y : Int} (h : Mix p q k l) (hx : p[k]? = some x) (hy : q[k]? = some y) (h1 : -1 ≤ x) (h2 : y = -1) : Mix p q (k + 1) l := by
  refine ⟨h.1, fun i hi => ?_, fun i hi => h.2.2 i (by omega)⟩
  by_cases e : i = k
  · subst e; rw [h.2.2 i (Nat.le_refl _), hx, jnL_at hx hy, h2, Int.max_eq_left h1]
  · exact h.2.1 i (by omega)
theorem Mix.put {p q l : List Int} {k : Nat} {x y : Int} (h : Mix p q k l) (hx : p[k]? = some x) (hy : q[k]? = some y) (h1 : max x y = y) : Mix p q (k + 1) (l.set k y) := by
  have hk : k < l.length := by rw [h.1]; exact lt_of_at hx
  refine ⟨by rw [List.length_set]; exact h.1, fun i hi => ?_, fun i hi => by rw [List.getElem?_set_ne (by omega)]; exact h.2.2 i (by omega)⟩
  by_cases e : i = k
  · subst e; rw [jnL_at hx hy, h1]; simp [hk]
  · rw [List.getElem?_set_ne (by omega)]; exact h.2.1 i (by omega)
theorem Mix.done {p q l : List Int} {k : Nat} (h : Mix p q k l) (hpq : p.length = q.length) (hk : p.length ≤ k) : l = jnL p q := by
  apply List.ext_getElem?
  intro i
  by_cases hi : i < k
  · exact h.2.1 i hi
  · rw [List.getElem?_eq_none (by rw [h.1]; omega), List.getElem?_eq_none (by rw [jnL_len hpq]; omega)]

end Go.Proofs.YtpioldgpfpmjiaaGreatDoor
