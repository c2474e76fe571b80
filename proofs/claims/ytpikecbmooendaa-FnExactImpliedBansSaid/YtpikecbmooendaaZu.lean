/- Walks: least bans, by the program. -/
import Derived.Test.YtpikecbmooendaaZl
import Derived.Laws.OwnMore
namespace Go.Proofs.Ytpikecbmooendaa
open Go.RowKit

theorem at5_set {p : List Int} {k i : Nat} {x : Int} (hk : k < p.length) : at5 (p.set k x) i = if i = k then x else at5 p i := by
  unfold at5
  rw [List.getD_eq_getElem?_getD, List.getD_eq_getElem?_getD, List.getElem?_set]
  by_cases e : k = i
  · subst e; simp [hk]
  · rw [if_neg e, if_neg (fun h => e h.symm)]
theorem cel5_set {p : List Int} {k : Nat} {x : Int} (hk : k < p.length) (h5 : p.length ≤ 5) : (#[.int .i64 (at5 p 0), .int .i64 (at5 p 1), .int .i64 (at5 p 2), .int .i64 (at5 p 3), .int .i64 (at5 p 4)] : Array Value).setIfInBounds k (.int .i64 x) = #[.int .i64 (at5 (p.set k x) 0), .int .i64 (at5 (p.set k x) 1), .int .i64 (at5 (p.set k x) 2), .int .i64 (at5 (p.set k x) 3), .int .i64 (at5 (p.set k x) 4)] := by
  have h : ∀ i, at5 (p.set k x) i = if i = k then x else at5 p i := fun i => at5_set hk
  rcases (by omega : k = 0 ∨ k = 1 ∨ k = 2 ∨ k = 3 ∨ k = 4) with e | e | e | e | e <;> subst e <;> simp [h]
theorem eq5_set {p : List Int} {k : Nat} (hk : k < p.length) (h5 : p.length ≤ 5) : eq5 (at5 (p.set k (-1))) (at5 p) = (at5 p k == -1) := by
  have h : ∀ i, at5 (p.set k (-1)) i = if i = k then -1 else at5 p i := fun i => at5_set hk
  rw [Bool.eq_iff_iff]
  unfold eq5
  rw [List.all_eq_true]
  constructor
  · intro h1
    have h2 := h1 k (List.mem_range.2 (by omega))
    rw [h, if_pos rfl] at h2
    simp at h2
    simp [← h2]
  · intro h1 i hi
    rw [h]
    by_cases e : i = k
    · subst e; simp at h1; simp [h1]
    · simp [e]
theorem okP_any : ∀ {m p : List Int} (k : Nat), m.all lvl = true → okW (-1) m p = true → okW (-1) m (p.set k (-1)) = true
  | [], p, k, _, h => by
    have hl := okW_len h
    simp at hl
    subst hl
    simpa using h
  | y :: m, p, k, hm, h => by
    have hl := okW_len h
    cases p with
    | nil => simp at hl
    | cons x p =>
      rw [okW_cons, Bool.and_eq_true] at h
      rw [List.all_cons, Bool.and_eq_true] at hm
      have h2 := inR_true.1 hm.1
      cases k with
      | zero => rw [List.set_cons_zero, okW_cons, h.1, Bool.true_and, inR_true]; omega
      | succ k => rw [List.set_cons_succ, okW_cons, okP_any k hm.2 h.1, h.2]; rfl
theorem lsB_has {m p : List Int} {b : List (List Int)} (h : hasP (alL m b) p = true) : lsB m b p = false := by unfold lsB; rw [h]; rfl
theorem lsB_yes {m p : List Int} {b : List (List Int)} (h : hasP (alL m b) p = false) (h2 : ∀ j, j < m.length → lsA m b p j = true) : lsB m b p = true := by
  unfold lsB
  rw [h, Bool.not_false, Bool.true_and, List.all_eq_true]
  exact fun j hj => h2 j (List.mem_range.1 hj)
theorem lsB_no {m p : List Int} {b : List (List Int)} {k : Nat} (hk : k < m.length) (h2 : lsA m b p k = false) : lsB m b p = false := by
  unfold lsB
  have h3 : (List.range m.length).all (lsA m b p) = false := by rw [List.all_eq_false]; exact ⟨k, List.mem_range.2 hk, by rw [h2]; decide⟩
  rw [h3, Bool.and_false]

set_option maxRecDepth 100000 in
/-- append of a list of patterns to a list of patterns -/
theorem run_appPP {w : World} (ty : TypeId) (B B2 : Nat) (v v2 : Value) (ps qs : List (List Int)) (hown : OwnP w B v ps) (hq : OwnP w B2 v2 qs) (hl : ps.length + qs.length ≤ 1048576) (hB : B ≤ w.heap.size) :
    ∃ v' w', (Builtin.append_ #[59, 59] ty #[v, v2]).run Try.prog w = .ok v' w' ∧ OwnP w' B v' (ps ++ qs) ∧ w.grownBy w' v.ownBlock := by
  obtain ⟨i0, hi, hz0, hz1, hz2⟩ := info_parts infoPat
  rcases hq.2 with ⟨rfl, h0⟩ | ⟨g, cap, cur, rfl, hbg, hg, hnc, hcm, hcs, htake⟩
  · have e : qs = [] := List.eq_nil_of_length_eq_zero h0
    subst e
    exact ⟨v, w, run_append_owned_none (P := Try.prog) w B 59 ty 62 i0 5 undPs hi v ps.length (ps.flatMap cs5) hown, by rw [List.append_nil]; exact hown, ⟨rfl, rfl, rfl, Nat.le_refl _, fun _ _ _ => rfl⟩⟩
  · obtain ⟨v', w', hr, g1, g2, _, _⟩ := run_append_own_at (P := Try.prog) w B 59 ty 62 i0 _ 5 40 undPs hi hz0 hz1 hz2 rfl (by decide) v ps.length (ps.flatMap cs5) hown ⟨g, 0, none⟩ qs.length cap (qs.flatMap cs5) hq.1 (World.ownsRow.cells hq (g := g) rfl)
      (by intro u hu; obtain ⟨l, _, hu⟩ := List.mem_flatMap.1 hu; simp [cs5] at hu; rcases hu with rfl | rfl | rfl | rfl | rfl <;> rfl) (by unfold maxLen; omega) (by omega) hB
    exact ⟨v', w', hr, by unfold OwnP; rw [List.flatMap_append, List.length_append]; exact g1, g2⟩
theorem step_appPP {w : World} {ops : Array Oper} {o : Oper} {a : Act} {K : Act → World → Prop} {Q : Exit → Act → World → Prop} {E : Prop} (hgd : o.guard = none) (s t : Operand)
    (ho : o.op = .call { callee := .builtin .append, args := #[s, t], argTypes := #[59, 59] }) (B : Nat) (v : Value) (ps : List (List Int)) (hs : a.eval s = v) (hown : OwnP w B v ps) (B2 : Nat) (v2 : Value) (qs : List (List Int))
    (hx : a.eval t = v2) (hq : OwnP w B2 v2 qs) (hl : ps.length + qs.length ≤ 1048576) (hB : B ≤ w.heap.size)
    (h : ∀ v' w', OwnP w' B v' (ps ++ qs) → w.grownBy w' v.ownBlock → K (a.put o.dst v') w') : if Region.wanted o (yielded ops a.tmps) = true then Oper.wp Try.prog o a w K Q else E := by
  have hw : Region.wanted o (yielded ops a.tmps) = true := by simp [Region.wanted, hgd]
  rw [if_pos hw]
  obtain ⟨v', w', hr, g1, g2⟩ := run_appPP (w := w) o.type B B2 v v2 ps qs hown hq hl hB
  unfold Oper.wp execOp
  simp only [ho, resolve, invoke, builtin, Sem.run_bind, Sem.run_pure, Result.andThen_ok, List.map_toArray, List.map_cons, List.map_nil, hs, hx, hr]
  exact h v' w' g1 g2

end Go.Proofs.Ytpikecbmooendaa
