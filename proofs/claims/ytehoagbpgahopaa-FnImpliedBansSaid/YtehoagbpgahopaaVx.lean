/- Plain: every pattern that no allowed test meets lies above a least ban; the least bans forbid what the bans forbid, and tell bans apart. -/
import Derived.Test.YtehoagbpgahopaaZn
import Derived.Test.YtehoagbpgahopaaRi
namespace Go.Proofs.Ytehoagbpgahopaa
open Go.RowKit

theorem okP_un : ∀ {m p : List Int} (k : Nat), m.all lvl = true → okW (-1) m p = true → okW (-1) m (p.set k (-1)) = true
  | [], p, k, _, h => by
    have hl := okW_len h
    simp at hl
    subst hl
    simpa using h
  | y :: m, p, k, hm, h => by
    have hl := okW_len h
    cases p with
    | nil => simp at hl
    | cons x p =>
      rw [okW_cons, Bool.and_eq_true] at h
      rw [List.all_cons, Bool.and_eq_true] at hm
      have h2 := inR_true.1 hm.1
      cases k with
      | zero => rw [List.set_cons_zero, okW_cons, h.1, Bool.true_and, inR_true]; omega
      | succ k => rw [List.set_cons_succ, okW_cons, okP_un k hm.2 h.1, h.2]; rfl

theorem strN_un : ∀ {p : List Int} {k : Nat}, k < p.length → at5 p k ≠ -1 → strN (p.set k (-1)) + 1 = strN p
  | [], k, hk, _ => by simp at hk
  | x :: p, 0, _, h => by
    have hx : (x != -1) = true := by simpa [at5] using h
    rw [List.set_cons_zero, strN_cons, strN_cons, hx]; simp
  | x :: p, k + 1, hk, h => by
    rw [List.set_cons_succ, strN_cons, strN_cons]
    have := strN_un (p := p) (k := k) (by simpa using hk) (by simpa [at5] using h)
    omega

theorem mB_un : ∀ {p x : List Int} {k : Nat}, mB p x = true → mB (p.set k (-1)) x = true
  | [], x, k, h => by simpa using h
  | a :: p, [], k, h => by cases k <;> simp [mB]
  | a :: p, b :: x, 0, h => by
    simp only [mB, List.set_cons_zero, List.zip_cons_cons, List.all_cons, Bool.and_eq_true] at h ⊢
    exact ⟨by simp, h.2⟩
  | a :: p, b :: x, k + 1, h => by
    have := @mB_un p x k
    simp only [mB, List.set_cons_succ, List.zip_cons_cons, List.all_cons, Bool.and_eq_true] at h this ⊢
    exact ⟨h.1, this h.2⟩

theorem lb_mem {m q : List Int} {b : List (List Int)} (hm : okM m = true) (hb : okBn m b = true) : q ∈ lbL m b ↔ okP m q = true ∧ lsB m b q = true := by
  rw [lb_yes hm hb]
  unfold lbK
  rw [List.mem_flatMap]
  constructor
  · rintro ⟨t, _, ht⟩
    obtain ⟨h1, h2⟩ := List.mem_filter.1 ht
    exact ⟨((mem_patS hm).1 h1).1, h2⟩
  · rintro ⟨h1, h2⟩
    refine ⟨strN q, List.mem_range.2 ?_, List.mem_filter.2 ⟨(mem_patS hm).2 ⟨h1, rfl⟩, h2⟩⟩
    have := okW_len h1
    have := strN_le q
    omega

theorem lb_below {m : List Int} {b : List (List Int)} (hm : okM m = true) (hb : okBn m b = true) : ∀ (n : Nat) (p : List Int), strN p = n → okP m p = true → hasP (alL m b) p = false → ∃ q ∈ lbL m b, ∀ x, mB p x = true → mB q x = true := by
  intro n
  induction n with
  | zero =>
    intro p hn hp hh
    refine ⟨p, (lb_mem hm hb).2 ⟨hp, ?_⟩, fun x h => h⟩
    unfold lsB
    rw [hh, Bool.not_false, Bool.true_and, List.all_eq_true]
    intro k hk
    have hk := List.mem_range.1 hk
    unfold lsA
    by_cases e : at5 p k = -1
    · rw [e]; rfl
    · have := strN_un (p := p) (by have := okW_len hp; omega) e
      omega
  | succ n ih =>
    intro p hn hp hh
    by_cases hl : ∀ k, k < m.length → lsA m b p k = true
    · refine ⟨p, (lb_mem hm hb).2 ⟨hp, ?_⟩, fun x h => h⟩
      unfold lsB
      rw [hh, Bool.not_false, Bool.true_and, List.all_eq_true]
      exact fun k hk => hl k (List.mem_range.1 hk)
    · obtain ⟨k, hk⟩ := Classical.not_forall.1 hl
      obtain ⟨hk, h2⟩ := Classical.not_imp.1 hk
      have h2 : lsA m b p k = false := by simpa using h2
      unfold lsA at h2
      rw [Bool.or_eq_false_iff] at h2
      have e : at5 p k ≠ -1 := by simpa using h2.1
      have h3 := strN_un (p := p) (by have := okW_len hp; omega) e
      obtain ⟨q, hq, hqx⟩ := ih (p.set k (-1)) (by omega) (okP_un k (okM_all hm) hp) h2.2
      exact ⟨q, hq, fun x hx => hqx x (mB_un hx)⟩

/-- a full test is a pattern that meets itself alone -/
theorem lb_bans {m x : List Int} {b : List (List Int)} (hm : okM m = true) (hb : okBn m b = true) (hx : x ∈ extS m []) : bnB (lbL m b) x = bnB b x := by
  rw [Bool.eq_iff_iff]
  unfold bnB
  rw [List.any_eq_true, List.any_eq_true]
  constructor
  · rintro ⟨q, hq, hm2⟩
    have h1 := ((lb_mem hm hb).1 hq).2
    unfold lsB at h1
    rw [Bool.and_eq_true, Bool.not_eq_true'] at h1
    have h2 := h1.1
    unfold hasP at h2
    rw [List.any_eq_false] at h2
    by_cases hb2 : bnB b x = true
    · unfold bnB at hb2; exact List.any_eq_true.1 hb2
    · exact absurd hm2 (h2 x (List.mem_filter.2 ⟨hx, by simpa using hb2⟩))
  · rintro ⟨p, hp, hpx⟩
    have hno : hasP (alL m b) p = false := by
      unfold hasP
      rw [List.any_eq_false]
      intro y hy hmy
      have := (List.mem_filter.1 hy).2
      rw [Bool.not_eq_true'] at this
      unfold bnB at this
      rw [List.any_eq_false] at this
      exact this p hp hmy
    obtain ⟨q, hq, hqx⟩ := lb_below hm hb _ p rfl (okBn_all hb hp) hno
    exact ⟨q, hq, hqx x hpx⟩

theorem lb_same {m : List Int} {a b : List (List Int)} (hm : okM m = true) (ha : okBn m a = true) (hb : okBn m b = true) : sbB m a b = decide (lbL m a = lbL m b) := by
  rw [sb_yes hm ha hb, sbF_al, Bool.eq_iff_iff, decide_eq_true_eq, decide_eq_true_eq]
  constructor
  · intro h
    rw [lb_yes hm ha, lb_yes hm hb]
    unfold lbK lsP lsB lsA
    rw [h]
  · intro h
    unfold alL
    refine List.filter_congr fun x hx => ?_
    rw [← lb_bans hm ha hx, ← lb_bans hm hb hx, h]

theorem sb_swap {m : List Int} {a b : List (List Int)} : sbB m b a = sbB m a b := by
  unfold sbB
  rw [Bool.eq_iff_iff]
  simp only [Bool.and_eq_true, sbF_al, decide_eq_true_eq]
  constructor
  · rintro ⟨⟨⟨h1, h2⟩, h3⟩, h4⟩; exact ⟨⟨⟨h1, h3⟩, h2⟩, h4.symm⟩
  · rintro ⟨⟨⟨h1, h2⟩, h3⟩, h4⟩; exact ⟨⟨⟨h1, h3⟩, h2⟩, h4.symm⟩

/-- what the drawn law of LeastBans asks of each of its rows -/
theorem lb_row {m q : List Int} {b : List (List Int)} (hm : okM m = true) (hb : okBn m b = true) (hq : q ∈ lbL m b) : okP m q = true ∧ ipB m b q = false ∧ ∀ k, k < m.length → at5 q k ≠ -1 → ipB m b (q.set k (-1)) = true := by
  obtain ⟨h1, h2⟩ := (lb_mem hm hb).1 hq
  unfold lsB at h2
  rw [Bool.and_eq_true, Bool.not_eq_true', List.all_eq_true] at h2
  refine ⟨h1, by rw [ip_yes hm hb h1]; exact h2.1, fun k hk e => ?_⟩
  have h3 := h2.2 k (List.mem_range.2 hk)
  unfold lsA at h3
  rw [Bool.or_eq_true, beq_iff_eq] at h3
  rw [ip_yes hm hb (okP_un k (okM_all hm) h1)]
  exact h3.resolve_left e

/-- and of the tests that it forbids: a test is allowed exactly when no least ban meets it -/
theorem lb_facts {m : List Int} {b : List (List Int)} (hm : okM m = true) (hb : okBn m b = true) : (∀ r ∈ apL m m.length, hasL (atL m b) r = !bnB (lbL m b) r) ∧ (∀ r ∈ apL m m.length, ∀ q ∈ lbL m b, (okM m && okP m q && okT m r && mB q r) = mB q r) := by
  refine ⟨fun r hr => ?_, fun r hr q hq => ?_⟩
  · rw [ap_full hm] at hr
    rw [lb_bans hm hb hr, Bool.eq_iff_iff, hasL_iff, at_yes hm hb]
    unfold alL
    rw [List.mem_filter]
    exact ⟨fun h => h.2, fun h => ⟨hr, h⟩⟩
  · rw [ap_full hm] at hr
    rw [hm, ((lb_mem hm hb).1 hq).1, (ext_mem hm).1 hr]; rfl

end Go.Proofs.Ytehoagbpgahopaa
