/- Plain facts on what covers what is allowed: a lower strength too; without bans as ever. -/
import Derived.Test.YtbdbfbobcdepgaaZn
namespace Go.Proofs.Ytbdbfbobcdepgaa
open Go.RowKit

theorem mB_cons {a b : Int} {p x : List Int} : mB (a :: p) (b :: x) = ((a == -1 || a == b) && mB p x) := by simp [mB]
theorem pat_full : ∀ {m p : List Int}, m.all lvl = true → okW (-1) m p = true → ∃ x, okW 0 m x = true ∧ mB p x = true
  | [], p, _, h => by
    have := okW_len h
    cases p with
    | nil => exact ⟨[], by simp [okW], by simp [mB]⟩
    | cons a p => simp at this
  | l :: m, p, hm, h => by
    have hl := okW_len h
    cases p with
    | nil => simp at hl
    | cons a p =>
      rw [okW_cons, Bool.and_eq_true] at h
      rw [List.all_cons, Bool.and_eq_true] at hm
      have h1 := inR_true.1 h.2
      have h2 := inR_true.1 hm.1
      obtain ⟨x, hx, hmx⟩ := pat_full hm.2 h.1
      by_cases e : a = -1
      · refine ⟨0 :: x, ?_, ?_⟩
        · rw [okW_cons, hx, Bool.true_and, inR_true]; omega
        · rw [mB_cons, hmx, e]; rfl
      · refine ⟨a :: x, ?_, ?_⟩
        · rw [okW_cons, hx, Bool.true_and, inR_true]; omega
        · rw [mB_cons, hmx]; simp
theorem pat_more : ∀ {m p x : List Int}, okW (-1) m p = true → okW 0 m x = true → mB p x = true → strN p < p.length → ∃ q, okW (-1) m q = true ∧ strN q = strN p + 1 ∧ mB q x = true ∧ ∀ y, mB q y = true → mB p y = true
  | [], p, x, h, _, _, hs => by
    have hl := okW_len h
    simp at hl
    subst hl
    simp at hs
  | l :: m, p, x, h, hx, hmx, hs => by
    have hl := okW_len h
    have hlx := okW_len hx
    cases p with
    | nil => simp at hl
    | cons a p =>
      cases x with
      | nil => simp at hlx
      | cons b x =>
        rw [okW_cons, Bool.and_eq_true] at h hx
        rw [mB_cons, Bool.and_eq_true] at hmx
        have h1 := inR_true.1 h.2
        have h2 := inR_true.1 hx.2
        by_cases e : a = -1
        · subst e
          refine ⟨b :: p, ?_, ?_, ?_, fun y hy => ?_⟩
          · rw [okW_cons, h.1, Bool.true_and, inR_true]; omega
          · have hb : (b != -1) = true := by simp; omega
            rw [strN_cons, strN_cons, hb]; simp
          · rw [mB_cons, hmx.2]; simp
          · cases y with
            | nil => simp [mB]
            | cons c y => rw [mB_cons, Bool.and_eq_true] at hy; rw [mB_cons, hy.2]; rfl
        · have ha : (a != -1) = true := by simpa using e
          rw [strN_cons, ha] at hs
          obtain ⟨q, q1, q2, q3, q4⟩ := pat_more h.1 hx.1 hmx.2 (by simp at hs; omega)
          refine ⟨a :: q, ?_, ?_, ?_, fun y hy => ?_⟩
          · rw [okW_cons, q1, h.2]; rfl
          · rw [strN_cons, strN_cons, q2, ha]; simp
          · rw [mB_cons, q3, hmx.1]; rfl
          · cases y with
            | nil => simp [mB]
            | cons c y => rw [mB_cons, Bool.and_eq_true] at hy ⊢; exact ⟨hy.1, q4 y hy.2⟩

theorem ia_mono {m : List Int} {b s : List (List Int)} {t : Int} (h : iaB m b s t = true) (ht : 0 < t) : iaB m b s (t - 1) = true := by
  unfold iaB okC at h ⊢
  simp only [Bool.and_eq_true] at h ⊢
  obtain ⟨⟨⟨⟨⟨h0, h1⟩, h2⟩, h3⟩, h4⟩, h5⟩ := h
  have h2 := inR_true.1 h2
  refine ⟨⟨⟨⟨⟨h0, h1⟩, inR_true.2 ⟨by omega, by omega⟩⟩, h3⟩, h4⟩, ?_⟩
  rw [List.all_eq_true] at h5 ⊢
  intro p hp
  unfold posP at hp
  obtain ⟨hp1, hp2⟩ := List.mem_filter.1 hp
  obtain ⟨hp3, hp4⟩ := (mem_patS h0).1 hp1
  unfold hasP at hp2
  obtain ⟨x, hx, hpx⟩ := List.any_eq_true.1 hp2
  have hxT := (ext_mem h0).1 (List.mem_filter.1 hx).1
  have hpl := okW_len (lo := -1) hp3
  obtain ⟨q, q1, q2, q3, q4⟩ := pat_more hp3 hxT hpx (by omega)
  have hq : q ∈ posP m b t := by
    unfold posP
    exact List.mem_filter.2 ⟨(mem_patS h0).2 ⟨q1, by omega⟩, List.any_eq_true.2 ⟨x, hx, q3⟩⟩
  have h6 := h5 q hq
  unfold hasP at h6
  obtain ⟨y, hy, hqy⟩ := List.any_eq_true.1 h6
  exact List.any_eq_true.2 ⟨y, hy, q4 y hqy⟩

theorem alL_none {m : List Int} : alL m [] = extS m [] := by
  unfold alL
  rw [List.filter_eq_self]
  intro x _
  simp [bnB]
theorem po_free {m : List Int} {t : Int} (h : okM m = true) : posP m [] t = patS m [] t := by
  unfold posP
  rw [List.filter_eq_self]
  intro p hp
  obtain ⟨x, hx, hm⟩ := pat_full (okM_all h) ((mem_patS h).1 hp).1
  rw [alL_none]
  exact List.any_eq_true.2 ⟨x, (ext_mem h).2 hx, hm⟩
theorem ia_none {m : List Int} {s : List (List Int)} {t : Int} : iaB m [] s t = icB m s t := by
  cases h : okC m s t
  · rw [ia_no (by rw [h]; rfl), ic_no h]
  · have hm : okM m = true := by unfold okC at h; simp only [Bool.and_eq_true] at h; exact h.1.1
    rw [ic_yes h, ia_yes h (by simp [okBn]) (by simp [bnB]), po_free hm]
    unfold misL misP
    rw [Bool.eq_iff_iff, List.all_eq_true]
    simp [List.length_eq_zero_iff]


end Go.Proofs.Ytbdbfbobcdepgaa
