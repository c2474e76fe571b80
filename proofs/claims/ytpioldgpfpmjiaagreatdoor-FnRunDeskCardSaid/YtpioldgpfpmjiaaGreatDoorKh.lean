/- Plain facts of best tests and grown suites. -/
import Derived.Test.YtpioldgpfpmjiaaGreatDoorYd
namespace Go.Proofs.YtpioldgpfpmjiaaGreatDoor

/-- each pattern is matched by a test -/
theorem fill_ok {m p : List Int} (hM : okM m = true) (hp : okP m p = true) : okT m (p.map fun v => if v = -1 then 0 else v) = true ∧ mB p (p.map fun v => if v = -1 then 0 else v) = true := by
  have hl := okW_len hp
  constructor
  · unfold okT okW
    rw [Bool.and_eq_true, List.all_eq_true]
    refine ⟨by rw [List.length_map, decide_eq_true_eq]; exact hl, fun q hq => ?_⟩
    obtain ⟨k, hk⟩ := List.getElem?_of_mem hq
    obtain ⟨h1, h2⟩ := List.getElem?_zip_eq_some.1 hk
    rw [List.getElem?_map, Option.map_eq_some_iff] at h1
    obtain ⟨v, hv, he⟩ := h1
    have h3 := okW_at hp hv h2
    have h4 := okM_at hM h2
    rw [inR_true, ← he]
    split <;> omega
  · unfold mB
    rw [List.all_eq_true]
    intro q hq
    obtain ⟨k, hk⟩ := List.getElem?_of_mem hq
    obtain ⟨h1, h2⟩ := List.getElem?_zip_eq_some.1 hk
    rw [List.getElem?_map, Option.map_eq_some_iff] at h2
    obtain ⟨v, hv, he⟩ := h2
    rw [h1] at hv
    cases hv
    by_cases h : q.1 = -1
    · rw [h]; simp
    · rw [if_neg h] at he; rw [← he]; simp
theorem ext_hit {m p : List Int} (hM : okM m = true) (hp : okP m p = true) : ∃ x ∈ extS m [], mB p x = true := by
  have h := fill_ok hM hp
  exact ⟨_, (ext_mem hM).2 h.1, h.2⟩
theorem be_facts {m : List Int} {s : List (List Int)} {t : Int} (h : okC m s t = true) : ∃ n : Nat, frV m s (beL m s t) t = n ∧ n ≤ 1024 ∧ okT m (beL m s t) = true ∧ (beL m s t).length = m.length ∧ (∀ r ∈ apL m m.length, frV m s r t ≤ n) ∧ icB m s t = ((n : Int) == 0) := by
  have hp := okC_parts h
  have hmem := bstL_mem (frP (misL m s t)) (ext_ne hp.1)
  have ht := (ext_mem hp.1).1 hmem
  rw [be_yes h]
  have hmax := bstL_max (frP (misL m s t)) (extS m [])
  refine ⟨frP (misL m s t) (bstL (frP (misL m s t)) (extS m [])), fr_yes h ht, Nat.le_trans List.countP_le_length (misL_len hp.1), ht, ext_row _ hmem, fun r hr => ?_, ?_⟩
  · rw [ap_full hp.1] at hr
    rw [fr_yes h ((ext_mem hp.1).1 hr)]
    exact Int.ofNat_le.2 (hmax r hr)
  · rw [ic_yes h, Bool.eq_iff_iff, beq_iff_eq, beq_iff_eq]
    constructor
    · intro h0
      have : misL m s t = [] := List.eq_nil_of_length_eq_zero (by omega)
      rw [this]; simp [frP]
    · intro h0
      refine Classical.byContradiction fun hne => ?_
      obtain ⟨p, hpm⟩ : ∃ p, p ∈ misL m s t := by
        cases hh : misL m s t with
        | nil => rw [hh] at hne; simp at hne
        | cons a l => exact ⟨a, List.mem_cons_self ..⟩
      have hpp : okP m p = true := ((mem_patS hp.1).1 (List.mem_filter.1 hpm).1).1
      obtain ⟨x, hx, hm⟩ := ext_hit hp.1 hpp
      have h1 := hmax x hx
      have h2 : 0 < frP (misL m s t) x := by unfold frP; rw [List.countP_pos_iff]; exact ⟨p, hpm, hm⟩
      omega

theorem mis_snoc (m : List Int) (s : List (List Int)) (x : List Int) (t : Int) : misL m (s ++ [x]) t = rstP (misL m s t) x := by
  unfold misL misP rstP
  rw [List.filter_filter]
  apply List.filter_congr
  intro p _
  simp [hasP, Bool.and_comm]
theorem grS_facts {m : List Int} {t : Int} (hok : okM m = true) : ∀ (n : Nat) (out R : List (List Int)), R = grS (extS m []) n out (misL m out t) → R.length ≤ 20 → n + out.length = 21 → (∀ r ∈ out, okT m r = true) →
    (∀ k r, out.length ≤ k → R[k]? = some r → bstL (frP (misL m (R.take k) t)) (extS m []) = r) ∧ misL m R t = [] ∧ ∀ r ∈ R, okT m r = true
  | 0, out, R, hR, h20, hn, _ => by
    simp only [grS] at hR
    rw [hR] at h20; omega
  | n + 1, out, R, hR, h20, hn, ho => by
    by_cases hl : misL m out t = []
    · rw [hl, grS_done] at hR
      subst hR
      refine ⟨fun k r h1 h2 => ?_, hl, ho⟩
      have := lt_of_at h2; omega
    · rw [grS_step _ _ _ hl, ← mis_snoc] at hR
      have hx := bstL_mem (frP (misL m out t)) (ext_ne hok)
      obtain ⟨i1, i2, i3⟩ := grS_facts (m := m) (t := t) hok n _ R hR h20 (by simp; omega) (fun r hr => by
        rcases List.mem_append.1 hr with h | h
        · exact ho r h
        · rw [List.mem_singleton] at h; rw [h]; exact (ext_mem hok).1 hx)
      refine ⟨fun k r h1 h2 => ?_, i2, i3⟩
      by_cases hk : k = out.length
      · subst hk
        obtain ⟨more, hmore⟩ := grS_pre (extS m []) n (out ++ [bstL (frP (misL m out t)) (extS m [])]) (misL m (out ++ [bstL (frP (misL m out t)) (extS m [])]) t)
        rw [← hR] at hmore
        have e1 : R.take out.length = out := by rw [hmore]; simp
        have e2 : R[out.length]? = some (bstL (frP (misL m out t)) (extS m [])) := by rw [hmore]; simp
        rw [e1]
        rw [e2] at h2; exact Option.some.inj h2
      · exact i1 k r (by simp; omega) h2
theorem gs_facts {m : List Int} {s : List (List Int)} {t : Int} (h : gsB m s t = true) : okC m s t = true ∧ s.length ≤ (gsL m s t).length ∧ (∀ k r, s.length ≤ k → (gsL m s t)[k]? = some r → beL m ((gsL m s t).take k) t = r) ∧ icB m (gsL m s t) t = true ∧ (gsL m s t).take s.length = s := by
  have h2 := h
  unfold gsB at h2
  rw [Bool.and_eq_true, decide_eq_true_eq] at h2
  have hp := okC_parts h2.1
  have e : gsL m s t = gsR m s t := (gs_yes h2.1 h2.2).1
  rw [e]
  have hos : okS m s = true := by
    have := h2.1; unfold okC at this; rw [Bool.and_eq_true, Bool.and_eq_true] at this; exact this.1.2
  obtain ⟨f1, f2, f3⟩ := grS_facts (t := t) hp.1 (21 - s.length) s (gsR m s t) rfl h2.2 (by omega) (fun r hr => okS_all hos hr)
  have hin : inR t 0 m.length = true := inR_true.2 hp.2.1
  have hoc : ∀ k, okC m ((gsR m s t).take k) t = true := fun k => by
    unfold okC okS
    rw [hp.1, hin, Bool.true_and, Bool.and_true, Bool.and_eq_true, List.all_eq_true, decide_eq_true_eq]
    exact ⟨fun r hr => f3 r (List.mem_of_mem_take hr), by rw [List.length_take]; omega⟩
  obtain ⟨more, hmore⟩ := grS_pre (extS m []) (21 - s.length) s (misL m s t)
  have hmore : gsR m s t = s ++ more := hmore
  refine ⟨h2.1, by rw [hmore]; simp, fun k r h1 hr => ?_, ?_, by rw [hmore]; simp⟩
  · rw [be_yes (hoc k)]; exact f1 k r h1 hr
  · have h9 := hoc (gsR m s t).length
    rw [List.take_length] at h9
    rw [ic_yes h9, f2]; rfl

end Go.Proofs.YtpioldgpfpmjiaaGreatDoor
