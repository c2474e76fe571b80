/- Plain facts: what the laws on faults ask of suspects, culprits, suites that locate and detect, and faults that are hunted. -/
import Derived.Test.YtehoagbpgahopaaTb
namespace Go.Proofs.Ytehoagbpgahopaa

theorem bn_one (p x : List Int) : bnB [p] x = mB p x := by simp [bnB]
theorem row_one (s : List (List Int)) (p : List Int) : s.map (bnB [p]) = rowB s p := by
  unfold rowB; exact List.map_congr_left fun x _ => bn_one p x
theorem cul_row {s : List (List Int)} {f : List Bool} {p : List Int} (hl : f.length = s.length) : culF s f p = true ↔ rowB s p = f := by
  rw [culF_iff]
  constructor
  · intro h
    refine List.ext_getElem? fun k => ?_
    by_cases hk : k < s.length
    · obtain ⟨x, hx⟩ := at_of_lt hk
      obtain ⟨y, hy⟩ := at_of_lt (m := f) (k := k) (by omega)
      rw [hy]; unfold rowB; rw [List.getElem?_map, hx, Option.map_some, h k x y hx hy]
    · rw [List.getElem?_eq_none (by unfold rowB; simp; omega), List.getElem?_eq_none (by omega)]
  · rintro rfl k x y hx hy
    unfold rowB at hy
    rw [List.getElem?_map, hx, Option.map_some] at hy
    exact Option.some.inj hy
/-- a suspect meets no test that passes, and one that fails -/
theorem su_clear {s : List (List Int)} {f : List Bool} {p : List Int} (hl : f.length = s.length) (h : susF s f p = true) :
    (∀ (k : Nat) (x : List Int), s[k]? = some x → mB p x = true → f[k]? = some true) ∧ ∃ x ∈ s, mB p x = true := by
  unfold susF at h
  rw [Bool.and_eq_true, Bool.not_eq_true'] at h
  constructor
  · intro k x hx hm
    obtain ⟨y, hy⟩ := at_of_lt (m := f) (k := k) (by have := lt_of_at hx; omega)
    cases y
    · exfalso
      have := mtB_iff.2 ⟨k, x, hx, hy, hm⟩
      rw [h.2] at this; cases this
    · exact hy
  · obtain ⟨k, x, hx, _, hm⟩ := mtB_iff.1 h.1
    exact ⟨x, List.mem_of_getElem? hx, hm⟩
/-- a fault is among the suspects of its own results exactly if a test meets it -/
theorem su_fault {m : List Int} {s : List (List Int)} {p : List Int} (hm : okM m = true) (hp : okP m p = true) :
    p ∈ susP m s (s.map (bnB [p])) (strN p) ↔ 0 < s.countP fun x => mB p x := by
  unfold susP
  rw [List.mem_filter, row_one, List.countP_pos_iff]
  have hmem : p ∈ patS m [] (strN p) := (mem_patS hm).2 ⟨hp, rfl⟩
  constructor
  · rintro ⟨_, h⟩
    exact (su_clear (by simp [rowB]) h).2
  · rintro ⟨x, hx, hmx⟩
    refine ⟨hmem, ?_⟩
    unfold susF
    rw [Bool.and_eq_true, Bool.not_eq_true']
    obtain ⟨k, hk⟩ := List.mem_iff_getElem?.1 hx
    refine ⟨mtB_iff.2 ⟨k, x, hk, by unfold rowB; rw [List.getElem?_map, hk, Option.map_some, hmx], hmx⟩, ?_⟩
    cases hb : mtB false s (rowB s p) p
    · rfl
    · obtain ⟨j, y, h1, h2, h3⟩ := mtB_iff.1 hb
      unfold rowB at h2
      rw [List.getElem?_map, h1, Option.map_some, h3] at h2
      cases h2
/-- culprits tell the results -/
theorem cu_res {m : List Int} {s : List (List Int)} {f : List Bool} {t : Int} {p : List Int} (hp : p ∈ cuL m s f t) : s.map (bnB [p]) = f := by
  obtain ⟨h1, _, h3⟩ := cuL_mem hp
  rw [row_one]; exact (cul_row (jdG_m h1).2).1 h3
theorem cu_sus {m : List Int} {s : List (List Int)} {f : List Bool} {t : Int} (hf : true ∈ f) : ∀ p ∈ cuL m s f t, p ∈ suL m s f t := by
  intro p hp
  obtain ⟨h1, h2, h3⟩ := cuL_mem hp
  rw [su_yes h1]
  refine List.mem_filter.2 ⟨h2, ?_⟩
  have hl := (jdG_m h1).2
  unfold susF
  rw [Bool.and_eq_true, Bool.not_eq_true']
  obtain ⟨k, hk⟩ := List.mem_iff_getElem?.1 hf
  obtain ⟨x, hx⟩ := at_of_lt (m := s) (k := k) (by have := lt_of_at hk; omega)
  refine ⟨mtB_iff.2 ⟨k, x, hx, hk, culF_iff.1 h3 k x true hx hk⟩, ?_⟩
  cases hb : mtB false s f p
  · rfl
  · obtain ⟨j, y, e1, e2, e3⟩ := mtB_iff.1 hb
    have := culF_iff.1 h3 j y false e1 e2
    rw [this] at e3; cases e3
theorem flt_alone {α : Type} {P : α → Bool} : ∀ {l : List α} {p : α}, l.Nodup → p ∈ l → P p = true → (l.filter P = [p] ↔ ∀ q ∈ l, P q = true → q = p) := by
  intro l p hn hp hP
  constructor
  · intro h q hq hPq
    have : q ∈ l.filter P := List.mem_filter.2 ⟨hq, hPq⟩
    rw [h] at this; simpa using this
  · intro h
    have h1 : (l.filter P).Nodup := hn.filter _
    have h2 : p ∈ l.filter P := List.mem_filter.2 ⟨hp, hP⟩
    have h3 : ∀ q ∈ l.filter P, q = p := fun q hq => h q (List.mem_filter.1 hq).1 (List.mem_filter.1 hq).2
    cases hl : l.filter P with
    | nil => rw [hl] at h2; cases h2
    | cons a r =>
      rw [hl] at h1 h3
      have ha := h3 a (by simp)
      subst ha
      cases r with
      | nil => rfl
      | cons b r =>
        have hb := h3 b (by simp)
        subst hb
        simp at h1
/-- located patterns are alone with their results -/
theorem il_alone {m : List Int} {s : List (List Int)} {t : Int} (h : okC m s t = true) : ilB m s t = true ↔ ∀ p ∈ patS m [] t, cuL m s (s.map (bnB [p])) t = [p] := by
  have hj : ∀ p, jdG m s (s.map (bnB [p])) t = true := fun p => by unfold jdG; rw [h]; simp
  have hc : ∀ p ∈ patS m [] t, (cuL m s (s.map (bnB [p])) t = [p] ↔ ∀ q ∈ patS m [] t, rowB s q = rowB s p → q = p) := by
    intro p hp
    rw [cu_yes (hj p)]
    unfold culP
    rw [flt_alone nodup_patS hp ((cul_row (by simp)).2 (row_one s p).symm)]
    constructor
    · intro hq q h1 h2; exact hq q h1 ((cul_row (by simp)).2 (by rw [row_one]; exact h2))
    · intro hq q h1 h2; exact hq q h1 (by have := (cul_row (by simp)).1 h2; rwa [row_one] at this)
  unfold ilB
  rw [h, Bool.true_and, ilP_iff]
  constructor
  · intro hl p hp
    rw [hc p hp]
    intro q hq he
    obtain ⟨i, hi⟩ := List.mem_iff_getElem?.1 hp
    obtain ⟨k, hk⟩ := List.mem_iff_getElem?.1 hq
    rcases Nat.lt_trichotomy i k with h1 | h1 | h1
    · exact absurd he (hl k i q p hk hi h1)
    · subst h1; rw [hi] at hk; exact (Option.some.inj hk).symm
    · exact absurd he.symm (hl i k p q hi hk h1)
  · intro hl i k p q hp hq hki he
    have h1 := (hc p (List.mem_of_getElem? hp)).1 (hl p (List.mem_of_getElem? hp)) q (List.mem_of_getElem? hq) he.symm
    exact nodup_at nodup_patS hq hp hki h1
theorem ap_row {s : List (List Int)} {p q : List Int} (h : apB s p q = true) : rowB s p ≠ rowB s q := by
  intro he
  unfold apB at h
  obtain ⟨x, hx, h1⟩ := List.any_eq_true.1 h
  obtain ⟨k, hk⟩ := List.mem_iff_getElem?.1 hx
  have h2 : (rowB s p)[k]? = (rowB s q)[k]? := by rw [he]
  unfold rowB at h2
  rw [List.getElem?_map, List.getElem?_map, hk, Option.map_some, Option.map_some] at h2
  rw [Option.some.inj h2] at h1
  cases hq : mB q x <;> rw [hq] at h1 <;> simp at h1
/-- suites that detect locate, and cover if there are two patterns -/
theorem id_loc {m : List Int} {s : List (List Int)} {t : Int} (h : idB m s t = true) : ilB m s t = true ∧ ((patS m [] t).length < 2 ∨ icB m s t = true) := by
  unfold idB at h
  rw [Bool.and_eq_true] at h
  have hd := idP_iff.1 h.2
  constructor
  · unfold ilB
    rw [h.1, Bool.true_and, ilP_iff]
    intro i k p q hp hq hki
    exact ap_row (hd i k p q hp hq (by omega))
  · by_cases hl : (patS m [] t).length < 2
    · exact .inl hl
    · right
      rw [ic_yes h.1]
      have hmis : misL m s t = [] := by
        unfold misL misP
        rw [List.filter_eq_nil_iff]
        intro p hp
        obtain ⟨i, hi⟩ := List.mem_iff_getElem?.1 hp
        obtain ⟨k, hk, hne⟩ : ∃ k, k < (patS m [] t).length ∧ i ≠ k := by
          by_cases h0 : i = 0
          · exact ⟨1, by omega, by omega⟩
          · exact ⟨0, by omega, by omega⟩
        obtain ⟨q, hq⟩ := at_of_lt hk
        have ha := hd i k p q hi hq hne
        unfold apB at ha
        obtain ⟨x, hx, h1⟩ := List.any_eq_true.1 ha
        rw [Bool.and_eq_true] at h1
        have : hasP s p = true := List.any_eq_true.2 ⟨x, hx, h1.1⟩
        rw [this]; simp
      rw [hmis]; rfl

/-- hunting ends where no test parts what is left; the fault stays; each test takes a pattern away -/
theorem hu_end {m f : List Int} (_hm : okM m = true) : ∀ (k n : Nat) (left : List (List Int)), left.length ≤ k → f ∈ left →
    spB m (huG m f k left n).1 = false ∧ f ∈ (huG m f k left n).1 ∧ (huG m f k left n).2 + 1 ≤ n + left.length
  | 0, n, left, hl, hf => by
    have : left = [] := List.eq_nil_of_length_eq_zero (by omega)
    subst this; cases hf
  | k + 1, n, left, hl, hf => by
    have hpos : 0 < left.length := List.length_pos_of_mem hf
    cases h : spB m left
    · rw [huG_stop h]; exact ⟨h, hf, by simp; omega⟩
    · rw [huG_step h]
      have hlt := huK_lt (f := f) h
      have hf' : f ∈ huK f (bsL m left) left := List.mem_filter.2 ⟨hf, by simp⟩
      obtain ⟨h1, h2, h3⟩ := hu_end _hm k (n + 1) (huK f (bsL m left) left) (by omega) hf'
      exact ⟨h1, h2, by omega⟩
theorem hu_law {m f : List Int} (h : huB m f = true) : (∀ p ∈ huL m f, ∀ x ∈ extS m [], mB p x = mB f x) ∧ f ∈ huL m f ∧ 0 ≤ huN m f ∧ huN m f < ((patS m [] (strN f)).length : Int) := by
  have hb := h
  simp only [huB, Bool.and_eq_true] at h
  have hmem : f ∈ patS m [] (strN f) := (mem_patS h.1).2 ⟨h.2, rfl⟩
  obtain ⟨h1, h2, h3⟩ := hu_end h.1 1024 0 (patS m [] (strN f)) (patS_len h.1 _) hmem
  have hL : huL m f = (huR m f).1 := by unfold huL; rw [hb]; rfl
  have hN : huN m f = ((huR m f).2 : Int) := by unfold huN; rw [hb]; rfl
  rw [hL, hN]
  refine ⟨fun p hp x hx => ?_, h2, by omega, by unfold huR; omega⟩
  have hsp : ¬ ∃ x ∈ extS m [], 0 < frP (huR m f).1 x ∧ frP (huR m f).1 x < (huR m f).1.length := fun he => by
    have := (sp_iff h.1).2 he
    unfold huR at this; rw [h1] at this; cases this
  have hall : frP (huR m f).1 x = 0 ∨ frP (huR m f).1 x = (huR m f).1.length := by
    by_cases h0 : frP (huR m f).1 x = 0
    · exact .inl h0
    · right
      have := frP_all_le (huR m f).1 x
      by_cases hlt : frP (huR m f).1 x < (huR m f).1.length
      · exact absurd ⟨x, hx, by omega, hlt⟩ hsp
      · omega
  have key : ∀ q ∈ (huR m f).1, mB q x = decide (frP (huR m f).1 x ≠ 0) := by
    intro q hq
    rcases hall with h0 | h0
    · rw [h0]
      unfold frP at h0
      have := List.countP_eq_zero.1 h0 q hq
      simpa using this
    · have hq1 : mB q x = true := by
        unfold frP at h0
        exact List.countP_eq_length.1 h0 q hq
      have hpos : 0 < (huR m f).1.length := List.length_pos_of_mem hq
      rw [hq1, decide_eq_true (by omega)]
  rw [key p hp, key f h2]

end Go.Proofs.Ytehoagbpgahopaa
