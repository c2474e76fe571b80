/- Plain facts: the fewest tests, searched by numbers whose bits choose tests. -/
import Derived.Test.YtbdbfbobcdepgaaTb
import Derived.Test.YtbdbfbobcdepgaaTc
import Derived.Test.YtbdbfbobcdepgaaNn
namespace Go.Proofs.Ytbdbfbobcdepgaa

/-- how many of the first nine bits a number has -/
def popN (x : Nat) : Nat := (List.range 9).countP fun k => x.testBit k
/-- the tests that a number chooses meet all patterns -/
def covU (xs left : List (List Int)) (c : Nat) : Bool := left.all fun p => !((c &&& bitN (rowB xs p)) == 0)
theorem and_zero {x y : Nat} : x &&& y = 0 ↔ ∀ k, ¬ (x.testBit k = true ∧ y.testBit k = true) := by
  constructor
  · rintro h k ⟨h1, h2⟩
    have : (x &&& y).testBit k = true := by rw [Nat.testBit_and, h1, h2]; rfl
    rw [h] at this; simp at this
  · intro h
    refine Nat.eq_of_testBit_eq fun k => ?_
    rw [Nat.testBit_and, Nat.zero_testBit]
    cases h1 : x.testBit k
    · rfl
    · cases h2 : y.testBit k
      · rfl
      · exact absurd ⟨h1, h2⟩ (h k)
def bitsL (N c : Nat) : List Bool := (List.range N).map fun k => c.testBit k
theorem bitsL_len (N c : Nat) : (bitsL N c).length = N := by simp [bitsL]
theorem bitsL_at {N c k : Nat} (h : k < N) : (bitsL N c)[k]? = some (c.testBit k) := by simp [bitsL, h]
theorem bitsL_pop {N c : Nat} (hN : N ≤ 9) (hc : c < 2 ^ N) : (bitsL N c).countP id = popN c := by
  unfold bitsL popN
  rw [List.countP_map]
  have e : List.range 9 = List.range N ++ (List.range (9 - N)).map (N + ·) := by
    rw [← List.range_add]; congr 1; omega
  rw [e, List.countP_append]
  have h0 : ((List.range (9 - N)).map (N + ·)).countP (fun k => c.testBit k) = 0 := by
    rw [List.countP_eq_zero]
    intro k hk
    obtain ⟨j, _, rfl⟩ := List.mem_map.1 hk
    have : c.testBit (N + j) = false := Nat.testBit_lt_two_pow (Nat.lt_of_lt_of_le hc (Nat.pow_le_pow_right (by decide) (by omega)))
    rw [this]; simp
  rw [h0]; rfl
theorem cov_ch {xs left : List (List Int)} {c : Nat} : covU xs left c = true ↔ chB xs left (bitsL xs.length c) := by
  unfold covU chB
  rw [List.all_eq_true]
  constructor
  · intro h p hp
    have h1 := h p hp
    rw [Bool.not_eq_true', beq_eq_false_iff_ne] at h1
    have : ∃ k, c.testBit k = true ∧ (bitN (rowB xs p)).testBit k = true := by
      apply Classical.byContradiction
      intro hn
      exact h1 (and_zero.2 fun k hk => hn ⟨k, hk⟩)
    obtain ⟨k, h2, h3⟩ := this
    rw [bitN_test] at h3
    by_cases hk : k < xs.length
    · refine ⟨k, xs[k], List.getElem?_eq_getElem hk, ?_, ?_⟩
      · rw [bitsL_at hk, h2]
      · simpa [rowB, List.getD, hk] using h3
    · simp [rowB, List.getD, List.getElem?_eq_none (Nat.le_of_not_lt hk)] at h3
  · intro h p hp
    obtain ⟨k, x, h1, h2, h3⟩ := h p hp
    rw [Bool.not_eq_true', beq_eq_false_iff_ne]
    intro h0
    have hk := lt_of_at h1
    rw [bitsL_at hk] at h2
    refine and_zero.1 h0 k ⟨Option.some.inj h2, ?_⟩
    rw [bitN_test]
    simp [rowB, List.getD, h1, h3]
/-- the fewest so far -/
def fwK (xs left : List (List Int)) : Nat → Nat
  | 0 => xs.length
  | c + 1 => if covU xs left c then min (fwK xs left c) (popN c) else fwK xs left c
theorem fwK_le (xs left : List (List Int)) : ∀ c, fwK xs left c ≤ xs.length
  | 0 => Nat.le_refl _
  | c + 1 => by
    have := fwK_le xs left c
    simp only [fwK]; split <;> omega
theorem fwK_yes {xs left : List (List Int)} {c : Nat} (h : covU xs left c = true) : fwK xs left (c + 1) = min (fwK xs left c) (popN c) := by simp [fwK, h]
theorem fwK_no {xs left : List (List Int)} {c : Nat} (h : covU xs left c = false) : fwK xs left (c + 1) = fwK xs left c := by simp [fwK, h]
theorem fwK_cov {xs left : List (List Int)} : ∀ {C c : Nat}, c < C → covU xs left c = true → fwK xs left C ≤ popN c
  | C + 1, c, h, hc => by
    by_cases he : c = C
    · subst he; rw [fwK_yes hc]; omega
    · have := fwK_cov (C := C) (c := c) (by omega) hc
      simp only [fwK]; split <;> omega
theorem fwK_ge {xs left : List (List Int)} {N : Nat} (hN : xs.length = N) (h9 : N ≤ 9) (hall : muN xs left ≤ N) : ∀ C, C ≤ 2 ^ N → muN xs left ≤ fwK xs left C
  | 0, _ => by simp only [fwK]; omega
  | C + 1, h => by
    have ih := fwK_ge hN h9 hall C (by omega)
    cases hc : covU xs left C
    · rw [fwK_no hc]; exact ih
    · rw [fwK_yes hc]
      have h1 := mu_le (b := bitsL xs.length C) (bitsL_len _ _) (cov_ch.1 hc)
      rw [bitsL_pop (by omega) (by rw [hN]; omega)] at h1
      omega
theorem bitN_bits {b : List Bool} : bitsL b.length (bitN b) = b := by
  refine List.ext_getElem? fun k => ?_
  by_cases hk : k < b.length
  · rw [bitsL_at hk, bitN_test]; simp [List.getD, hk]
  · rw [List.getElem?_eq_none (by rw [bitsL_len]; omega), List.getElem?_eq_none (by omega)]
theorem fwK_mu {xs left : List (List Int)} {N : Nat} (hN : xs.length = N) (h9 : N ≤ 9) (hall : muN xs left ≤ N) : fwK xs left (2 ^ N) = muN xs left := by
  refine Nat.le_antisymm ?_ (fwK_ge hN h9 hall _ (Nat.le_refl _))
  obtain ⟨b, h1, h2, h3⟩ := mu_ex (xs := xs) (left := left) (by unfold BIG; omega)
  have hlt : bitN b < 2 ^ N := by have := bitN_lt b; rwa [h1, hN] at this
  have hb : bitsL xs.length (bitN b) = b := by rw [← h1]; exact bitN_bits
  have hc : covU xs left (bitN b) = true := cov_ch.2 (by rw [hb]; exact h2)
  have h4 := fwK_cov hlt hc
  have h5 := bitsL_pop (N := xs.length) (c := bitN b) (by omega) (by rw [hN]; exact hlt)
  rw [hb, h3] at h5
  omega


theorem fw_yes {m : List Int} {t : Int} (h : okM m = true) (h0 : 0 ≤ t) (h1 : t ≤ m.length) (h9 : (extS m []).length ≤ 9) : fwV m t = (muN (extS m []) (patS m [] t) : Nat) ∧ muN (extS m []) (patS m [] t) ≤ (extS m []).length := by
  have hall : muN (extS m []) (patS m [] t) ≤ (extS m []).length := by
    have := mu_le (xs := extS m []) (left := patS m [] t) (b := List.replicate (extS m []).length true) (by simp) fun p hp => by
      obtain ⟨x, hx, hpx⟩ := pat_full (okM_all h) ((mem_patS h).1 hp).1
      obtain ⟨k, hk⟩ := List.mem_iff_getElem?.1 ((ext_mem h).2 hx)
      exact ⟨k, x, hk, by rw [List.getElem?_replicate, if_pos (lt_of_at hk)], hpx⟩
    rw [List.countP_replicate] at this
    simpa using this
  refine ⟨?_, hall⟩
  unfold fwV
  rw [h, inR_true.2 ⟨h0, h1⟩, decide_eq_true h9]
  simp only [Bool.and_self, if_true]
  rw [smN_mu _ _ _ (by omega)]
  congr 1; omega

theorem fw_def {m : List Int} {t : Int} (h : okM m = true) (h1 : inR t 0 m.length = true) (h2 : (extS m []).length ≤ 9) : fwV m t = (smN (extS m []) (patS m [] t) (extS m []).length : Nat) := by
  unfold fwV; rw [h, h1, decide_eq_true h2]; rfl
theorem fw_no {m : List Int} {t : Int} (h : okM m = false ∨ inR t 0 m.length = false ∨ 9 < (extS m []).length) : fwV m t = -1 := by
  unfold fwV
  rcases h with h | h | h
  · rw [h]; rfl
  · rw [h, Bool.and_false]; rfl
  · rw [decide_eq_false (by omega), Bool.and_false]; rfl

end Go.Proofs.Ytbdbfbobcdepgaa
