/- Plain facts on growth: the least number of tests, the fewest tests, one more factor, balanced suites. -/
import Derived.Test.YteoiclkipfdgpaaZn
namespace Go.Proofs.Yteoiclkipfdgpaa
/-! ### LeastTests -/
/-- where the first greatest one of the first k numbers stands -/
def mxK (l : List Int) : Nat → Nat
  | 0 => 0
  | k + 1 => if l.getD (mxK l k) 0 < l.getD k 0 then k else mxK l k
theorem mxK_one (l : List Int) : mxK l 1 = 0 := by simp [mxK]
theorem mxK_lt (l : List Int) : ∀ k, 0 < k → mxK l k < k
  | 0, h => absurd h (by omega)
  | 1, _ => by rw [mxK_one]; omega
  | k + 2, _ => by
    have := mxK_lt l (k + 1) (by omega)
    rw [mxK]
    split <;> omega
theorem mxK_max (l : List Int) : ∀ k j, j < k → l.getD j 0 ≤ l.getD (mxK l k) 0
  | 0, j, h => absurd h (by omega)
  | k + 1, j, h => by
    rw [mxK]
    by_cases hj : j < k
    · have := mxK_max l k j hj
      split <;> omega
    · have he : j = k := by omega
      subst he
      split <;> omega
def mxI (l : List Int) : Nat := mxK l l.length
/-- the product of the t greatest numbers, the greatest one taken out again and again -/
def ltG : Nat → List Int → Int → Int
  | 0, _, out => out
  | k + 1, l, out => ltG k (l.eraseIdx (mxI l)) (out * l.getD (mxI l) 0)
theorem ltG_succ (k : Nat) (l : List Int) (out : Int) : ltG (k + 1) l out = ltG k (l.eraseIdx (mxI l)) (out * l.getD (mxI l) 0) := rfl
def ltV (m : List Int) (t : Int) : Int := if okM m && inR t 0 m.length then ltG t.toNat m 1 else -1
theorem lt_yes {m : List Int} {t : Int} (h : okM m = true) (h0 : 0 ≤ t) (h1 : t ≤ m.length) : ltV m t = ltG t.toNat m 1 := by
  unfold ltV; rw [h, inR_true.2 ⟨h0, h1⟩]; rfl
theorem lt_no {m : List Int} {t : Int} (h : (okM m && inR t 0 m.length) = false) : ltV m t = -1 := by unfold ltV; rw [h]; rfl
theorem foldl_mul1 (l : List Int) (a : Int) : l.foldl (fun a x => a * x) a = a * l.foldl (fun a x => a * x) 1 := by
  induction l generalizing a with
  | nil => simp
  | cons x l ih => rw [List.foldl_cons, List.foldl_cons, ih, ih (1 * x)]; rw [Int.one_mul, Int.mul_assoc]
/-- .. out of the numbers in order -/
theorem lt_sorted : ∀ (t : Nat) (l S : List Int) (out : Int), S.Perm l → S.Pairwise (· ≤ ·) → t ≤ l.length → ltG t l out = out * (S.drop (S.length - t)).foldl (fun a x => a * x) 1
  | 0, l, S, out, _, _, _ => by simp [ltG]
  | t + 1, l, S, out, hp, hs, ht => by
    have hlen := hp.length_eq
    have hl0 : 0 < l.length := by omega
    have hi : mxI l < l.length := mxK_lt l l.length hl0
    have hg : l.getD (mxI l) 0 = l[mxI l] := by simp [List.getD, hi]
    have hSne : S ≠ [] := by intro h; rw [h] at hlen; simp at hlen; omega
    have hdl : S.dropLast ++ [S.getLast hSne] = S := List.dropLast_concat_getLast hSne
    have hmaxS : ∀ x ∈ S, x ≤ S.getLast hSne := by
      intro x hx
      rw [← hdl, List.mem_append] at hx
      rw [← hdl, List.pairwise_append] at hs
      rcases hx with hx | hx
      · exact hs.2.2 x hx _ (by simp)
      · rw [List.mem_singleton.1 hx]; exact Int.le_refl _
    have hmaxl : ∀ x ∈ l, x ≤ l[mxI l] := by
      intro x hx
      obtain ⟨j, hj, rfl⟩ := List.mem_iff_getElem.1 hx
      have := mxK_max l l.length j hj
      rw [show mxK l l.length = mxI l from rfl, hg] at this
      simpa [List.getD, hj] using this
    have hv : l[mxI l] = S.getLast hSne := by
      have h1 := hmaxS _ (hp.mem_iff.2 (List.getElem_mem hi))
      have h2 := hmaxl _ (hp.mem_iff.1 (List.getLast_mem hSne))
      omega
    have hperm : S.dropLast.Perm (l.eraseIdx (mxI l)) := by
      have h1 : (l[mxI l] :: l.eraseIdx (mxI l)).Perm l := by
        rw [List.eraseIdx_eq_take_drop_succ]
        refine List.perm_middle.symm.trans ?_
        rw [← List.drop_eq_getElem_cons hi, List.take_append_drop]
      have h2 : (S.getLast hSne :: S.dropLast).Perm S := by
        have h3 : (S.getLast hSne :: S.dropLast).Perm (S.dropLast ++ [S.getLast hSne]) := (List.perm_append_singleton _ _).symm
        rwa [hdl] at h3
      have h4 := (h2.trans hp).trans h1.symm
      rw [hv] at h4
      exact (List.perm_cons _).1 h4
    have hsd : S.dropLast.Pairwise (· ≤ ·) := hs.sublist (List.dropLast_sublist S)
    have hle : t ≤ (l.eraseIdx (mxI l)).length := by rw [List.length_eraseIdx_of_lt hi]; omega
    rw [ltG_succ, lt_sorted t _ _ _ hperm hsd hle, hg, hv]
    have hd : S.drop (S.length - (t + 1)) = S.dropLast.drop (S.dropLast.length - t) ++ [S.getLast hSne] := by
      have hSl : S.dropLast.length = S.length - 1 := List.length_dropLast
      have h5 : S.length - (t + 1) ≤ S.dropLast.length := by omega
      conv => lhs; rw [← hdl]
      rw [List.length_append, List.length_singleton, hSl, List.drop_append_of_le_length (by omega)]
      congr 2; omega
    rw [hd, List.foldl_append, List.foldl_cons, List.foldl_nil, Int.mul_assoc]
    congr 1
    exact Int.mul_comm _ _

/-! ### FewestTests -/
/-- the least number of tests of a list that match all patterns, one more than most if none do -/
def smN : List (List Int) → List (List Int) → Nat → Nat
  | [], left, most => if left = [] then 0 else most + 1
  | x :: xs, left, most => if left = [] then 0 else if most = 0 then most + 1 else
    let best := if (rstP left x).length < left.length then min (most + 1) (1 + smN xs (rstP left x) (most - 1)) else most + 1
    min best (smN xs left (min most (best - 1)))
def BIG : Nat := 1000
def muN : List (List Int) → List (List Int) → Nat
  | [], left => if left = [] then 0 else BIG
  | x :: xs, left => if left = [] then 0 else min (1 + muN xs (rstP left x)) (muN xs left)
theorem muN_nil (xs : List (List Int)) : muN xs [] = 0 := by cases xs <;> simp [muN]
theorem muN_pos {xs left : List (List Int)} (h : left ≠ []) : 1 ≤ muN xs left := by
  induction xs generalizing left with
  | nil => simp [muN, h, BIG]
  | cons x xs ih => simp only [muN, if_neg h]; have := ih h; omega
theorem rst_same {left : List (List Int)} {x : List Int} (h : ¬ (rstP left x).length < left.length) : rstP left x = left := by
  unfold rstP at *
  have h1 := List.length_filter_le (fun p => !mB p x) left
  exact List.filter_sublist.eq_of_length (by omega)
theorem smN_mu : ∀ (xs left : List (List Int)) (most : Nat), most < 900 → smN xs left most = min (muN xs left) (most + 1)
  | [], left, most, hm => by
    simp only [smN, muN]
    split
    · simp
    · unfold BIG; omega
  | x :: xs, left, most, hm => by
    simp only [smN, muN]
    by_cases hl : left = []
    · simp [hl]
    rw [if_neg hl, if_neg hl]
    have hp := muN_pos (xs := xs) hl
    by_cases h0 : most = 0
    · rw [if_pos h0]; omega
    rw [if_neg h0]
    by_cases hr : (rstP left x).length < left.length
    · rw [if_pos hr, smN_mu xs _ _ (by omega), smN_mu xs left _ (by omega)]; omega
    · rw [if_neg hr, smN_mu xs left _ (by omega), rst_same hr]; omega
/-- some of the tests, chosen by bits, match all patterns -/
def chB (xs left : List (List Int)) (b : List Bool) : Prop := ∀ p ∈ left, ∃ (k : Nat) (x : List Int), xs[k]? = some x ∧ b[k]? = some true ∧ mB p x = true
theorem mu_le : ∀ {xs left : List (List Int)} {b : List Bool}, b.length = xs.length → chB xs left b → muN xs left ≤ b.countP id
  | [], left, b, hl, h => by
    cases left with
    | nil => simp [muN]
    | cons p l => obtain ⟨k, x, hx, _⟩ := h p (by simp); simp at hx
  | x :: xs, left, [], hl, h => by simp at hl
  | x :: xs, left, c :: b, hl, h => by
    simp only [muN]
    split
    · omega
    rw [List.countP_cons]
    have hl' : b.length = xs.length := by simpa using hl
    cases c
    · have h1 := mu_le (left := left) hl' fun p hp => by
        obtain ⟨k, y, h1, h2, h3⟩ := h p hp
        cases k with
        | zero => simp at h2
        | succ k => exact ⟨k, y, by simpa using h1, by simpa using h2, h3⟩
      simp; omega
    · have h1 := mu_le (left := rstP left x) hl' fun p hp => by
        obtain ⟨hp1, hp2⟩ := List.mem_filter.1 hp
        obtain ⟨k, y, h1, h2, h3⟩ := h p hp1
        cases k with
        | zero =>
          have : x = y := by simpa using h1
          subst this
          rw [h3] at hp2; cases hp2
        | succ k => exact ⟨k, y, by simpa using h1, by simpa using h2, h3⟩
      simp; omega
theorem mu_ex : ∀ {xs left : List (List Int)}, muN xs left < BIG → ∃ b : List Bool, b.length = xs.length ∧ chB xs left b ∧ b.countP id = muN xs left
  | [], left, h => by
    simp only [muN] at h ⊢
    split at h
    · rename_i he; subst he; exact ⟨[], rfl, fun p hp => (by cases hp), by simp⟩
    · omega
  | x :: xs, left, h => by
    simp only [muN] at h ⊢
    by_cases hl : left = []
    · subst hl
      refine ⟨List.replicate (xs.length + 1) false, by simp, fun p hp => (by cases hp), ?_⟩
      rw [if_pos rfl, List.countP_eq_zero]; intro a ha; rw [(List.mem_replicate.1 ha).2]; simp
    rw [if_neg hl] at h ⊢
    by_cases hc : 1 + muN xs (rstP left x) ≤ muN xs left
    · obtain ⟨b, h1, h2, h3⟩ := mu_ex (xs := xs) (left := rstP left x) (by omega)
      refine ⟨true :: b, by simp [h1], fun p hp => ?_, by rw [List.countP_cons]; simp; omega⟩
      cases hm : mB p x
      · obtain ⟨k, y, e1, e2, e3⟩ := h2 p (List.mem_filter.2 ⟨hp, by rw [hm]; rfl⟩)
        exact ⟨k + 1, y, by simpa using e1, by simpa using e2, e3⟩
      · exact ⟨0, x, rfl, rfl, hm⟩
    · obtain ⟨b, h1, h2, h3⟩ := mu_ex (xs := xs) (left := left) (by omega)
      refine ⟨false :: b, by simp [h1], fun p hp => ?_, by rw [List.countP_cons]; simp; omega⟩
      obtain ⟨k, y, e1, e2, e3⟩ := h2 p hp
      exact ⟨k + 1, y, by simpa using e1, by simpa using e2, e3⟩
def fwV (m : List Int) (t : Int) : Int := if okM m && inR t 0 m.length && decide ((extS m []).length ≤ 9) then (smN (extS m []) (patS m [] t) (extS m []).length : Nat) else -1

/-! ### AddFactor -/
def wdC (n : Nat) (x : List Int) : List (List Int) := (List.range n).map fun (l : Nat) => x ++ [(l : Int)]
theorem wdC_succ (n : Nat) (x : List Int) : wdC (n + 1) x = wdC n x ++ [x ++ [(n : Int)]] := by simp [wdC, List.range_succ]
theorem wdC_row {n : Nat} {x r : List Int} (h : r ∈ wdC n x) : r.length = x.length + 1 := by
  simp only [wdC, List.mem_map] at h; obtain ⟨l, _, rfl⟩ := h; simp
theorem wdC_len (n : Nat) (x : List Int) : (wdC n x).length = n := by simp [wdC]
theorem wdC_ne {n : Nat} (x : List Int) (h : 0 < n) : wdC n x ≠ [] := by intro he; have := wdC_len n x; rw [he] at this; simp at this; omega
def wdB (n : Nat) (left : List (List Int)) (x : List Int) : List Int := bstL (frP left) (wdC n x)
/-- tests with a level of one more factor each, and what they leave -/
def wdG (n : Nat) : List (List Int) → List (List Int) → List (List Int) × List (List Int)
  | [], left => ([], left)
  | x :: xs, left => ((wdB n left x) :: (wdG n xs (rstP left (wdB n left x))).1, (wdG n xs (rstP left (wdB n left x))).2)
theorem wdG_snoc (n : Nat) : ∀ (xs left : List (List Int)) (x : List Int), wdG n (xs ++ [x]) left = ((wdG n xs left).1 ++ [wdB n (wdG n xs left).2 x], rstP (wdG n xs left).2 (wdB n (wdG n xs left).2 x))
  | [], left, x => by simp [wdG]
  | y :: xs, left, x => by
    simp only [List.cons_append, wdG]
    rw [wdG_snoc n xs]
theorem wdG_len (n : Nat) : ∀ (xs left : List (List Int)), (wdG n xs left).1.length = xs.length ∧ (wdG n xs left).2.length ≤ left.length
  | [], left => by simp [wdG]
  | x :: xs, left => by
    have := wdG_len n xs (rstP left (wdB n left x))
    have h2 := rstP_le left (wdB n left x)
    simp only [wdG, List.length_cons]; omega
theorem wdG_row (n : Nat) (h0 : 0 < n) : ∀ (xs left : List (List Int)) (k : Nat) (r : List Int), (wdG n xs left).1[k]? = some r → ∃ (x : List Int) (l : Nat), xs[k]? = some x ∧ l < n ∧ r = x ++ [(l : Int)]
  | [], left, k, r, h => by simp [wdG] at h
  | x :: xs, left, 0, r, h => by
    have hr : wdB n left x = r := by simpa [wdG] using h
    have hm := bstL_mem (frP left) (wdC_ne (n := n) x h0)
    rw [show bstL (frP left) (wdC n x) = r from hr] at hm
    simp only [wdC, List.mem_map, List.mem_range] at hm
    obtain ⟨l, hl, rfl⟩ := hm
    exact ⟨x, l, rfl, hl, rfl⟩
  | x :: xs, left, k + 1, r, h => by
    obtain ⟨y, l, h1, h2, h3⟩ := wdG_row n h0 xs _ k r (by simpa [wdG] using h)
    exact ⟨y, l, by simpa using h1, h2, h3⟩
theorem wdG_left (n : Nat) : ∀ (xs left : List (List Int)) (p : List Int), p ∈ (wdG n xs left).2 → p ∈ left
  | [], left, p, h => by simpa [wdG] using h
  | x :: xs, left, p, h => rstP_mem (wdG_left n xs _ p (by simpa [wdG] using h))
/-- the patterns with a level for the factor f -/
def hvF (f : Nat) (ps : List (List Int)) : List (List Int) := ps.filter fun p => !(at5 p f == -1)
theorem hvF_mem {f : Nat} {ps : List (List Int)} {p : List Int} (h : p ∈ hvF f ps) : p ∈ ps := (List.mem_filter.1 h).1
def adM (m : List Int) (l : Int) : List Int := m ++ [l]
def adW (m : List Int) (s : List (List Int)) (l t : Int) : List (List Int) := (wdG l.toNat s (hvF m.length (patS (adM m l) [] t))).1
def adG (m : List Int) (s : List (List Int)) (l t : Int) : Bool := okM m && okS m s && decide (m.length < 5) && inR l 1 3 && inR t 1 ((m.length : Int) + 1)
def adB (m : List Int) (s : List (List Int)) (l t : Int) : Bool := adG m s l t && gsB (adM m l) (adW m s l t) t
def adL (m : List Int) (s : List (List Int)) (l t : Int) : List (List Int) := if adB m s l t then gsL (adM m l) (adW m s l t) t else []
theorem adG_m {m : List Int} {s : List (List Int)} {l t : Int} (h : adG m s l t = true) : okM m = true ∧ okS m s = true ∧ m.length < 5 ∧ 1 ≤ l ∧ l ≤ 3 ∧ 1 ≤ t ∧ t ≤ (m.length : Int) + 1 := by
  simp only [adG, Bool.and_eq_true, decide_eq_true_eq] at h
  have h1 := inR_true.1 h.1.2
  have h2 := inR_true.1 h.2
  exact ⟨h.1.1.1.1, h.1.1.1.2, h.1.1.2, h1.1, h1.2, h2.1, h2.2⟩
theorem adM_ok {m : List Int} {l : Int} (h : okM m = true) (h5 : m.length < 5) (h1 : 1 ≤ l) (h3 : l ≤ 3) : okM (adM m l) = true := by
  refine okM_mk (by simp [adM]) (by simp [adM]; omega) ?_
  rw [adM, List.all_append, okM_all h, List.all_cons, List.all_nil]
  simp [lvl, inR_true.2 ⟨h1, h3⟩]
theorem okT_snoc {m x : List Int} {l y : Int} (h : okT m x = true) (h0 : 0 ≤ y) (h1 : y < l) : okT (adM m l) (x ++ [y]) = true := by
  have hl := okW_len h
  unfold okT okW at *
  simp only [Bool.and_eq_true, decide_eq_true_eq] at h ⊢
  refine ⟨by simp [adM, hl], ?_⟩
  rw [adM, List.zip_append hl, List.all_append, h.2]
  simp [inR_true.2 (⟨h0, by omega⟩ : 0 ≤ y ∧ y ≤ l - 1)]
theorem adW_ok {m : List Int} {s : List (List Int)} {l t : Int} (h : adG m s l t = true) : okC (adM m l) (adW m s l t) t = true := by
  obtain ⟨h1, h2, h3, h4, h5, h6, h7⟩ := adG_m h
  have hs := okS_len h2
  have hlen : (adW m s l t).length = s.length := (wdG_len _ _ _).1
  unfold okC
  rw [adM_ok h1 h3 h4 h5, inR_true.2 (⟨by omega, by simp [adM]; omega⟩ : 0 ≤ t ∧ t ≤ ((adM m l).length : Int)), Bool.and_true, Bool.true_and]
  unfold okS
  rw [Bool.and_eq_true, List.all_eq_true]
  refine ⟨fun r hr => ?_, by simp; omega⟩
  obtain ⟨k, hk⟩ := List.mem_iff_getElem?.1 hr
  obtain ⟨x, y, hx, hy, rfl⟩ := wdG_row l.toNat (by omega) _ _ k r hk
  exact okT_snoc (okS_all h2 (List.mem_of_getElem? hx)) (by omega) (by omega)
theorem ad_no {m : List Int} {s : List (List Int)} {l t : Int} (h : adB m s l t = false) : adL m s l t = [] := by unfold adL; rw [h]; rfl
theorem ad_eq {m : List Int} {s : List (List Int)} {l t : Int} (h : adG m s l t = true) : adL m s l t = gsL (adM m l) (adW m s l t) t ∧ adB m s l t = gsB (adM m l) (adW m s l t) t := by
  unfold adL adB
  rw [h, Bool.true_and]
  cases hb : gsB (adM m l) (adW m s l t) t
  · refine ⟨?_, rfl⟩
    unfold gsL; rw [hb]; rfl
  · exact ⟨rfl, rfl⟩
theorem adL_row {m : List Int} {s : List (List Int)} {l t : Int} : ∀ r ∈ adL m s l t, r.length ≤ 5 := by
  intro r hr
  unfold adL at hr
  split at hr
  · have := gsL_row r hr; omega
  · cases hr
theorem adL_len {m : List Int} {s : List (List Int)} {l t : Int} : (adL m s l t).length ≤ 20 := by
  unfold adL
  split
  · exact gsL_len
  · simp
theorem adL_sum {m : List Int} {s : List (List Int)} {l t : Int} : sumL (adL m s l t) ≤ 100 := sum5 adL_row adL_len
theorem adL_gr {m : List Int} {s : List (List Int)} {l t : Int} : True ∧ ∀ r ∈ adL m s l t, r.length ≤ 4611686018427387904 := ⟨trivial, fun r hr => by have := adL_row r hr; omega⟩

/-! ### IsBalanced -/
/-- two patterns have levels for the same factors -/
def alB (p q : List Int) : Bool := (p.zip q).all fun x => (x.1 == -1) == (x.2 == -1)
theorem alB_iff {p q : List Int} (hl : p.length = q.length) : alB p q = true ↔ ∀ i : Nat, (at5 p i == -1) = (at5 q i == -1) := by
  unfold alB
  rw [List.all_eq_true]
  constructor
  · intro h i
    by_cases hi : i < p.length
    · obtain ⟨x, hx⟩ := at_of_lt hi
      obtain ⟨y, hy⟩ := at_of_lt (m := q) (k := i) (by omega)
      have := h (x, y) (List.mem_iff_getElem?.2 ⟨i, zip_at hx hy⟩)
      rw [at5_of hx, at5_of hy]; simpa using this
    · rw [at5_out (by omega), at5_out (by omega)]
  · rintro h ⟨x, y⟩ hm
    obtain ⟨k, hk⟩ := List.mem_iff_getElem?.1 hm
    rw [List.getElem?_zip_eq_some] at hk
    have := h k
    rw [at5_of hk.1, at5_of hk.2] at this
    simpa using this
def baP (m : List Int) (s : List (List Int)) (t : Int) : Bool := (patS m [] t).all fun p => (patS m [] t).all fun q => !alB p q || frQ s p == frQ s q
where frQ (s : List (List Int)) (p : List Int) : Nat := s.countP fun x => mB p x
def ibB (m : List Int) (s : List (List Int)) (t : Int) : Bool := okC m s t && baP m s t

/- Plain facts on what covers what is allowed: a lower strength too; without bans as ever. -/
open Go.RowKit

theorem mB_cons {a b : Int} {p x : List Int} : mB (a :: p) (b :: x) = ((a == -1 || a == b) && mB p x) := by simp [mB]
theorem pat_full : ∀ {m p : List Int}, m.all lvl = true → okW (-1) m p = true → ∃ x, okW 0 m x = true ∧ mB p x = true
  | [], p, _, h => by
    have := okW_len h
    cases p with
    | nil => exact ⟨[], by simp [okW], by simp [mB]⟩
    | cons a p => simp at this
  | l :: m, p, hm, h => by
    have hl := okW_len h
    cases p with
    | nil => simp at hl
    | cons a p =>
      rw [okW_cons, Bool.and_eq_true] at h
      rw [List.all_cons, Bool.and_eq_true] at hm
      have h1 := inR_true.1 h.2
      have h2 := inR_true.1 hm.1
      obtain ⟨x, hx, hmx⟩ := pat_full hm.2 h.1
      by_cases e : a = -1
      · refine ⟨0 :: x, ?_, ?_⟩
        · rw [okW_cons, hx, Bool.true_and, inR_true]; omega
        · rw [mB_cons, hmx, e]; rfl
      · refine ⟨a :: x, ?_, ?_⟩
        · rw [okW_cons, hx, Bool.true_and, inR_true]; omega
        · rw [mB_cons, hmx]; simp
theorem pat_more : ∀ {m p x : List Int}, okW (-1) m p = true → okW 0 m x = true → mB p x = true → strN p < p.length → ∃ q, okW (-1) m q = true ∧ strN q = strN p + 1 ∧ mB q x = true ∧ ∀ y, mB q y = true → mB p y = true
  | [], p, x, h, _, _, hs => by
    have hl := okW_len h
    simp at hl
    subst hl
    simp at hs
  | l :: m, p, x, h, hx, hmx, hs => by
    have hl := okW_len h
    have hlx := okW_len hx
    cases p with
    | nil => simp at hl
    | cons a p =>
      cases x with
      | nil => simp at hlx
      | cons b x =>
        rw [okW_cons, Bool.and_eq_true] at h hx
        rw [mB_cons, Bool.and_eq_true] at hmx
        have h1 := inR_true.1 h.2
        have h2 := inR_true.1 hx.2
        by_cases e : a = -1
        · subst e
          refine ⟨b :: p, ?_, ?_, ?_, fun y hy => ?_⟩
          · rw [okW_cons, h.1, Bool.true_and, inR_true]; omega
          · have hb : (b != -1) = true := by simp; omega
            rw [strN_cons, strN_cons, hb]; simp
          · rw [mB_cons, hmx.2]; simp
          · cases y with
            | nil => simp [mB]
            | cons c y => rw [mB_cons, Bool.and_eq_true] at hy; rw [mB_cons, hy.2]; rfl
        · have ha : (a != -1) = true := by simpa using e
          rw [strN_cons, ha] at hs
          obtain ⟨q, q1, q2, q3, q4⟩ := pat_more h.1 hx.1 hmx.2 (by simp at hs; omega)
          refine ⟨a :: q, ?_, ?_, ?_, fun y hy => ?_⟩
          · rw [okW_cons, q1, h.2]; rfl
          · rw [strN_cons, strN_cons, q2, ha]; simp
          · rw [mB_cons, q3, hmx.1]; rfl
          · cases y with
            | nil => simp [mB]
            | cons c y => rw [mB_cons, Bool.and_eq_true] at hy ⊢; exact ⟨hy.1, q4 y hy.2⟩

theorem ia_mono {m : List Int} {b s : List (List Int)} {t : Int} (h : iaB m b s t = true) (ht : 0 < t) : iaB m b s (t - 1) = true := by
  unfold iaB okC at h ⊢
  simp only [Bool.and_eq_true] at h ⊢
  obtain ⟨⟨⟨⟨⟨h0, h1⟩, h2⟩, h3⟩, h4⟩, h5⟩ := h
  have h2 := inR_true.1 h2
  refine ⟨⟨⟨⟨⟨h0, h1⟩, inR_true.2 ⟨by omega, by omega⟩⟩, h3⟩, h4⟩, ?_⟩
  rw [List.all_eq_true] at h5 ⊢
  intro p hp
  unfold posP at hp
  obtain ⟨hp1, hp2⟩ := List.mem_filter.1 hp
  obtain ⟨hp3, hp4⟩ := (mem_patS h0).1 hp1
  unfold hasP at hp2
  obtain ⟨x, hx, hpx⟩ := List.any_eq_true.1 hp2
  have hxT := (ext_mem h0).1 (List.mem_filter.1 hx).1
  have hpl := okW_len (lo := -1) hp3
  obtain ⟨q, q1, q2, q3, q4⟩ := pat_more hp3 hxT hpx (by omega)
  have hq : q ∈ posP m b t := by
    unfold posP
    exact List.mem_filter.2 ⟨(mem_patS h0).2 ⟨q1, by omega⟩, List.any_eq_true.2 ⟨x, hx, q3⟩⟩
  have h6 := h5 q hq
  unfold hasP at h6
  obtain ⟨y, hy, hqy⟩ := List.any_eq_true.1 h6
  exact List.any_eq_true.2 ⟨y, hy, q4 y hqy⟩

theorem alL_none {m : List Int} : alL m [] = extS m [] := by
  unfold alL
  rw [List.filter_eq_self]
  intro x _
  simp [bnB]
theorem po_free {m : List Int} {t : Int} (h : okM m = true) : posP m [] t = patS m [] t := by
  unfold posP
  rw [List.filter_eq_self]
  intro p hp
  obtain ⟨x, hx, hm⟩ := pat_full (okM_all h) ((mem_patS h).1 hp).1
  rw [alL_none]
  exact List.any_eq_true.2 ⟨x, (ext_mem h).2 hx, hm⟩
theorem ia_none {m : List Int} {s : List (List Int)} {t : Int} : iaB m [] s t = icB m s t := by
  cases h : okC m s t
  · rw [ia_no (by rw [h]; rfl), ic_no h]
  · have hm : okM m = true := by unfold okC at h; simp only [Bool.and_eq_true] at h; exact h.1.1
    rw [ic_yes h, ia_yes h (by simp [okBn]) (by simp [bnB]), po_free hm]
    unfold misL misP
    rw [Bool.eq_iff_iff, List.all_eq_true]
    simp [List.length_eq_zero_iff]

end Go.Proofs.Yteoiclkipfdgpaa
