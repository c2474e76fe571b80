/- Plain facts on faults: tests that part patterns, suspects and culprits, what tests tell apart, faults that are hunted, failures that are shrunk. -/
import Derived.Test.YtehoagbpgahopaaZn
namespace Go.Proofs.Ytehoagbpgahopaa

/-- how unevenly a test parts patterns: by how many those that it meets and the others differ -/
def unN (ps : List (List Int)) (x : List Int) : Nat := (2 * (frP ps x : Int) - ps.length).natAbs
theorem frP_all_le (ps : List (List Int)) (x : List Int) : frP ps x ≤ ps.length := List.countP_le_length
theorem unN_le (ps : List (List Int)) (x : List Int) : unN ps x ≤ ps.length := by have := frP_all_le ps x; unfold unN; omega
theorem unN_max (ps : List (List Int)) (x : List Int) : max (2 * (frP ps x : Int) - ps.length) (-(2 * (frP ps x : Int) - ps.length)) = unN ps x := by unfold unN; omega
theorem unN_lt {ps : List (List Int)} {x : List Int} : unN ps x < ps.length ↔ 0 < frP ps x ∧ frP ps x < ps.length := by have := frP_all_le ps x; unfold unN; omega
/-- how evenly -/
def sgN (ps : List (List Int)) (x : List Int) : Nat := ps.length - unN ps x
theorem sgN_lt {ps : List (List Int)} {x b : List Int} : sgN ps b < sgN ps x ↔ unN ps x < unN ps b := by
  have := unN_le ps x; have := unN_le ps b; unfold sgN; omega
theorem sgN_pos {ps : List (List Int)} {x : List Int} : 0 < sgN ps x ↔ unN ps x < ps.length := by
  have := unN_le ps x; unfold sgN; omega
/-- the test that parts them the most evenly -/
def bsL (m : List Int) (ps : List (List Int)) : List Int := bstL (sgN ps) (extS m [])
theorem bsL_mem {m : List Int} {ps : List (List Int)} (h : okM m = true) : bsL m ps ∈ extS m [] := bstL_mem _ (ext_ne h)
theorem bsL_len {m : List Int} {ps : List (List Int)} (h : okM m = true) : (bsL m ps).length = m.length := ext_row _ (bsL_mem h)
def spB (m : List Int) (ps : List (List Int)) : Bool := decide (unN ps (bsL m ps) < ps.length)
/-- SplitTest -/
def stG (m : List Int) (l : List (List Int)) : Bool := okM m && l.all (okP m) && decide (l.length ≤ 100)
theorem stG_m {m : List Int} {l : List (List Int)} (h : stG m l = true) : okM m = true ∧ (∀ p ∈ l, okP m p = true) ∧ l.length ≤ 100 := by
  simp only [stG, Bool.and_eq_true, List.all_eq_true, decide_eq_true_eq] at h; exact ⟨h.1.1, h.1.2, h.2⟩
theorem stG_mk {m : List Int} {l : List (List Int)} (h : okM m = true) (h1 : ∀ p ∈ l, okP m p = true) (h2 : l.length ≤ 100) : stG m l = true := by
  simp only [stG, Bool.and_eq_true, List.all_eq_true, decide_eq_true_eq]; exact ⟨⟨h, h1⟩, h2⟩
def stB (m : List Int) (l : List (List Int)) : Bool := stG m l && spB m l
def stL (m : List Int) (l : List (List Int)) : List Int := if stB m l then bsL m l else []
theorem st_no {m : List Int} {l : List (List Int)} (h : stB m l = false) : stL m l = [] := by unfold stL; rw [h]; rfl
theorem st_yes {m : List Int} {l : List (List Int)} (h : stB m l = true) : stL m l = bsL m l := by unfold stL; rw [h]; rfl
theorem stB_m {m : List Int} {l : List (List Int)} (h : stB m l = true) : stG m l = true ∧ spB m l = true := by
  simpa [stB] using h
theorem stL_len {m : List Int} {l : List (List Int)} : (stL m l).length ≤ 5 := by
  cases h : stB m l
  · rw [st_no h]; simp
  · have hk := (stG_m (stB_m h).1).1
    rw [st_yes h, bsL_len hk]; exact (okM_len hk).2
/-- it parts them exactly if some test does -/
theorem sp_iff {m : List Int} {ps : List (List Int)} (h : okM m = true) : spB m ps = true ↔ ∃ x ∈ extS m [], 0 < frP ps x ∧ frP ps x < ps.length := by
  unfold spB
  rw [decide_eq_true_eq]
  constructor
  · intro hl; exact ⟨bsL m ps, bsL_mem h, unN_lt.1 hl⟩
  · rintro ⟨x, hx, h1⟩
    have h2 := bstL_max (sgN ps) (extS m []) x hx
    have h3 := sgN_pos.2 (unN_lt.2 h1)
    exact sgN_pos.1 (Nat.lt_of_lt_of_le h3 h2)

/-- SuspectsOf, CulpritsOf -/
def jdG (m : List Int) (s : List (List Int)) (f : List Bool) (t : Int) : Bool := okC m s t && decide (f.length = s.length)
theorem jdG_m {m : List Int} {s : List (List Int)} {f : List Bool} {t : Int} (h : jdG m s f t = true) : okC m s t = true ∧ f.length = s.length := by
  simpa [jdG] using h
/-- a test that fails (v) or passes is met -/
def mtB (v : Bool) (s : List (List Int)) (f : List Bool) (p : List Int) : Bool := (s.zip f).any fun q => mB p q.1 && q.2 == v
theorem mtB_iff {v : Bool} {s : List (List Int)} {f : List Bool} {p : List Int} : mtB v s f p = true ↔ ∃ (k : Nat) (x : List Int), s[k]? = some x ∧ f[k]? = some v ∧ mB p x = true := by
  unfold mtB
  rw [List.any_eq_true]
  constructor
  · rintro ⟨⟨x, y⟩, hm, h⟩
    obtain ⟨k, hk⟩ := List.mem_iff_getElem?.1 hm
    rw [List.getElem?_zip_eq_some] at hk
    simp only [Bool.and_eq_true, beq_iff_eq] at h
    exact ⟨k, x, hk.1, by rw [← h.2]; exact hk.2, h.1⟩
  · rintro ⟨k, x, h1, h2, h3⟩
    exact ⟨(x, v), List.mem_iff_getElem?.2 ⟨k, zip_at h1 h2⟩, by simp [h3]⟩
theorem mtB_step {v : Bool} {s : List (List Int)} {f : List Bool} {p : List Int} {k : Nat} {x : List Int} {y : Bool} (hx : s[k]? = some x) (hy : f[k]? = some y) : mtB v (s.take (k + 1)) (f.take (k + 1)) p = (mtB v (s.take k) (f.take k) p || (mB p x && y == v)) := by
  have h1 := lt_of_at hx
  have h2 := lt_of_at hy
  unfold mtB
  rw [take_snoc hx, take_snoc hy, List.zip_append (by simp; omega), List.any_append]
  simp
theorem mtB_zero {v : Bool} {s : List (List Int)} {f : List Bool} {p : List Int} : mtB v (s.take 0) (f.take 0) p = false := by simp [mtB]
theorem mtB_end {v : Bool} {s : List (List Int)} {f : List Bool} {p : List Int} {k : Nat} (h1 : s.length ≤ k) (h2 : f.length ≤ k) : mtB v (s.take k) (f.take k) p = mtB v s f p := by
  rw [List.take_of_length_le h1, List.take_of_length_le h2]
def susF (s : List (List Int)) (f : List Bool) (p : List Int) : Bool := mtB true s f p && !mtB false s f p
def susP (m : List Int) (s : List (List Int)) (f : List Bool) (t : Int) : List (List Int) := (patS m [] t).filter (susF s f)
def suL (m : List Int) (s : List (List Int)) (f : List Bool) (t : Int) : List (List Int) := if jdG m s f t then susP m s f t else []
theorem su_yes {m : List Int} {s : List (List Int)} {f : List Bool} {t : Int} (h : jdG m s f t = true) : suL m s f t = susP m s f t := by unfold suL; rw [h]; rfl
theorem su_no {m : List Int} {s : List (List Int)} {f : List Bool} {t : Int} (h : jdG m s f t = false) : suL m s f t = [] := by unfold suL; rw [h]; rfl
def culF (s : List (List Int)) (f : List Bool) (p : List Int) : Bool := (s.zip f).all fun q => mB p q.1 == q.2
theorem culF_iff {s : List (List Int)} {f : List Bool} {p : List Int} : culF s f p = true ↔ ∀ (k : Nat) (x : List Int) (y : Bool), s[k]? = some x → f[k]? = some y → mB p x = y := by
  unfold culF
  rw [List.all_eq_true]
  constructor
  · intro h k x y hx hy
    simpa using h (x, y) (List.mem_iff_getElem?.2 ⟨k, zip_at hx hy⟩)
  · rintro h ⟨x, y⟩ hm
    obtain ⟨k, hk⟩ := List.mem_iff_getElem?.1 hm
    rw [List.getElem?_zip_eq_some] at hk
    simpa using h k x y hk.1 hk.2
theorem culF_step {s : List (List Int)} {f : List Bool} {p : List Int} {k : Nat} {x : List Int} {y : Bool} (hx : s[k]? = some x) (hy : f[k]? = some y) : culF (s.take (k + 1)) (f.take (k + 1)) p = (culF (s.take k) (f.take k) p && mB p x == y) := by
  have h1 := lt_of_at hx
  have h2 := lt_of_at hy
  unfold culF
  rw [take_snoc hx, take_snoc hy, List.zip_append (by simp; omega), List.all_append]
  simp
theorem culF_zero {s : List (List Int)} {f : List Bool} {p : List Int} : culF (s.take 0) (f.take 0) p = true := by simp [culF]
theorem culF_end {s : List (List Int)} {f : List Bool} {p : List Int} {k : Nat} (h1 : s.length ≤ k) (h2 : f.length ≤ k) : culF (s.take k) (f.take k) p = culF s f p := by
  rw [List.take_of_length_le h1, List.take_of_length_le h2]
theorem culF_fails {s : List (List Int)} {f : List Bool} {p : List Int} {k : Nat} {x : List Int} {y : Bool} (hx : s[k]? = some x) (hy : f[k]? = some y) (h : mB p x ≠ y) : culF s f p = false := by
  cases hb : culF s f p
  · rfl
  · exact absurd (culF_iff.1 hb k x y hx hy) h
def culP (m : List Int) (s : List (List Int)) (f : List Bool) (t : Int) : List (List Int) := (patS m [] t).filter (culF s f)
def cuL (m : List Int) (s : List (List Int)) (f : List Bool) (t : Int) : List (List Int) := if jdG m s f t then culP m s f t else []
theorem cu_yes {m : List Int} {s : List (List Int)} {f : List Bool} {t : Int} (h : jdG m s f t = true) : cuL m s f t = culP m s f t := by unfold cuL; rw [h]; rfl
theorem cu_no {m : List Int} {s : List (List Int)} {f : List Bool} {t : Int} (h : jdG m s f t = false) : cuL m s f t = [] := by unfold cuL; rw [h]; rfl
theorem suL_mem {m : List Int} {s : List (List Int)} {f : List Bool} {t : Int} {p : List Int} (h : p ∈ suL m s f t) : jdG m s f t = true ∧ p ∈ patS m [] t ∧ susF s f p = true := by
  cases hb : jdG m s f t
  · rw [su_no hb] at h; cases h
  · rw [su_yes hb] at h; exact ⟨rfl, List.mem_filter.1 h⟩
theorem cuL_mem {m : List Int} {s : List (List Int)} {f : List Bool} {t : Int} {p : List Int} (h : p ∈ cuL m s f t) : jdG m s f t = true ∧ p ∈ patS m [] t ∧ culF s f p = true := by
  cases hb : jdG m s f t
  · rw [cu_no hb] at h; cases h
  · rw [cu_yes hb] at h; exact ⟨rfl, List.mem_filter.1 h⟩
theorem suL_row {m : List Int} {s : List (List Int)} {f : List Bool} {t : Int} : ∀ l ∈ suL m s f t, l.length = m.length ∧ m.length ≤ 5 := fun l h => by
  obtain ⟨h1, h2, _⟩ := suL_mem h
  exact ⟨patS_row l h2, (okM_len (okC_parts (jdG_m h1).1).1).2⟩
theorem cuL_row {m : List Int} {s : List (List Int)} {f : List Bool} {t : Int} : ∀ l ∈ cuL m s f t, l.length = m.length ∧ m.length ≤ 5 := fun l h => by
  obtain ⟨h1, h2, _⟩ := cuL_mem h
  exact ⟨patS_row l h2, (okM_len (okC_parts (jdG_m h1).1).1).2⟩
theorem suL_len {m : List Int} {s : List (List Int)} {f : List Bool} {t : Int} : (suL m s f t).length ≤ 1024 := by
  cases hb : jdG m s f t
  · rw [su_no hb]; simp
  · rw [su_yes hb]; exact patS_flt_len (okC_parts (jdG_m hb).1).1
theorem cuL_len {m : List Int} {s : List (List Int)} {f : List Bool} {t : Int} : (cuL m s f t).length ≤ 1024 := by
  cases hb : jdG m s f t
  · rw [cu_no hb]; simp
  · rw [cu_yes hb]; exact patS_flt_len (okC_parts (jdG_m hb).1).1
theorem suL_sum {m : List Int} {s : List (List Int)} {f : List Bool} {t : Int} : sumL (suL m s f t) ≤ 5120 := sum5 (fun r hr => by have := suL_row r hr; omega) suL_len
theorem cuL_sum {m : List Int} {s : List (List Int)} {f : List Bool} {t : Int} : sumL (cuL m s f t) ≤ 5120 := sum5 (fun r hr => by have := cuL_row r hr; omega) cuL_len
theorem suL_gr {m : List Int} {s : List (List Int)} {f : List Bool} {t : Int} : True ∧ ∀ r ∈ suL m s f t, r.length ≤ 4611686018427387904 := ⟨trivial, fun r hr => by have := suL_row r hr; omega⟩
theorem cuL_gr {m : List Int} {s : List (List Int)} {f : List Bool} {t : Int} : True ∧ ∀ r ∈ cuL m s f t, r.length ≤ 4611686018427387904 := ⟨trivial, fun r hr => by have := cuL_row r hr; omega⟩

/-- IsLocating, IsDetecting: which tests a pattern meets -/
def rowB (s : List (List Int)) (p : List Int) : List Bool := s.map (mB p)
/-- .. as bits -/
def bitN : List Bool → Nat
  | [] => 0
  | b :: l => (if b then 1 else 0) + 2 * bitN l
theorem bitN_lt : ∀ l : List Bool, bitN l < 2 ^ l.length
  | [] => by simp [bitN]
  | b :: l => by
    have := bitN_lt l
    simp only [bitN, List.length_cons, Nat.pow_succ]
    cases b <;> simp <;> omega
theorem bitN_test : ∀ (l : List Bool) (k : Nat), (bitN l).testBit k = l.getD k false
  | [], k => by simp [bitN]
  | b :: l, 0 => by
    simp only [bitN, Nat.testBit_zero, List.getD_cons_zero]
    cases b <;> simp <;> omega
  | b :: l, k + 1 => by
    have h := bitN_test l k
    simp only [bitN, Nat.testBit_succ, List.getD_cons_succ]
    rw [← h]; congr 1
    cases b <;> simp <;> omega
theorem bitN_inj {a b : List Bool} (hl : a.length = b.length) (h : bitN a = bitN b) : a = b := by
  refine List.ext_getElem? fun k => ?_
  have h1 := bitN_test a k
  have h2 := bitN_test b k
  rw [h, h2] at h1
  by_cases hk : k < a.length
  · have hk' : k < b.length := by omega
    rw [List.getElem?_eq_getElem hk, List.getElem?_eq_getElem hk']
    simp [List.getD, List.getElem?_eq_getElem hk, List.getElem?_eq_getElem hk'] at h1
    rw [h1]
  · rw [List.getElem?_eq_none (by omega), List.getElem?_eq_none (by omega)]
theorem bitN_snoc : ∀ (l : List Bool) (b : Bool), bitN (l ++ [b]) = bitN l + if b then 2 ^ l.length else 0
  | [], b => by simp [bitN]
  | a :: l, b => by
    have := bitN_snoc l b
    simp only [List.cons_append, bitN, this, List.length_cons, Nat.pow_succ]
    cases b <;> simp <;> omega
def ilP (m : List Int) (s : List (List Int)) (t : Int) : Bool := decide ((patS m [] t).map (rowB s)).Nodup
def ilB (m : List Int) (s : List (List Int)) (t : Int) : Bool := okC m s t && ilP m s t
def apB (s : List (List Int)) (p q : List Int) : Bool := s.any fun x => mB p x && !mB q x
def idP (m : List Int) (s : List (List Int)) (t : Int) : Bool := (patS m [] t).all fun p => (patS m [] t).all fun q => p == q || apB s p q
def idB (m : List Int) (s : List (List Int)) (t : Int) : Bool := okC m s t && idP m s t
theorem idP_iff {m : List Int} {s : List (List Int)} {t : Int} : idP m s t = true ↔ ∀ (i k : Nat) (p q : List Int), (patS m [] t)[i]? = some p → (patS m [] t)[k]? = some q → i ≠ k → apB s p q = true := by
  unfold idP
  simp only [List.all_eq_true, Bool.or_eq_true, beq_iff_eq]
  constructor
  · intro h i k p q hp hq hik
    rcases h p (List.mem_of_getElem? hp) q (List.mem_of_getElem? hq) with he | h'
    · exfalso
      subst he
      rcases Nat.lt_or_gt_of_ne hik with hl | hl
      · exact nodup_at nodup_patS hp hq hl rfl
      · exact nodup_at nodup_patS hq hp hl rfl
    · exact h'
  · intro h p hp q hq
    obtain ⟨i, hi⟩ := List.mem_iff_getElem?.1 hp
    obtain ⟨k, hk⟩ := List.mem_iff_getElem?.1 hq
    by_cases hik : i = k
    · subst hik; rw [hi] at hk; left; simpa using hk
    · right; exact h i k p q hi hk hik
theorem ilP_iff {m : List Int} {s : List (List Int)} {t : Int} : ilP m s t = true ↔ ∀ (i k : Nat) (p q : List Int), (patS m [] t)[i]? = some p → (patS m [] t)[k]? = some q → k < i → rowB s p ≠ rowB s q := by
  unfold ilP
  rw [decide_eq_true_eq]
  constructor
  · intro h i k p q hp hq hik he
    exact nodup_at h (j := k) (k := i) (x := rowB s q) (y := rowB s p) (by simp [hq]) (by simp [hp]) hik he.symm
  · intro h
    rw [List.nodup_iff_pairwise_ne, List.pairwise_iff_getElem]
    intro i j hi hj hij
    simp only [List.length_map] at hi hj
    simp only [List.getElem_map]
    exact fun he => h j i _ _ (List.getElem?_eq_getElem hj) (List.getElem?_eq_getElem hi) hij he.symm
/-- one pattern's bits that are not another one's -/
theorem ap_bits {s : List (List Int)} {p q : List Int} : apB s p q = true ↔ ∃ k, (bitN (rowB s p)).testBit k = true ∧ (bitN (rowB s q)).testBit k = false := by
  unfold apB
  rw [List.any_eq_true]
  constructor
  · rintro ⟨x, hx, h⟩
    obtain ⟨k, hk⟩ := List.mem_iff_getElem?.1 hx
    simp only [Bool.and_eq_true, Bool.not_eq_true'] at h
    refine ⟨k, ?_, ?_⟩
    · rw [bitN_test]; simp [rowB, List.getD, hk, h.1]
    · rw [bitN_test]; simp [rowB, List.getD, hk, h.2]
  · rintro ⟨k, h1, h2⟩
    rw [bitN_test] at h1 h2
    by_cases hk : k < s.length
    · refine ⟨s[k], List.getElem_mem hk, ?_⟩
      simp [rowB, List.getD, hk] at h1 h2
      simp [h1, h2]
    · simp [rowB, List.getD, List.getElem?_eq_none (Nat.le_of_not_lt hk)] at h1

/-- HuntFault -/
def huK (f x : List Int) (left : List (List Int)) : List (List Int) := left.filter fun p => mB p x == mB f x
def huG (m f : List Int) : Nat → List (List Int) → Nat → List (List Int) × Nat
  | 0, left, n => (left, n)
  | k + 1, left, n => if spB m left then huG m f k (huK f (bsL m left) left) (n + 1) else (left, n)
theorem filter_lt {α : Type} {p : α → Bool} : ∀ {l : List α}, l.countP p < l.length → (l.filter p).length < l.length := fun h => by rwa [← List.countP_eq_length_filter]
theorem huK_lt {m f : List Int} {left : List (List Int)} (h : spB m left = true) : (huK f (bsL m left) left).length < left.length := by
  unfold spB at h
  rw [decide_eq_true_eq, unN_lt] at h
  unfold frP at h
  unfold huK
  cases hf : mB f (bsL m left)
  · have h1 := filt_len left fun p => mB p (bsL m left)
    have e : (fun p => mB p (bsL m left) == false) = fun p => !mB p (bsL m left) := by funext p; cases mB p (bsL m left) <;> rfl
    rw [e]; omega
  · have e : (fun p => mB p (bsL m left) == true) = fun p => mB p (bsL m left) := by funext p; cases mB p (bsL m left) <;> rfl
    rw [e]; exact filter_lt h.2
theorem huK_le (f x : List Int) (left : List (List Int)) : (huK f x left).length ≤ left.length := List.length_filter_le _ _
def huR (m f : List Int) : List (List Int) × Nat := huG m f 1024 (patS m [] (strN f)) 0
def huB (m f : List Int) : Bool := okM m && okP m f
def huL (m f : List Int) : List (List Int) := if huB m f then (huR m f).1 else []
def huN (m f : List Int) : Int := if huB m f then ((huR m f).2 : Int) else -1
theorem huG_stop {m f : List Int} {k n : Nat} {left : List (List Int)} (h : spB m left = false) : huG m f k left n = (left, n) := by
  cases k with
  | zero => rfl
  | succ k => simp [huG, h]
theorem huG_step {m f : List Int} {k n : Nat} {left : List (List Int)} (h : spB m left = true) : huG m f (k + 1) left n = huG m f k (huK f (bsL m left) left) (n + 1) := by simp [huG, h]
theorem huG_sub (m f : List Int) : ∀ (k : Nat) (left : List (List Int)) (n : Nat), ((huG m f k left n).1.Sublist left) ∧ (huG m f k left n).2 ≤ n + k
  | 0, left, n => ⟨List.Sublist.refl _, by simp [huG]⟩
  | k + 1, left, n => by
    cases h : spB m left
    · rw [huG_stop h]; exact ⟨List.Sublist.refl _, by simp⟩
    · rw [huG_step h]
      have := huG_sub m f k (huK f (bsL m left) left) (n + 1)
      exact ⟨this.1.trans List.filter_sublist, by omega⟩
theorem huL_mem {m f p : List Int} (h : p ∈ huL m f) : huB m f = true ∧ p ∈ patS m [] (strN f) := by
  unfold huL at h
  cases hb : huB m f
  · rw [hb] at h; cases h
  · rw [hb] at h; exact ⟨rfl, ((huG_sub m f 1024 _ 0).1).subset h⟩
theorem huL_row {m f : List Int} : ∀ l ∈ huL m f, l.length = m.length ∧ m.length ≤ 5 := fun l h => by
  obtain ⟨h1, h2⟩ := huL_mem h
  simp only [huB, Bool.and_eq_true] at h1
  exact ⟨patS_row l h2, (okM_len h1.1).2⟩
theorem huL_len {m f : List Int} : (huL m f).length ≤ 1024 := by
  unfold huL
  cases hb : huB m f
  · simp
  · simp only [huB, Bool.and_eq_true] at hb
    exact Nat.le_trans ((huG_sub m f 1024 _ 0).1).length_le (patS_len hb.1 _)
theorem huL_sum {m f : List Int} : sumL (huL m f) ≤ 5120 := sum5 (fun r hr => by have := huL_row r hr; omega) huL_len
theorem huL_gr {m f : List Int} : True ∧ ∀ r ∈ huL m f, r.length ≤ 4611686018427387904 := ⟨trivial, fun r hr => by have := huL_row r hr; omega⟩

/-- ShrinkFailure -/
def shS (b : List (List Int)) (fine : List Int) (out : List Int) (f : Nat) : List Int := if bnB b (out.set f (at5 fine f)) then out.set f (at5 fine f) else out
def shR (b : List (List Int)) (fine bad : List Int) (n : Nat) : List Int := (List.range n).foldl (shS b fine) bad
theorem shR_succ (b : List (List Int)) (fine bad : List Int) (n : Nat) : shR b fine bad (n + 1) = shS b fine (shR b fine bad n) n := by
  simp [shR, List.range_succ]
theorem shR_len (b : List (List Int)) (fine bad : List Int) : ∀ n, (shR b fine bad n).length = bad.length
  | 0 => rfl
  | n + 1 => by
    rw [shR_succ]; unfold shS
    split
    · rw [List.length_set]; exact shR_len b fine bad n
    · exact shR_len b fine bad n
def shG (m : List Int) (b : List (List Int)) (bad fine : List Int) : Bool := okM m && okBn m b && okT m bad && okT m fine
def shB' (m : List Int) (b : List (List Int)) (bad fine : List Int) : Bool := shG m b bad fine && bnB b bad && !bnB b fine
def shL (m : List Int) (b : List (List Int)) (bad fine : List Int) : List Int := if shB' m b bad fine then shR b fine bad m.length else []
theorem sh_yes' {m : List Int} {b : List (List Int)} {bad fine : List Int} (h : shB' m b bad fine = true) : shL m b bad fine = shR b fine bad m.length := by unfold shL; rw [h]; rfl
theorem sh_no' {m : List Int} {b : List (List Int)} {bad fine : List Int} (h : shB' m b bad fine = false) : shL m b bad fine = [] := by unfold shL; rw [h]; rfl
theorem shG_m {m : List Int} {b : List (List Int)} {bad fine : List Int} (h : shG m b bad fine = true) : okM m = true ∧ okBn m b = true ∧ okT m bad = true ∧ okT m fine = true := by
  simp only [shG, Bool.and_eq_true] at h; exact ⟨h.1.1.1, h.1.1.2, h.1.2, h.2⟩
theorem shL_len {m : List Int} {b : List (List Int)} {bad fine : List Int} : (shL m b bad fine).length ≤ 5 := by
  cases h : shB' m b bad fine
  · rw [sh_no' h]; simp
  · rw [sh_yes' h, shR_len]
    simp only [shB', Bool.and_eq_true] at h
    have := shG_m h.1.1
    rw [okW_len this.2.2.1]; exact (okM_len this.1).2

end Go.Proofs.Ytehoagbpgahopaa
