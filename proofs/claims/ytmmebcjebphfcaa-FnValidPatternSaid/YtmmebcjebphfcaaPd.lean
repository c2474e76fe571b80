/- Plain facts: what is missing, what a test matches. -/
import Derived.Test.YtmmebcjebphfcaaPm
namespace Go.Proofs.Ytmmebcjebphfcaa
open Go.RowKit

/-- the arguments of IsCovering -/
def okC (m : List Int) (s : List (List Int)) (t : Int) : Bool := okM m && okS m s && inR t 0 m.length
def hasP (s : List (List Int)) (p : List Int) : Bool := s.any (mB p)
theorem hasP_yes {s : List (List Int)} {p r : List Int} {k : Nat} (h : s[k]? = some r) (hm : mB p r = true) : hasP s p = true := by
  unfold hasP; rw [List.any_eq_true]; exact ⟨r, List.mem_of_getElem? h, hm⟩
theorem hasP_no {s : List (List Int)} {p : List Int} {k : Nat} (hk : s.length ≤ k) (h : (s.take k).all (fun r => !mB p r) = true) : hasP s p = false := by
  have h1 := all_whole h hk
  unfold hasP
  rw [List.any_eq_false]
  intro r hr
  have := (List.all_eq_true.1 h1) r hr
  simpa using this
theorem patsR_row : ∀ {ms : List Int} {t : Int} {l : List Int}, l ∈ patsR ms t → l.length = ms.length
  | [], t, l, h => by
    simp only [patsR] at h
    split at h
    · simp at h; subst h; rfl
    · simp at h
  | y :: ms, t, l, h => by
    simp only [patsR] at h
    split at h
    · simp at h
    · rcases List.mem_append.1 h with h | h
      · obtain ⟨x, _, h⟩ := List.mem_flatMap.1 h
        obtain ⟨r, hr, rfl⟩ := List.mem_map.1 h
        simp [patsR_row hr]
      · obtain ⟨r, hr, rfl⟩ := List.mem_map.1 h
        simp [patsR_row hr]
theorem patS_row {m : List Int} {t : Int} : ∀ l ∈ patS m [] t, l.length = m.length := by
  intro l h
  obtain ⟨r, hr, rfl⟩ := List.mem_map.1 h
  have := patsR_row hr
  simpa using this
def misP (s ps : List (List Int)) : List (List Int) := ps.filter fun p => !hasP s p
def misL (m : List Int) (s : List (List Int)) (t : Int) : List (List Int) := misP s (patS m [] t)
theorem misP_step {s ps : List (List Int)} {k : Nat} {r : List Int} (hx : ps[k]? = some r) (h : hasP s r = false) : misP s (ps.take (k + 1)) = misP s (ps.take k) ++ [r] := by
  unfold misP; rw [take_snoc hx, List.filter_append]; simp [h]
theorem misP_skip {s ps : List (List Int)} {k : Nat} {r : List Int} (hx : ps[k]? = some r) (h : hasP s r = true) : misP s (ps.take (k + 1)) = misP s (ps.take k) := by
  unfold misP; rw [take_snoc hx, List.filter_append]; simp [h]
theorem misP_len (s ps : List (List Int)) (k : Nat) : (misP s (ps.take k)).length ≤ ps.length := by
  unfold misP
  exact Nat.le_trans (List.length_filter_le _ _) (by simp; omega)
theorem misL_len {m : List Int} {s : List (List Int)} {t : Int} (h : okM m = true) : (misL m s t).length ≤ 1024 := by
  unfold misL misP
  exact Nat.le_trans (List.length_filter_le _ _) (patS_len h t)
theorem misL_row {m : List Int} {s : List (List Int)} {t : Int} : ∀ l ∈ misL m s t, l.length = m.length := fun l h => patS_row l (List.mem_filter.1 h).1
def unP (ps : List (List Int)) (T : Nat → Int) : List (List Int) := ps.filter fun p => !meet5 (at5 p) T
theorem unP_step {ps : List (List Int)} {T : Nat → Int} {k : Nat} {r : List Int} (hx : ps[k]? = some r) (h : meet5 (at5 r) T = false) : unP (ps.take (k + 1)) T = unP (ps.take k) T ++ [r] := by
  unfold unP; rw [take_snoc hx, List.filter_append]; simp [h]
theorem unP_skip {ps : List (List Int)} {T : Nat → Int} {k : Nat} {r : List Int} (hx : ps[k]? = some r) (h : meet5 (at5 r) T = true) : unP (ps.take (k + 1)) T = unP (ps.take k) T := by
  unfold unP; rw [take_snoc hx, List.filter_append]; simp [h]
theorem unP_len (ps : List (List Int)) (T : Nat → Int) (k : Nat) : (unP (ps.take k) T).length ≤ ps.length := by
  unfold unP
  exact Nat.le_trans (List.length_filter_le _ _) (by simp; omega)
theorem filt_len {α : Type} (l : List α) (f : α → Bool) : (l.filter fun x => !f x).length + l.countP f = l.length := by
  induction l with
  | nil => rfl
  | cons x l ih => cases h : f x <;> simp [h] <;> omega
def frP (ps : List (List Int)) (x : List Int) : Nat := ps.countP fun p => mB p x
theorem frP_step {ps : List (List Int)} {x : List Int} {k : Nat} {r : List Int} (hx : ps[k]? = some r) : frP (ps.take (k + 1)) x = frP (ps.take k) x + if mB r x then 1 else 0 := by
  unfold frP; rw [take_snoc hx, List.countP_append]; simp [List.countP_cons]
theorem frP_le (ps : List (List Int)) (x : List Int) (k : Nat) : frP (ps.take k) x ≤ k := Nat.le_trans List.countP_le_length (by simp; omega)
theorem okC_parts {m : List Int} {s : List (List Int)} {t : Int} (h : okC m s t = true) : okM m = true ∧ (0 ≤ t ∧ t ≤ m.length) ∧ s.length ≤ 20 ∧ ∀ r ∈ s, r.length = m.length := by
  unfold okC at h
  rw [Bool.and_eq_true, Bool.and_eq_true] at h
  exact ⟨h.1.1, inR_true.1 h.2, okS_len h.1.2, fun r hr => okW_len (okS_all h.1.2 hr)⟩
def moL (m : List Int) (s : List (List Int)) (t : Int) : List (List Int) := if okC m s t then misL m s t else []
theorem mo_yes {m : List Int} {s : List (List Int)} {t : Int} (h : okC m s t = true) : moL m s t = misL m s t := by unfold moL; rw [h]; rfl
theorem mo_no {m : List Int} {s : List (List Int)} {t : Int} (h : okC m s t = false) : moL m s t = [] := by unfold moL; rw [h]; rfl
def covA (m : List Int) (s : List (List Int)) (t : Int) : Int := if okC m s t then ((patS m [] t).length : Int) - (misL m s t).length else -1
def covB (m : List Int) (s : List (List Int)) (t : Int) : Int := if okC m s t then (patS m [] t).length else -1
theorem cov_yes {m : List Int} {s : List (List Int)} {t : Int} (h : okC m s t = true) : covA m s t = ((patS m [] t).length : Int) - (misL m s t).length ∧ covB m s t = (patS m [] t).length := by unfold covA covB; rw [h]; exact ⟨rfl, rfl⟩
theorem cov_no {m : List Int} {s : List (List Int)} {t : Int} (h : okC m s t = false) : covA m s t = -1 ∧ covB m s t = -1 := by unfold covA covB; rw [h]; exact ⟨rfl, rfl⟩
def icB (m : List Int) (s : List (List Int)) (t : Int) : Bool := okC m s t && (((misL m s t).length : Int) == 0)
theorem ic_yes {m : List Int} {s : List (List Int)} {t : Int} (h : okC m s t = true) : icB m s t = (((misL m s t).length : Int) == 0) := by unfold icB; rw [h]; rfl
theorem ic_no {m : List Int} {s : List (List Int)} {t : Int} (h : okC m s t = false) : icB m s t = false := by unfold icB; rw [h]; rfl
theorem moL_row {m : List Int} {s : List (List Int)} {t : Int} : ∀ l ∈ moL m s t, l.length = m.length ∧ m.length ≤ 5 := by
  intro l h
  cases hc : okC m s t
  · rw [mo_no hc] at h; simp at h
  · rw [mo_yes hc] at h
    exact ⟨misL_row l h, (okM_len (okC_parts hc).1).2⟩
theorem moL_len {m : List Int} {s : List (List Int)} {t : Int} : (moL m s t).length ≤ 1024 := by
  cases hc : okC m s t
  · rw [mo_no hc]; simp
  · rw [mo_yes hc]; exact misL_len (okC_parts hc).1
def apL (m : List Int) (t : Int) : List (List Int) := if okM m && inR t 0 m.length then patsR m t else []
theorem ap_yes {m : List Int} {t : Int} (h : okM m = true) (h' : inR t 0 m.length = true) : apL m t = patS m [] t := by
  unfold apL patS
  rw [h, h']; simp
theorem ap_no {m : List Int} {t : Int} (h : okM m = false ∨ inR t 0 m.length = false) : apL m t = [] := by
  unfold apL
  rcases h with h | h <;> rw [h] <;> simp
theorem patsR_full : ∀ {ms : List Int} (_ : ∀ y ∈ ms, 0 ≤ y), patsR ms ms.length = match ms with
    | [] => [[]]
    | l :: ms => (List.range l.toNat).flatMap fun (x : Nat) => (patsR ms ms.length).map ((x : Int) :: ·)
  | [], _ => by simp [patsR]
  | l :: ms, _ => by
    rw [patsR_cons (by simp; omega) (by simp)]
    rw [patsR_out (ms := ms) (t := ((l :: ms).length : Int)) (.inr (by simp; omega))]
    simp
def extS (m head : List Int) : List (List Int) := patS m head ((m.length : Int) - head.length)
def extK (m head : List Int) (k : Nat) : List (List Int) := (List.range k).flatMap fun (x : Nat) => extS m (head ++ [(x : Int)])
theorem extK_succ (m head : List Int) (k : Nat) : extK m head (k + 1) = extK m head k ++ extS m (head ++ [(k : Int)]) := by
  unfold extK; rw [List.range_succ, List.flatMap_append]; simp
theorem extS_end {m head : List Int} (hh : head.length = m.length) : extS m head = [head] := patS_end hh (by omega)
theorem extS_step {m head : List Int} {y : Int} (hy : m[head.length]? = some y) : extS m head = extK m head y.toNat := by
  have hlt := lt_of_at hy
  unfold extS
  rw [patS_step hy (by omega) (by omega), patS_out (head := head ++ [-1]) (by simp; omega) (.inr (by simp; omega)), List.append_nil]
  unfold patK extK extS
  congr 1
  funext x
  congr 1
  simp; omega
theorem ap_full {m : List Int} (h : okM m = true) : apL m m.length = extS m [] := by
  have h5 := okM_len h
  rw [ap_yes h (inR_true.2 (by omega))]
  unfold extS; simp
def agree (p q : List Int) : Bool := (p.zip q).all fun z => z.1 == -1 || z.2 == -1 || z.1 == z.2
def jnL (p q : List Int) : List Int := List.zipWith max p q
def jpB (m p q : List Int) : Bool := okM m && okP m p && okP m q && agree p q
def jpL (m p q : List Int) : List Int := if okM m && okP m p && okP m q && agree p q then jnL p q else []
theorem jp_yes {m p q : List Int} (h1 : okM m = true) (h2 : okP m p = true) (h3 : okP m q = true) (h4 : agree p q = true) : jpL m p q = jnL p q ∧ jpB m p q = true := by unfold jpL jpB; rw [h1, h2, h3, h4]; exact ⟨rfl, rfl⟩
theorem jp_no {m p q : List Int} (h : okM m = false ∨ okP m p = false ∨ okP m q = false ∨ agree p q = false) : jpL m p q = [] ∧ jpB m p q = false := by
  unfold jpL jpB
  rcases h with h | h | h | h <;> rw [h] <;> simp
theorem jp_no' {m p q : List Int} (h : (okM m && okP m p) = false) : jpL m p q = [] ∧ jpB m p q = false := by
  unfold jpL jpB
  rw [h]; simp
theorem jnL_at {p q : List Int} {k : Nat} {x y : Int} (hx : p[k]? = some x) (hy : q[k]? = some y) : (jnL p q)[k]? = some (max x y) := by simp [jnL, List.getElem?_zipWith, hx, hy]
theorem jnL_len {p q : List Int} (h : p.length = q.length) : (jnL p q).length = p.length := by simp [jnL, h]
theorem jpL_len {m p q : List Int} : (jpL m p q).length ≤ p.length := by
  unfold jpL
  split
  · simp [jnL]; omega
  · exact Nat.zero_le _
theorem apL_row {m : List Int} {t : Int} : ∀ l ∈ apL m t, l.length = m.length ∧ m.length ≤ 5 := by
  intro l h
  unfold apL at h
  split at h
  case isFalse => simp at h
  case isTrue hh =>
    rw [Bool.and_eq_true] at hh
    exact ⟨patsR_row h, (okM_len hh.1).2⟩
theorem apL_len {m : List Int} {t : Int} : (apL m t).length ≤ 1024 := by
  cases h : okM m
  · rw [ap_no (.inl h)]; simp
  cases h' : inR t 0 m.length
  · rw [ap_no (.inr h')]; simp
  rw [ap_yes h h']; exact patS_len h t
theorem sumL_le {n : Nat} : ∀ {mm : List (List Int)} (_ : ∀ r ∈ mm, r.length ≤ n), sumL mm ≤ n * mm.length
  | [], _ => by simp [sumL]
  | r :: rs, h => by
    have h1 := h r (List.mem_cons_self ..)
    have h2 := sumL_le (mm := rs) fun r hr => h r (List.mem_cons_of_mem _ hr)
    rw [sumL_cons, List.length_cons, Nat.mul_succ]; omega
theorem apL_sum {m : List Int} {t : Int} : sumL (apL m t) ≤ 5120 := by
  have h1 := sumL_le (n := 5) (mm := apL m t) fun r hr => by have := apL_row r hr; omega
  have h2 := @apL_len m t
  omega
theorem apL_gr {m : List Int} {t : Int} : True ∧ ∀ r ∈ apL m t, r.length ≤ 4611686018427387904 := ⟨trivial, fun r hr => by have := apL_row r hr; omega⟩

end Go.Proofs.Ytmmebcjebphfcaa
