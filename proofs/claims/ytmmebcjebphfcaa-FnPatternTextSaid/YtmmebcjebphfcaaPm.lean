/- Plain facts on patterns and tests that the promises speak of. -/
import Derived.Test.YtmmebcjebphfcaaPat
namespace Go.Proofs.Ytmmebcjebphfcaa
open Go.RowKit

theorem strN_cons (x : Int) (p : List Int) : strN (x :: p) = strN p + if x != -1 then 1 else 0 := by
  unfold strN; rw [List.countP_cons]
theorem okW_cons {lo x y : Int} {m t : List Int} : okW lo (y :: m) (x :: t) = (okW lo m t && inR x lo (y - 1)) := by
  unfold okW
  rw [Bool.eq_iff_iff]
  simp [and_comm, and_left_comm]
theorem mem_patsR : ∀ {ms : List Int} {t : Int} {p : List Int} (_ : ∀ y ∈ ms, 0 ≤ y), p ∈ patsR ms t ↔ okW (-1) ms p = true ∧ (strN p : Int) = t
  | [], t, p, _ => by
    simp only [patsR]
    cases p with
    | nil => split <;> simp_all [okW, strN] <;> omega
    | cons x p => split <;> simp [okW]
  | l :: ms, t, p, h0 => by
    have hms : ∀ y ∈ ms, 0 ≤ y := fun y hy => h0 y (List.mem_cons_of_mem _ hy)
    have hl0 : 0 ≤ l := h0 l (List.mem_cons_self ..)
    simp only [patsR]
    split
    · rename_i hc
      constructor
      · intro h; simp at h
      · rintro ⟨h1, h2⟩
        exfalso
        have h3 := okW_len h1
        have h4 := strN_le p
        rw [List.length_cons] at h3
        omega
    · rename_i hc
      rw [List.mem_append, List.mem_flatMap]
      cases p with
      | nil => simp [okW]
      | cons x p =>
        rw [okW_cons, strN_cons, Bool.and_eq_true]
        constructor
        · rintro (⟨k, hk, h⟩ | h)
          · obtain ⟨r, hr, he⟩ := List.mem_map.1 h
            obtain ⟨rfl, rfl⟩ := List.cons.inj he
            have h1 := (mem_patsR hms).1 hr
            have h2 := List.mem_range.1 hk
            refine ⟨⟨h1.1, inR_true.2 (by omega)⟩, ?_⟩
            have h3 : ((k : Int) != -1) = true := by rw [bne_iff_ne]; omega
            rw [h3]; simp; omega
          · obtain ⟨r, hr, he⟩ := List.mem_map.1 h
            obtain ⟨rfl, rfl⟩ := List.cons.inj he
            have h1 := (mem_patsR hms).1 hr
            refine ⟨⟨h1.1, inR_true.2 (by omega)⟩, ?_⟩
            simp; exact h1.2
        · rintro ⟨⟨h1, h2⟩, h3⟩
          have h4 := inR_true.1 h2
          by_cases hx : x = -1
          · subst hx
            exact .inr (List.mem_map.2 ⟨p, (mem_patsR hms).2 ⟨h1, by simpa using h3⟩, rfl⟩)
          · have h5 : (x != -1) = true := by rw [bne_iff_ne]; exact hx
            rw [h5] at h3
            refine .inl ⟨x.toNat, List.mem_range.2 (by omega), List.mem_map.2 ⟨p, (mem_patsR hms).2 ⟨h1, by simp at h3; omega⟩, ?_⟩⟩
            rw [show ((x.toNat : Nat) : Int) = x by omega]
theorem okM_ge {m : List Int} (h : okM m = true) : ∀ y ∈ m, 0 ≤ y := by
  intro y hy
  obtain ⟨k, hk⟩ := List.getElem?_of_mem hy
  have := (okM_at h hk).1
  omega
theorem mem_patS {m p : List Int} {t : Int} (h : okM m = true) : p ∈ patS m [] t ↔ okP m p = true ∧ (strN p : Int) = t := by
  unfold patS okP
  rw [← mem_patsR (okM_ge h)]
  simp
theorem strN_full {p : List Int} : strN p = p.length ↔ ∀ x ∈ p, x ≠ -1 := by
  unfold strN
  rw [List.countP_eq_length]
  simp
theorem okT_iff {m p : List Int} : okT m p = true ↔ okP m p = true ∧ strN p = p.length := by
  rw [strN_full]
  unfold okT okP
  constructor
  · intro h
    have hl := okW_len h
    refine ⟨?_, fun x hx => ?_⟩
    · unfold okW at h ⊢
      rw [Bool.and_eq_true] at h ⊢
      refine ⟨h.1, ?_⟩
      rw [List.all_eq_true] at h ⊢
      intro q hq
      have := inR_true.1 (h.2 q hq)
      exact inR_true.2 (by omega)
    · obtain ⟨k, hk⟩ := List.getElem?_of_mem hx
      obtain ⟨y, hy⟩ := at_of_lt (show k < m.length by have := lt_of_at hk; omega)
      have := (okW_at h hk hy).1
      omega
  · rintro ⟨h, hn⟩
    have hl := okW_len h
    unfold okW at h ⊢
    rw [Bool.and_eq_true] at h ⊢
    refine ⟨h.1, ?_⟩
    rw [List.all_eq_true] at h ⊢
    intro q hq
    have h1 := inR_true.1 (h.2 q hq)
    have h2 := hn q.1 (List.of_mem_zip hq).1
    exact inR_true.2 (by omega)
/-- tests are patterns of all factors -/
theorem mem_full {m p : List Int} (h : okM m = true) : p ∈ patS m [] m.length ↔ okT m p = true := by
  rw [mem_patS h, okT_iff]
  constructor
  · rintro ⟨h1, h2⟩
    have := okW_len h1
    exact ⟨h1, by omega⟩
  · rintro ⟨h1, h2⟩
    have := okW_len h1
    exact ⟨h1, by omega⟩

/-- no pattern comes twice -/
theorem nodup_patsR : ∀ {ms : List Int} {t : Int}, (patsR ms t).Nodup
  | [], t => by simp only [patsR]; split <;> simp
  | l :: ms, t => by
    simp only [patsR]
    split
    · simp
    · have hc : ∀ (x : Int) (t : Int), ((patsR ms t).map (x :: ·)).Nodup := fun x t => by
        rw [List.Nodup, List.pairwise_map]
        exact (nodup_patsR (ms := ms) (t := t)).imp fun h e => h (List.cons.inj e).2
      rw [List.nodup_append]
      refine ⟨?_, hc _ _, ?_⟩
      · induction l.toNat with
        | zero => simp
        | succ n ih =>
          rw [List.range_succ, List.flatMap_append, List.nodup_append]
          refine ⟨ih, by simpa using hc n (t - 1), ?_⟩
          intro a ha b hb he
          subst he
          obtain ⟨k, hk, h1⟩ := List.mem_flatMap.1 ha
          have hk2 := List.mem_range.1 hk
          obtain ⟨r, _, e1⟩ := List.mem_map.1 h1
          simp at hb
          obtain ⟨r2, _, e2⟩ := hb
          rw [← e2] at e1
          have := (List.cons.inj e1).1
          omega
      · intro a ha b hb he
        subst he
        obtain ⟨k, hk, h1⟩ := List.mem_flatMap.1 ha
        obtain ⟨r, _, e1⟩ := List.mem_map.1 h1
        obtain ⟨r2, _, e2⟩ := List.mem_map.1 hb
        rw [← e2] at e1
        have := (List.cons.inj e1).1
        omega
theorem nodup_patS {m : List Int} {t : Int} : (patS m [] t).Nodup := by
  unfold patS
  simpa using nodup_patsR (ms := m) (t := t)
theorem nodup_at {α : Type} {l : List α} (h : l.Nodup) {j k : Nat} {x y : α} (hx : l[j]? = some x) (hy : l[k]? = some y) (hjk : j < k) : x ≠ y := by
  have h1 := List.pairwise_iff_getElem.1 h j k (lt_of_at hx) (lt_of_at hy) hjk
  obtain ⟨_, rfl⟩ := List.getElem?_eq_some_iff.1 hx
  obtain ⟨_, rfl⟩ := List.getElem?_eq_some_iff.1 hy
  exact h1

/-- the product of numbers, each greater by d -/
def prodL (d : Int) (l : List Int) : Int := l.foldl (fun a x => a * (x + d)) 1
theorem prodL_snoc (d : Int) (l : List Int) (x : Int) : prodL d (l ++ [x]) = prodL d l * (x + d) := by simp [prodL]
theorem foldl_mul (d : Int) (l : List Int) (a : Int) : l.foldl (fun a x => a * (x + d)) a = a * prodL d l := by
  unfold prodL
  induction l generalizing a with
  | nil => simp
  | cons x l ih => rw [List.foldl_cons, List.foldl_cons, ih, ih (1 * (x + d)), Int.one_mul, Int.mul_assoc]
theorem prodL_cons (d x : Int) (l : List Int) : prodL d (x :: l) = (x + d) * prodL d l := by
  have h := foldl_mul d l (1 * (x + d))
  rw [Int.one_mul] at h
  unfold prodL at h ⊢
  rw [List.foldl_cons, Int.one_mul]
  exact h
theorem flat_len {ms : List Int} {t : Int} (n : Nat) : ((List.range n).flatMap fun (x : Nat) => (patsR ms t).map ((x : Int) :: ·)).length = n * (patsR ms t).length := by
  induction n with
  | zero => simp
  | succ n ih => rw [List.range_succ, List.flatMap_append, List.length_append, ih]; simp [Nat.succ_mul]
theorem len_full : ∀ {ms : List Int} (_ : ∀ y ∈ ms, 0 ≤ y), ((patsR ms ms.length).length : Int) = prodL 0 ms
  | [], _ => by simp [patsR, prodL]
  | l :: ms, h => by
    have hms : ∀ y ∈ ms, 0 ≤ y := fun y hy => h y (List.mem_cons_of_mem _ hy)
    have hl0 : 0 ≤ l := h l (List.mem_cons_self ..)
    rw [patsR_cons (by simp; omega) (by simp), List.length_append, List.length_map, patsR_out (ms := ms) (t := ((l :: ms).length : Int)) (.inr (by simp; omega)), flat_len]
    have e : (((l :: ms).length : Nat) : Int) - 1 = ms.length := by simp
    rw [e, prodL_cons, ← len_full hms]
    simp only [List.length_nil, Nat.add_zero, Int.natCast_mul, Int.add_zero]
    rw [show ((l.toNat : Nat) : Int) = l by omega]
/-- how many there are of all strengths below n -/
def cntP (ms : List Int) (n : Nat) : Nat := ((List.range n).map fun (k : Nat) => (patsR ms k).length).sum
theorem cntP_succ (ms : List Int) (n : Nat) : cntP ms (n + 1) = cntP ms n + (patsR ms n).length := by
  unfold cntP; rw [List.range_succ]; simp
theorem cntP_cons {l : Int} {ms : List Int} : ∀ n : Nat, n ≤ ms.length + 2 → cntP (l :: ms) n = l.toNat * cntP ms (n - 1) + cntP ms n
  | 0, _ => by simp [cntP]
  | n + 1, hn => by
    rw [cntP_succ, cntP_cons n (by omega), cntP_succ, patsR_cons (by omega) (by omega), List.length_append, List.length_map, flat_len]
    cases n with
    | zero =>
      rw [patsR_out (ms := ms) (t := ((0 : Nat) : Int) - 1) (.inl (by omega))]
      simp [cntP]
    | succ k =>
      have e : ((k + 1 : Nat) : Int) - 1 = (k : Nat) := by omega
      rw [e]
      simp only [Nat.add_sub_cancel]
      rw [cntP_succ ms k, Nat.mul_add]
      omega
theorem cnt_all : ∀ {ms : List Int} (_ : ∀ y ∈ ms, 0 ≤ y), (cntP ms (ms.length + 1) : Int) = prodL 1 ms
  | [], _ => by simp [cntP, patsR, prodL]
  | l :: ms, h => by
    have hms : ∀ y ∈ ms, 0 ≤ y := fun y hy => h y (List.mem_cons_of_mem _ hy)
    have hl0 : 0 ≤ l := h l (List.mem_cons_self ..)
    rw [cntP_cons _ (by simp), List.length_cons, Nat.add_sub_cancel, cntP_succ ms (ms.length + 1), patsR_out (ms := ms) (t := ((ms.length + 1 : Nat) : Int)) (.inr (by omega)), prodL_cons, ← cnt_all hms]
    simp only [List.length_nil, Nat.add_zero, Int.natCast_add, Int.natCast_mul]
    rw [show ((l.toNat : Nat) : Int) = l by omega, Int.add_mul, Int.one_mul]

end Go.Proofs.Ytmmebcjebphfcaa
