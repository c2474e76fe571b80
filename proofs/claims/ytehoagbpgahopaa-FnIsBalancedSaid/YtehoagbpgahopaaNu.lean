/- Plain facts: the levels of a factor part the tests; balanced suites are balanced for fewer factors, and cover. -/
import Derived.Test.YtehoagbpgahopaaNn
import Derived.Test.YtehoagbpgahopaaNq
namespace Go.Proofs.Ytehoagbpgahopaa
open Go.RowKit

def sumQ (s : List (List Int)) (p : List Int) (f k : Nat) : Nat := ((List.range k).map fun (y : Nat) => s.countP fun r => mB (p.set f (y : Int)) r).sum
theorem sumQ_zero (s : List (List Int)) (p : List Int) (f : Nat) : sumQ s p f 0 = 0 := rfl
theorem sumQ_succ (s : List (List Int)) (p : List Int) (f k : Nat) : sumQ s p f (k + 1) = sumQ s p f k + s.countP fun r => mB (p.set f (k : Int)) r := by
  unfold sumQ; rw [List.range_succ, List.map_append, List.sum_append]; simp
theorem mB_set {p r : List Int} {f : Nat} {z : Int} (hl : p.length = r.length) (hp : p[f]? = some (-1)) (hr : r[f]? = some z) (y : Nat) : mB (p.set f (y : Int)) r = (mB p r && decide ((y : Int) = z)) := by
  unfold mB
  induction p generalizing r f with
  | nil => simp at hp
  | cons a p ih => cases r with
    | nil => simp at hl
    | cons b r => cases f with
      | zero =>
        simp at hp hr
        subst hp hr
        have h1 : ((y : Int) == -1) = false := by rw [beq_eq_false_iff_ne]; omega
        simp only [List.set_cons_zero, List.zip_cons_cons, List.all_cons, h1]
        cases (p.zip r).all fun x => x.1 == -1 || x.1 == x.2 <;> simp
        by_cases h : (y : Int) = b <;> simp [h]
      | succ f =>
        simp at hp hr
        have := ih (r := r) (f := f) (by simpa using hl) hp hr
        simp only [List.set_cons_succ, List.zip_cons_cons, List.all_cons, this, Bool.and_assoc]
theorem sum_one (z : Nat) (v : Nat) : ∀ k : Nat, ((List.range k).map fun (y : Nat) => if y = z then v else 0).sum = if z < k then v else 0
  | 0 => by simp
  | k + 1 => by
    rw [List.range_succ, List.map_append, List.sum_append, sum_one z v k]
    simp only [List.map_cons, List.map_nil, List.sum_cons, List.sum_nil]
    by_cases h : k = z
    · rw [if_neg (by omega), if_pos h, if_pos (by omega)]; omega
    · rw [if_neg h]
      by_cases h2 : z < k
      · rw [if_pos h2, if_pos (by omega)]; omega
      · rw [if_neg h2, if_neg (by omega)]; rfl
theorem sum_zero : ∀ l : List Nat, (l.map fun _ => 0).sum = 0
  | [] => rfl
  | x :: l => by simp only [List.map_cons, List.sum_cons, sum_zero l]
theorem sum_add (f g : Nat → Nat) : ∀ l : List Nat, (l.map fun y => f y + g y).sum = (l.map f).sum + (l.map g).sum
  | [] => rfl
  | x :: l => by simp only [List.map_cons, List.sum_cons, sum_add f g l]; omega
theorem sumQ_all {p : List Int} {f : Nat} {mf : Nat} (hp : p[f]? = some (-1)) : ∀ (s : List (List Int)), (∀ r ∈ s, p.length = r.length ∧ ∃ z : Nat, r[f]? = some (z : Int) ∧ z < mf) → sumQ s p f mf = s.countP fun r => mB p r
  | [], _ => by
    unfold sumQ
    simp only [List.countP_nil]
    exact sum_zero _
  | r :: s, h => by
    have ih := sumQ_all hp s fun q hq => h q (List.mem_cons_of_mem _ hq)
    obtain ⟨hl, z, hz, hzm⟩ := h r (List.mem_cons_self ..)
    rw [List.countP_cons, ← ih]
    unfold sumQ
    have h1 : (fun (y : Nat) => (r :: s).countP fun r => mB (p.set f (y : Int)) r) = fun (y : Nat) => (s.countP fun r => mB (p.set f (y : Int)) r) + if y = z then (if mB p r = true then 1 else 0) else 0 := by
      funext y
      rw [List.countP_cons, mB_set hl hp hz y]
      by_cases hyz : y = z
      · subst hyz; simp
      · rw [if_neg hyz, show decide ((y : Int) = (z : Int)) = false from by simp; omega]; simp
    rw [h1, sum_add, sum_one, if_pos hzm]
theorem okP_set {m p : List Int} {f mf y : Nat} (h : okP m p = true) (hm : m[f]? = some (mf : Int)) (hy : y < mf) : okP m (p.set f (y : Int)) = true := by
  have h1 := okW_len h
  unfold okP okW
  rw [Bool.and_eq_true, decide_eq_true_eq, List.all_eq_true]
  refine ⟨by simpa using h1, fun z hz => ?_⟩
  obtain ⟨k, hk⟩ := List.getElem?_of_mem hz
  rw [List.getElem?_zip_eq_some] at hk
  by_cases hkf : k = f
  · subst hkf
    have hkl := lt_of_at hk.1
    rw [List.getElem?_set_self (by simpa using hkl)] at hk
    rw [hm] at hk
    have h3 := Option.some.inj hk.1
    have h4 := Option.some.inj hk.2
    rw [← h3, ← h4]
    exact inR_true.2 (by omega)
  · rw [List.getElem?_set_ne (by omega)] at hk
    have h7 := okW_at h hk.1 hk.2
    exact inR_true.2 (by omega)
theorem ho_rows {m p : List Int} {s : List (List Int)} {f mf : Nat} (hs : okS m s = true) (hp : okP m p = true) (hm : m[f]? = some (mf : Int)) : ∀ r ∈ s, p.length = r.length ∧ ∃ z : Nat, r[f]? = some (z : Int) ∧ z < mf := by
  intro r hr
  have h1 := okS_all hs hr
  have h2 := okW_len h1
  have h3 := okW_len hp
  refine ⟨by omega, ?_⟩
  obtain ⟨z, hz⟩ := at_of_lt (show f < r.length by have := lt_of_at hm; omega)
  have h4 := okW_at h1 hz hm
  obtain ⟨q, rfl⟩ := Int.eq_ofNat_of_zero_le (show 0 ≤ z by omega)
  exact ⟨q, hz, by omega⟩

theorem ba_get {m p q : List Int} {s : List (List Int)} {t : Int} (h : baP m s t = true) (hp : p ∈ patS m [] t) (hq : q ∈ patS m [] t) (ha : alB p q = true) : baP.frQ s p = baP.frQ s q := by
  unfold baP at h
  rw [List.all_eq_true] at h
  have h1 := h p hp
  rw [List.all_eq_true] at h1
  have h2 := h1 q hq
  rw [ha] at h2
  simpa using h2
theorem any_free {p : List Int} (h : strN p < p.length) : ∃ f : Nat, p[f]? = some (-1) := by
  have h1 : ¬ ∀ x ∈ p, x ≠ -1 := fun e => by have := strN_full.2 e; omega
  have h2 : ∃ x, x ∈ p ∧ x = -1 := by
    apply Classical.byContradiction
    intro hn
    exact h1 fun x hx e => hn ⟨x, hx, e⟩
  obtain ⟨x, hx, rfl⟩ := h2
  exact List.getElem?_of_mem hx
theorem strN_setB {p : List Int} {k : Nat} {z : Int} (hk : p[k]? = some (-1)) (hz : z ≠ -1) : strN (p.set k z) = strN p + 1 := by
  induction p generalizing k with
  | nil => simp at hk
  | cons x p ih =>
    cases k with
    | zero =>
      simp at hk
      subst hk
      rw [List.set_cons_zero, strN_cons, strN_cons]
      have : (z != -1) = true := by rw [bne_iff_ne]; exact hz
      rw [this]; simp
    | succ k =>
      rw [List.set_cons_succ, strN_cons, strN_cons, ih (by simpa using hk)]
      omega
theorem at5_setB {p : List Int} {f i : Nat} {z : Int} (hf : f < p.length) : at5 (p.set f z) i = if i = f then z else at5 p i := by
  by_cases hi : i < p.length
  · obtain ⟨x, hx⟩ := at_of_lt hi
    by_cases e : i = f
    · subst e
      rw [if_pos rfl]
      exact at5_of (by rw [List.getElem?_set_self hf])
    · rw [if_neg e, at5_of hx]
      exact at5_of (by rw [List.getElem?_set_ne (fun h => e h.symm)]; exact hx)
  · rw [if_neg (by omega), at5_out (by rw [List.length_set]; omega), at5_out (by omega)]
theorem ba_down {m : List Int} {s : List (List Int)} {t : Int} (hm : okM m = true) (hs : okS m s = true) (h : baP m s t = true) (ht : 0 < t) (ht1 : t ≤ m.length) : baP m s (t - 1) = true := by
  refine ba_true rfl fun p hp q hq ha => ?_
  have hp1 := (mem_patS hm).1 hp
  have hq1 := (mem_patS hm).1 hq
  have hpl := okW_len hp1.1
  have hql := okW_len hq1.1
  have hpq : p.length = q.length := hpl.trans hql.symm
  obtain ⟨f, hf⟩ := any_free (p := p) (by omega)
  have hfl := lt_of_at hf
  obtain ⟨y, hy⟩ := at_of_lt (m := q) (k := f) (by omega)
  have hal := (alB_iff hpq).1 ha
  have hqf : q[f]? = some (-1) := by
    have := hal f
    rw [at5_of hf, at5_of hy] at this
    have e : y = -1 := by simpa using this.symm
    rw [hy, e]
  obtain ⟨mf, hmf⟩ := at_of_lt (m := m) (k := f) (by omega)
  have hmr := okM_at hm hmf
  obtain ⟨n, rfl⟩ := Int.eq_ofNat_of_zero_le (show 0 ≤ mf by omega)
  have e1 := sumQ_all hf s (ho_rows hs hp1.1 hmf)
  have e2 := sumQ_all hqf s (ho_rows hs hq1.1 hmf)
  show s.countP (fun x => mB p x) = s.countP (fun x => mB q x)
  rw [← e1, ← e2]
  unfold sumQ
  congr 1
  refine List.map_congr_left fun x hx => ?_
  have hxn := List.mem_range.1 hx
  refine ba_get h ((mem_patS hm).2 ⟨okP_set hp1.1 hmf hxn, ?_⟩) ((mem_patS hm).2 ⟨okP_set hq1.1 hmf hxn, ?_⟩) ?_
  · rw [strN_setB hf (by omega)]; have := hp1.2; omega
  · rw [strN_setB hqf (by omega)]; have := hq1.2; omega
  · rw [alB_iff (by rw [List.length_set, List.length_set]; exact hpq)]
    intro i
    rw [at5_setB hfl, at5_setB (by omega)]
    by_cases e : i = f
    · rw [if_pos e, if_pos e]
    · rw [if_neg e, if_neg e]; exact hal i
theorem pat_res : ∀ {m p r : List Int}, okW (-1) m p = true → okW 0 m r = true → ∃ q, okW (-1) m q = true ∧ strN q = strN p ∧ mB q r = true ∧ alB p q = true
  | [], p, r, hp, hr => by
    have h1 := okW_len hp
    have h2 := okW_len hr
    simp at h1 h2
    subst h1; subst h2
    exact ⟨[], by simp [okW], rfl, by simp [mB], by simp [alB]⟩
  | l :: m, p, r, hp, hr => by
    have h1 := okW_len hp
    have h2 := okW_len hr
    cases p with
    | nil => simp at h1
    | cons a p =>
      cases r with
      | nil => simp at h2
      | cons b r =>
        rw [okW_cons, Bool.and_eq_true] at hp hr
        have i1 := inR_true.1 hp.2
        have i2 := inR_true.1 hr.2
        obtain ⟨q, q1, q2, q3, q4⟩ := pat_res hp.1 hr.1
        by_cases e : a = -1
        · subst e
          refine ⟨-1 :: q, ?_, ?_, ?_, ?_⟩
          · rw [okW_cons, q1, hp.2]; rfl
          · rw [strN_cons, strN_cons, q2]
          · rw [mB_cons, q3]; rfl
          · unfold alB at q4 ⊢; rw [List.zip_cons_cons, List.all_cons, q4]; rfl
        · have ha : (a == -1) = false := by rw [beq_eq_false_iff_ne]; exact e
          have hb : (b == -1) = false := by rw [beq_eq_false_iff_ne]; omega
          refine ⟨b :: q, ?_, ?_, ?_, ?_⟩
          · rw [okW_cons, q1, Bool.true_and, inR_true]; omega
          · rw [strN_cons, strN_cons, q2]; unfold bne; rw [ha, hb]
          · rw [mB_cons, q3]; simp
          · unfold alB at q4 ⊢; rw [List.zip_cons_cons, List.all_cons, q4]; simp only [ha, hb]; rfl
theorem ba_cov {m : List Int} {s : List (List Int)} {t : Int} (hm : okM m = true) (hs : okS m s = true) (h : baP m s t = true) (h0 : s ≠ []) : misL m s t = [] := by
  cases s with
  | nil => exact absurd rfl h0
  | cons r0 s0 =>
    unfold misL misP
    rw [List.filter_eq_nil_iff]
    intro p hp
    have hp1 := (mem_patS hm).1 hp
    obtain ⟨q, q1, q2, q3, q4⟩ := pat_res (r := r0) hp1.1 (okS_all hs (List.mem_cons_self ..))
    have hq : q ∈ patS m [] t := (mem_patS hm).2 ⟨q1, by rw [q2]; exact hp1.2⟩
    have he := ba_get h hp hq q4
    have hpos : 0 < baP.frQ (r0 :: s0) q := List.countP_pos_iff.2 ⟨r0, List.mem_cons_self .., q3⟩
    rw [← he] at hpos
    obtain ⟨x, hx, hmx⟩ := List.countP_pos_iff.1 hpos
    have : hasP (r0 :: s0) p = true := by unfold hasP; exact List.any_eq_true.2 ⟨x, hx, hmx⟩
    rw [this]; simp

end Go.Proofs.Ytehoagbpgahopaa
