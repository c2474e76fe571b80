/- Plain facts: how many tests there must be, and why suites that cover have so many. -/
import Derived.Test.YtehoagbpgahopaaTc
import Derived.Test.YtehoagbpgahopaaNa
namespace Go.Proofs.Ytehoagbpgahopaa

/-- the product of the numbers that are marked, and the patterns with levels just there -/
def prB : List Int → List Bool → Int
  | [], _ => 1
  | _, [] => 1
  | x :: m, b :: bs => (if b then x else 1) * prB m bs
def ptB : List Int → List Bool → List (List Int)
  | [], _ => [[]]
  | _ :: _, [] => []
  | x :: m, b :: bs => if b then (List.range x.toNat).flatMap fun (y : Nat) => (ptB m bs).map ((y : Int) :: ·) else (ptB m bs).map ((-1) :: ·)
theorem flat_cons_len (L : List (List Int)) : ∀ n : Nat, ((List.range n).flatMap fun (y : Nat) => L.map ((y : Int) :: ·)).length = n * L.length
  | 0 => by simp
  | n + 1 => by rw [List.range_succ, List.flatMap_append, List.length_append, flat_cons_len L n]; simp [Nat.succ_mul]
theorem ptB_len : ∀ {m : List Int} {b : List Bool}, b.length = m.length → (∀ x ∈ m, 0 ≤ x) → ((ptB m b).length : Int) = prB m b
  | [], b, _, _ => by simp [ptB, prB]
  | x :: m, [], h, _ => by simp at h
  | x :: m, b :: bs, h, hp => by
    have ih := ptB_len (m := m) (b := bs) (by simpa using h) fun y hy => hp y (by simp [hy])
    have hx := hp x (by simp)
    cases b
    · simp [ptB, prB, ih]
    · simp only [ptB, prB, if_true]
      rw [flat_cons_len, Int.natCast_mul, ih, Int.toNat_of_nonneg hx]
theorem ptB_nodup : ∀ {m : List Int} {b : List Bool}, (ptB m b).Nodup
  | [], b => by simp [ptB]
  | x :: m, [] => by simp [ptB]
  | x :: m, b :: bs => by
    have ih := ptB_nodup (m := m) (b := bs)
    have hinj : ∀ z : Int, ((ptB m bs).map (z :: ·)).Nodup := fun z => by
      rw [List.nodup_iff_pairwise_ne, List.pairwise_map]
      rw [List.nodup_iff_pairwise_ne] at ih
      exact ih.imp fun hab he => hab (by simpa using he)
    cases b
    · simp only [ptB]; exact hinj _
    · simp only [ptB, if_true]
      rw [List.nodup_iff_pairwise_ne, List.pairwise_flatMap]
      refine ⟨fun y _ => by have := hinj (y : Int); rwa [List.nodup_iff_pairwise_ne] at this, ?_⟩
      have hr : (List.range x.toNat).Pairwise (· < ·) := List.pairwise_lt_range
      refine hr.imp fun {i j} hij p hp q hq he => ?_
      obtain ⟨p', _, rfl⟩ := List.mem_map.1 hp
      obtain ⟨q', _, rfl⟩ := List.mem_map.1 hq
      have : (i : Int) = (j : Int) := by have := congrArg List.head? he; simpa using this
      omega
theorem ptB_row : ∀ {m p : List Int} {b : List Bool}, (∀ x ∈ m, 0 ≤ x) → b.length = m.length → p ∈ ptB m b → okW (-1) m p = true ∧ strN p = b.countP id ∧ ∀ i : Nat, i < m.length → (at5 p i = -1 ↔ b.getD i false = false)
  | [], p, [], _, _, h => by
    simp [ptB] at h
    subst h
    exact ⟨by decide, by decide, fun i hi => by simp at hi⟩
  | [], p, b :: bs, _, h, _ => by simp at h
  | x :: m, p, [], _, h, _ => by simp at h
  | x :: m, p, b :: bs, hp, hl, h => by
    have hl' : bs.length = m.length := by simpa using hl
    have hx := hp x (by simp)
    have hpm : ∀ y ∈ m, 0 ≤ y := fun y hy => hp y (by simp [hy])
    cases b
    · simp only [ptB] at h
      obtain ⟨q, hq, rfl⟩ := List.mem_map.1 h
      obtain ⟨h1, h2, h3⟩ := ptB_row hpm hl' hq
      refine ⟨?_, by rw [strN_cons, h2]; simp, fun i hi => ?_⟩
      · rw [okW_cons, h1, inR_true.2 ⟨by omega, by omega⟩]; rfl
      · cases i with
        | zero => simp [at5]
        | succ i => simpa [at5] using h3 i (by simpa using hi)
    · simp only [ptB, if_true] at h
      obtain ⟨y, hy, hh⟩ := List.mem_flatMap.1 h
      obtain ⟨q, hq, rfl⟩ := List.mem_map.1 hh
      obtain ⟨h1, h2, h3⟩ := ptB_row hpm hl' hq
      have hy := List.mem_range.1 hy
      refine ⟨?_, by rw [strN_cons, h2]; simp, fun i hi => ?_⟩
      · rw [okW_cons, h1, inR_true.2 ⟨by omega, by omega⟩]; rfl
      · cases i with
        | zero => simp [at5]
        | succ i => simpa [at5] using h3 i (by simpa using hi)

/-- two patterns with levels at the same places that one test matches are one -/
theorem same_pat : ∀ {p q x : List Int}, p.length = x.length → q.length = x.length → mB p x = true → mB q x = true → (∀ i : Nat, i < x.length → (at5 p i = -1 ↔ at5 q i = -1)) → p = q
  | [], [], _, _, _, _, _, _ => rfl
  | [], b :: q, x, h1, h2, _, _, _ => by simp at h1 h2; omega
  | a :: p, [], x, h1, h2, _, _, _ => by simp at h1 h2; omega
  | a :: p, b :: q, [], h1, _, _, _, _ => by simp at h1
  | a :: p, b :: q, z :: x, h1, h2, h3, h4, h5 => by
    have e1 : (a == -1 || a == z) = true ∧ mB p x = true := by simpa [mB] using h3
    have e2 : (b == -1 || b == z) = true ∧ mB q x = true := by simpa [mB] using h4
    have ih := same_pat (p := p) (q := q) (x := x) (by simpa using h1) (by simpa using h2) e1.2 e2.2 fun i hi => by
      have := h5 (i + 1) (by simpa using hi)
      simpa [at5] using this
    have h0 := h5 0 (by simp)
    simp only [at5, List.getD_cons_zero] at h0
    have f1 := e1.1; have f2 := e2.1
    simp only [Bool.or_eq_true, beq_iff_eq] at f1 f2
    rw [ih]
    congr 1
    by_cases ha : a = -1
    · rw [ha, h0.1 ha]
    · have hb : b ≠ -1 := fun h => ha (h0.2 h)
      rw [(f1.resolve_left ha), (f2.resolve_left hb)]
theorem okW_len' {lo : Int} {m t : List Int} (h : okW lo m t = true) : t.length = m.length := okW_len h
/-- the least number as a product of marked numbers -/
theorem lt_mark : ∀ (t : Nat) (l : List Int) (out : Int), t ≤ l.length → ∃ b : List Bool, b.length = l.length ∧ b.countP id = t ∧ ltG t l out = out * prB l b
  | 0, l, out, _ => by
    refine ⟨List.replicate l.length false, by simp, ?_, ?_⟩
    · rw [List.countP_eq_zero]; intro a ha; rw [(List.mem_replicate.1 ha).2]; simp
    · have : ∀ l : List Int, prB l (List.replicate l.length false) = 1 := by
        intro l; induction l with
        | nil => rfl
        | cons x l ih => simp [List.replicate_succ, prB, ih]
      rw [this]; simp [ltG]
  | t + 1, l, out, ht => by
    have hl0 : 0 < l.length := by omega
    have hi : mxI l < l.length := mxK_lt l l.length hl0
    have hle : (l.eraseIdx (mxI l)).length = l.length - 1 := List.length_eraseIdx_of_lt hi
    obtain ⟨b, h1, h2, h3⟩ := lt_mark t (l.eraseIdx (mxI l)) (out * l.getD (mxI l) 0) (by omega)
    refine ⟨b.insertIdx (mxI l) true, ?_, ?_, ?_⟩
    · rw [List.length_insertIdx_of_le_length (by omega)]; omega
    · have : ∀ (b : List Bool) (i : Nat), i ≤ b.length → (b.insertIdx i true).countP id = b.countP id + 1 := by
        intro b i hib
        induction b generalizing i with
        | nil => have : i = 0 := by simpa using hib
                 subst this; rfl
        | cons c b ih => cases i with
          | zero => simp [List.insertIdx]
          | succ i => rw [List.insertIdx_succ_cons, List.countP_cons, List.countP_cons, ih i (by simpa using hib)]; omega
      rw [this b _ (by omega), h2]
    · rw [ltG_succ, h3, Int.mul_assoc]
      congr 1
      have : ∀ (l : List Int) (i : Nat) (b : List Bool), i < l.length → b.length = l.length - 1 → prB l (b.insertIdx i true) = l.getD i 0 * prB (l.eraseIdx i) b := by
        intro l
        induction l with
        | nil => intro i b hi; simp at hi
        | cons x l ih =>
          intro i b hi hb
          cases i with
          | zero => simp [List.insertIdx, prB]
          | succ i => cases b with
            | nil => simp at hb hi; omega
            | cons c b =>
              have := ih i b (by simpa using hi) (by simp at hb hi; omega)
              rw [List.insertIdx_succ_cons, List.eraseIdx_cons_succ]
              simp only [prB, this, List.getD_cons_succ]
              rw [← Int.mul_assoc, ← Int.mul_assoc, Int.mul_comm (if c = true then x else 1)]
      exact (this l _ b hi (by omega)).symm
/-- suites that cover have at least so many tests -/
theorem lt_le {m : List Int} {s : List (List Int)} {t : Int} (hm : okM m = true) (hs : ∀ r ∈ s, okT m r = true) (h0 : 0 ≤ t) (h1 : t ≤ m.length) (h : misP s (patS m [] t) = []) : ltV m t ≤ (s.length : Int) := by
  rw [lt_yes hm h0 h1]
  obtain ⟨b, hb1, hb2, hb3⟩ := lt_mark t.toNat m 1 (by omega)
  have hpos : ∀ x ∈ m, 0 ≤ x := okM_ge hm
  rw [hb3, Int.one_mul, ← ptB_len hb1 hpos]
  have := hole (P := fun x p => mB p x = true) (R := s) (L := ptB m b) ptB_nodup (fun p hp => ?_) (fun x hx p hp q hq e1 e2 => ?_)
  · exact_mod_cast this
  · obtain ⟨e1, e2, e3⟩ := ptB_row hpos hb1 hp
    have hpm : p ∈ patS m [] t := (mem_patS hm).2 ⟨e1, by rw [e2, hb2]; omega⟩
    cases hh : hasP s p
    · have : p ∈ misP s (patS m [] t) := List.mem_filter.2 ⟨hpm, by rw [hh]; rfl⟩
      rw [h] at this; cases this
    · exact List.any_eq_true.1 hh
  · obtain ⟨p1, _, p3⟩ := ptB_row hpos hb1 hp
    obtain ⟨q1, _, q3⟩ := ptB_row hpos hb1 hq
    have hxl := okW_len (hs x hx)
    refine same_pat (by rw [okW_len p1, hxl]) (by rw [okW_len q1, hxl]) e1 e2 fun i hi => ?_
    rw [p3 i (by omega), q3 i (by omega)]
/-- it rises with the strength -/
theorem ltG_last : ∀ (t : Nat) (l : List Int) (out : Int), t < l.length → ∃ v ∈ l, ltG (t + 1) l out = ltG t l out * v
  | 0, l, out, h => ⟨l.getD (mxI l) 0, by
      have hi : mxI l < l.length := mxK_lt l l.length h
      simp [List.getD, hi], rfl⟩
  | t + 1, l, out, h => by
    have hi : mxI l < l.length := mxK_lt l l.length (by omega)
    obtain ⟨v, hv, he⟩ := ltG_last t (l.eraseIdx (mxI l)) (out * l.getD (mxI l) 0) (by rw [List.length_eraseIdx_of_lt hi]; omega)
    exact ⟨v, List.mem_of_mem_eraseIdx hv, by rw [ltG_succ, he]; rfl⟩
theorem ltG_pos : ∀ (t : Nat) (l : List Int) (out : Int), (∀ x ∈ l, 1 ≤ x) → t ≤ l.length → 1 ≤ out → 1 ≤ ltG t l out
  | 0, l, out, _, _, h => h
  | t + 1, l, out, hx, ht, h => by
    have hi : mxI l < l.length := mxK_lt l l.length (by omega)
    have h1 : 1 ≤ l.getD (mxI l) 0 := by simp [List.getD, hi]; exact hx _ (List.getElem_mem hi)
    refine ltG_pos t _ _ (fun y hy => hx y (List.mem_of_mem_eraseIdx hy)) (by rw [List.length_eraseIdx_of_lt hi]; omega) ?_
    have := Int.mul_le_mul h h1 (by omega) (by omega)
    omega
theorem okM_one {m : List Int} (h : okM m = true) : ∀ x ∈ m, 1 ≤ x := fun x hx => by
  obtain ⟨k, hk⟩ := List.mem_iff_getElem?.1 hx
  exact (okM_at h hk).1
theorem lt_up {m : List Int} {t : Int} (hm : okM m = true) (h0 : 0 ≤ t) (h1 : t < m.length) : ltV m t ≤ ltV m (t + 1) ∧ 1 ≤ ltV m t := by
  rw [lt_yes hm h0 (by omega), lt_yes hm (by omega) (by omega), show (t + 1).toNat = t.toNat + 1 by omega]
  obtain ⟨v, hv, he⟩ := ltG_last t.toNat m 1 (by omega)
  have h2 := ltG_pos t.toNat m 1 (okM_one hm) (by omega) (Int.le_refl _)
  have h3 := okM_one hm v hv
  rw [he]
  refine ⟨?_, h2⟩
  have := Int.mul_le_mul_of_nonneg_left h3 (show 0 ≤ ltG t.toNat m 1 by omega)
  omega
theorem lt_zero {m : List Int} (hm : okM m = true) : ltV m 0 = 1 := by rw [lt_yes hm (Int.le_refl _) (by omega)]; rfl
theorem lt_full {m : List Int} (hm : okM m = true) : ltV m m.length = prodL 0 m := by
  rw [lt_yes hm (by omega) (Int.le_refl _), Int.toNat_natCast]
  have : ∀ (n : Nat) (l : List Int) (out : Int), l.length = n → ltG n l out = out * prodL 0 l := by
    intro n
    induction n with
    | zero => intro l out hl; rw [List.eq_nil_of_length_eq_zero hl]; simp [ltG, prodL]
    | succ n ih =>
      intro l out hl
      have hi : mxI l < l.length := mxK_lt l l.length (by omega)
      have hg : l.getD (mxI l) 0 = l[mxI l] := by simp [List.getD, hi]
      rw [ltG_succ, ih _ _ (by rw [List.length_eraseIdx_of_lt hi]; omega), Int.mul_assoc, hg]
      congr 1
      have hpr : ∀ (l : List Int) (i : Nat) (hi : i < l.length), l[i] * prodL 0 (l.eraseIdx i) = prodL 0 l := by
        intro l
        induction l with
        | nil => intro i hi; simp at hi
        | cons x l ih2 =>
          intro i hi
          cases i with
          | zero => simp [prodL_cons]
          | succ i =>
            have := ih2 i (by simpa using hi)
            rw [List.eraseIdx_cons_succ, prodL_cons, prodL_cons, ← this]
            simp only [List.getElem_cons_succ, Int.add_zero]
            rw [← Int.mul_assoc, ← Int.mul_assoc, Int.mul_comm (l[i]'(by simpa using hi))]
      exact hpr l _ hi
  have := this m.length m 1 rfl
  rw [this, Int.one_mul]

end Go.Proofs.Ytehoagbpgahopaa
