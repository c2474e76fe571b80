/- Plain facts: the fewest tests, searched by numbers whose bits choose tests. -/
import Derived.Test.YtehoagbpgahopaaTb
import Derived.Test.YtehoagbpgahopaaTc
import Derived.Test.YtehoagbpgahopaaUp
namespace Go.Proofs.Ytehoagbpgahopaa
/-- how many of the first nine bits a number has -/
def popN (x : Nat) : Nat := (List.range 9).countP fun k => x.testBit k
/-- the tests that a number chooses meet all patterns -/
def covU (xs left : List (List Int)) (c : Nat) : Bool := left.all fun p => !((c &&& bitN (rowB xs p)) == 0)
theorem and_zero {x y : Nat} : x &&& y = 0 ↔ ∀ k, ¬ (x.testBit k = true ∧ y.testBit k = true) := by
  constructor
  · rintro h k ⟨h1, h2⟩
    have : (x &&& y).testBit k = true := by rw [Nat.testBit_and, h1, h2]; rfl
    rw [h] at this; simp at this
  · intro h
    refine Nat.eq_of_testBit_eq fun k => ?_
    rw [Nat.testBit_and, Nat.zero_testBit]
    cases h1 : x.testBit k
    · rfl
    · cases h2 : y.testBit k
      · rfl
      · exact absurd ⟨h1, h2⟩ (h k)
def bitsL (N c : Nat) : List Bool := (List.range N).map fun k => c.testBit k
theorem bitsL_len (N c : Nat) : (bitsL N c).length = N := by simp [bitsL]
theorem bitsL_at {N c k : Nat} (h : k < N) : (bitsL N c)[k]? = some (c.testBit k) := by simp [bitsL, h]
theorem bitsL_pop {N c : Nat} (hN : N ≤ 9) (hc : c < 2 ^ N) : (bitsL N c).countP id = popN c := by
  unfold bitsL popN
  rw [List.countP_map]
  have e : List.range 9 = List.range N ++ (List.range (9 - N)).map (N + ·) := by
    rw [← List.range_add]; congr 1; omega
  rw [e, List.countP_append]
  have h0 : ((List.range (9 - N)).map (N + ·)).countP (fun k => c.testBit k) = 0 := by
    rw [List.countP_eq_zero]
    intro k hk
    obtain ⟨j, _, rfl⟩ := List.mem_map.1 hk
    have : c.testBit (N + j) = false := Nat.testBit_lt_two_pow (Nat.lt_of_lt_of_le hc (Nat.pow_le_pow_right (by decide) (by omega)))
    rw [this]; simp
  rw [h0]; rfl
theorem cov_ch {xs left : List (List Int)} {c : Nat} : covU xs left c = true ↔ chB xs left (bitsL xs.length c) := by
  unfold covU chB
  rw [List.all_eq_true]
  constructor
  · intro h p hp
    have h1 := h p hp
    rw [Bool.not_eq_true', beq_eq_false_iff_ne] at h1
    have : ∃ k, c.testBit k = true ∧ (bitN (rowB xs p)).testBit k = true := by
      apply Classical.byContradiction
      intro hn
      exact h1 (and_zero.2 fun k hk => hn ⟨k, hk⟩)
    obtain ⟨k, h2, h3⟩ := this
    rw [bitN_test] at h3
    by_cases hk : k < xs.length
    · refine ⟨k, xs[k], List.getElem?_eq_getElem hk, ?_, ?_⟩
      · rw [bitsL_at hk, h2]
      · simpa [rowB, List.getD, hk] using h3
    · simp [rowB, List.getD, List.getElem?_eq_none (Nat.le_of_not_lt hk)] at h3
  · intro h p hp
    obtain ⟨k, x, h1, h2, h3⟩ := h p hp
    rw [Bool.not_eq_true', beq_eq_false_iff_ne]
    intro h0
    have hk := lt_of_at h1
    rw [bitsL_at hk] at h2
    refine and_zero.1 h0 k ⟨Option.some.inj h2, ?_⟩
    rw [bitN_test]
    simp [rowB, List.getD, h1, h3]
/-- the fewest so far -/
def fwK (xs left : List (List Int)) : Nat → Nat
  | 0 => xs.length
  | c + 1 => if covU xs left c then min (fwK xs left c) (popN c) else fwK xs left c
theorem fwK_le (xs left : List (List Int)) : ∀ c, fwK xs left c ≤ xs.length
  | 0 => Nat.le_refl _
  | c + 1 => by
    have := fwK_le xs left c
    simp only [fwK]; split <;> omega
theorem fwK_yes {xs left : List (List Int)} {c : Nat} (h : covU xs left c = true) : fwK xs left (c + 1) = min (fwK xs left c) (popN c) := by simp [fwK, h]
theorem fwK_no {xs left : List (List Int)} {c : Nat} (h : covU xs left c = false) : fwK xs left (c + 1) = fwK xs left c := by simp [fwK, h]
theorem fwK_cov {xs left : List (List Int)} : ∀ {C c : Nat}, c < C → covU xs left c = true → fwK xs left C ≤ popN c
  | C + 1, c, h, hc => by
    by_cases he : c = C
    · subst he; rw [fwK_yes hc]; omega
    · have := fwK_cov (C := C) (c := c) (by omega) hc
      simp only [fwK]; split <;> omega
theorem fwK_ge {xs left : List (List Int)} {N : Nat} (hN : xs.length = N) (h9 : N ≤ 9) (hall : muN xs left ≤ N) : ∀ C, C ≤ 2 ^ N → muN xs left ≤ fwK xs left C
  | 0, _ => by simp only [fwK]; omega
  | C + 1, h => by
    have ih := fwK_ge hN h9 hall C (by omega)
    cases hc : covU xs left C
    · rw [fwK_no hc]; exact ih
    · rw [fwK_yes hc]
      have h1 := mu_le (b := bitsL xs.length C) (bitsL_len _ _) (cov_ch.1 hc)
      rw [bitsL_pop (by omega) (by rw [hN]; omega)] at h1
      omega
theorem bitN_bits {b : List Bool} : bitsL b.length (bitN b) = b := by
  refine List.ext_getElem? fun k => ?_
  by_cases hk : k < b.length
  · rw [bitsL_at hk, bitN_test]; simp [List.getD, hk]
  · rw [List.getElem?_eq_none (by rw [bitsL_len]; omega), List.getElem?_eq_none (by omega)]
theorem fwK_mu {xs left : List (List Int)} {N : Nat} (hN : xs.length = N) (h9 : N ≤ 9) (hall : muN xs left ≤ N) : fwK xs left (2 ^ N) = muN xs left := by
  refine Nat.le_antisymm ?_ (fwK_ge hN h9 hall _ (Nat.le_refl _))
  obtain ⟨b, h1, h2, h3⟩ := mu_ex (xs := xs) (left := left) (by unfold BIG; omega)
  have hlt : bitN b < 2 ^ N := by have := bitN_lt b; rwa [h1, hN] at this
  have hb : bitsL xs.length (bitN b) = b := by rw [← h1]; exact bitN_bits
  have hc : covU xs left (bitN b) = true := cov_ch.2 (by rw [hb]; exact h2)
  have h4 := fwK_cov hlt hc
  have h5 := bitsL_pop (N := xs.length) (c := bitN b) (by omega) (by rw [hN]; exact hlt)
  rw [hb, h3] at h5
  omega


theorem fw_yes {m : List Int} {t : Int} (h : okM m = true) (h0 : 0 ≤ t) (h1 : t ≤ m.length) (h9 : (extS m []).length ≤ 9) : fwV m t = (muN (extS m []) (patS m [] t) : Nat) ∧ muN (extS m []) (patS m [] t) ≤ (extS m []).length := by
  have hall : muN (extS m []) (patS m [] t) ≤ (extS m []).length := by
    have := mu_le (xs := extS m []) (left := patS m [] t) (b := List.replicate (extS m []).length true) (by simp) fun p hp => by
      obtain ⟨x, hx, hpx⟩ := pat_full (okM_all h) ((mem_patS h).1 hp).1
      obtain ⟨k, hk⟩ := List.mem_iff_getElem?.1 ((ext_mem h).2 hx)
      exact ⟨k, x, hk, by rw [List.getElem?_replicate, if_pos (lt_of_at hk)], hpx⟩
    rw [List.countP_replicate] at this
    simpa using this
  refine ⟨?_, hall⟩
  unfold fwV
  rw [h, inR_true.2 ⟨h0, h1⟩, decide_eq_true h9]
  simp only [Bool.and_self, if_true]
  rw [smN_mu _ _ _ (by omega)]
  congr 1; omega

theorem fw_def {m : List Int} {t : Int} (h : okM m = true) (h1 : inR t 0 m.length = true) (h2 : (extS m []).length ≤ 9) : fwV m t = (smN (extS m []) (patS m [] t) (extS m []).length : Nat) := by
  unfold fwV; rw [h, h1, decide_eq_true h2]; rfl
theorem fw_no {m : List Int} {t : Int} (h : okM m = false ∨ inR t 0 m.length = false ∨ 9 < (extS m []).length) : fwV m t = -1 := by
  unfold fwV
  rcases h with h | h | h
  · rw [h]; rfl
  · rw [h, Bool.and_false]; rfl
  · rw [decide_eq_false (by omega), Bool.and_false]; rfl

/- Plain facts: what the laws on explanations, one more factor and the fewest tests ask. -/
/-! ### ExplainBans -/
theorem exG_law {f : List Nat → Bool} (anti : ∀ a b : List Nat, (∀ x ∈ a, x ∈ b) → f b = true → f a = true) : ∀ (k : Nat) (hi : List Nat), f (List.range k ++ hi) = false →
    ∃ lo, exG f k hi = lo ++ hi ∧ (∀ x ∈ lo, x < k) ∧ lo.Pairwise (· < ·) ∧ f (lo ++ hi) = false ∧ ∀ i, i < lo.length → f ((lo ++ hi).eraseIdx i) = true
  | 0, hi, h => ⟨[], rfl, by simp, List.Pairwise.nil, by simpa using h, by simp⟩
  | k + 1, hi, h => by
    simp only [exG]
    split
    · rename_i hf
      have hr : List.range (k + 1) ++ hi = List.range k ++ k :: hi := by rw [List.range_succ, List.append_assoc]; rfl
      rw [hr] at h
      obtain ⟨lo, e1, e2, e3, e4, e5⟩ := exG_law anti k (k :: hi) h
      refine ⟨lo ++ [k], by rw [e1]; simp, ?_, ?_, by simpa using e4, ?_⟩
      · intro x hx
        rcases List.mem_append.1 hx with hx | hx
        · have := e2 x hx; omega
        · have : x = k := by simpa using hx
          omega
      · rw [List.pairwise_append]
        exact ⟨e3, by simp, fun a ha b hb => by have := e2 a ha; have : b = k := by simpa using hb
                                                omega⟩
      · intro i hi'
        have hl : lo ++ [k] ++ hi = lo ++ k :: hi := by simp
        rw [hl]
        by_cases hil : i < lo.length
        · exact e5 i hil
        · have : i = lo.length := by simp at hi'; omega
          subst this
          refine anti _ _ (fun x hx => ?_) hf
          rw [List.eraseIdx_append_of_length_le (Nat.le_refl _), Nat.sub_self, List.eraseIdx_cons_zero] at hx
          rcases List.mem_append.1 hx with hx | hx
          · exact List.mem_append.2 (.inl (List.mem_range.2 (e2 x hx)))
          · exact List.mem_append.2 (.inr hx)
    · rename_i hf
      obtain ⟨lo, e1, e2, e3, e4, e5⟩ := exG_law anti k hi (by simpa using hf)
      exact ⟨lo, e1, fun x hx => by have := e2 x hx; omega, e3, e4, e5⟩
theorem pk_erase (b : List (List Int)) (l : List Nat) (i : Nat) : pk b (l.eraseIdx i) = (pk b l).eraseIdx i := by
  unfold pk
  simp only [List.eraseIdx_eq_take_drop_succ, List.map_append, List.map_take, List.map_drop]
theorem pk_range (b : List (List Int)) : pk b (List.range b.length) = b := by
  unfold pk
  refine List.ext_getElem? fun i => ?_
  rw [List.getElem?_map]
  by_cases hi : i < b.length
  · obtain ⟨r, hr⟩ := at_of_lt hi
    rw [List.getElem?_range hi, Option.map_some, hr, List.getD, hr]; rfl
  · rw [List.getElem?_eq_none (by simp; omega), List.getElem?_eq_none (by omega)]; rfl
theorem bnB_mono {a b : List (List Int)} (h : ∀ r ∈ a, r ∈ b) {x : List Int} (hx : bnB a x = true) : bnB b x = true := by
  unfold bnB at *
  obtain ⟨p, hp, hm⟩ := List.any_eq_true.1 hx
  exact List.any_eq_true.2 ⟨p, h p hp, hm⟩
theorem exF_anti {m : List Int} {b : List (List Int)} {p : List Int} : ∀ a c : List Nat, (∀ x ∈ a, x ∈ c) → exF m b p c = true → exF m b p a = true := by
  intro a c h hc
  unfold exF at *
  refine hasP_mono (fun x hx => ?_) hc
  unfold alL at *
  obtain ⟨h1, h2⟩ := List.mem_filter.1 hx
  refine List.mem_filter.2 ⟨h1, ?_⟩
  rw [Bool.not_eq_true'] at h2 ⊢
  cases hb : bnB (pk b a) x
  · rfl
  · rw [bnB_mono (fun r hr => ?_) hb] at h2
    · cases h2
    · unfold pk at *
      obtain ⟨i, hi, rfl⟩ := List.mem_map.1 hr
      exact List.mem_map.2 ⟨i, h i hi, rfl⟩
/-- the bans that are kept ban the pattern, and with each one of them less it is possible -/
theorem ex_law {m : List Int} {b : List (List Int)} {p : List Int} (h : exB m b p = true) :
    (∀ i ∈ exR m b p, i < b.length) ∧ (exR m b p).Pairwise (· < ·) ∧ hasP (alL m (pk b (exR m b p))) p = false ∧
    ∀ i, i < (exR m b p).length → hasP (alL m ((pk b (exR m b p)).eraseIdx i)) p = true := by
  obtain ⟨h1, h2, h3, h4⟩ := exB_m h
  obtain ⟨lo, e1, e2, e3, e4, e5⟩ := exG_law (f := exF m b p) exF_anti b.length [] (by
    unfold exF; rw [List.append_nil, pk_range]; exact h4)
  rw [List.append_nil] at e1 e4
  have hR : exR m b p = lo := e1
  rw [hR]
  refine ⟨e2, e3, e4, fun i hi => ?_⟩
  have := e5 i hi
  rw [List.append_nil] at this
  unfold exF at this
  rwa [pk_erase] at this
theorem ex_ok {m : List Int} {b : List (List Int)} {l : List Nat} (h : okBn m b = true) (hl : ∀ i ∈ l, i < b.length) (h5 : l.length ≤ 5) : okBn m (pk b l) = true ∧ ∀ i, okBn m ((pk b l).eraseIdx i) = true := by
  have hr : ∀ r ∈ pk b l, okP m r = true := by
    intro r hr
    unfold pk at hr
    obtain ⟨i, hi, rfl⟩ := List.mem_map.1 hr
    have := hl i hi
    exact okBn_all h (by simp [List.getD, this])
  have hlen : (pk b l).length ≤ 5 := by simp [pk]; omega
  refine ⟨?_, fun i => ?_⟩
  · unfold okBn; rw [Bool.and_eq_true, List.all_eq_true, decide_eq_true_eq]; exact ⟨hr, hlen⟩
  · unfold okBn; rw [Bool.and_eq_true, List.all_eq_true, decide_eq_true_eq]
    exact ⟨fun r hr' => hr r (List.mem_of_mem_eraseIdx hr'), Nat.le_trans (List.length_eraseIdx_le _ _) hlen⟩

/-! ### AddFactor -/
theorem ad_drop {m : List Int} {s : List (List Int)} {l t : Int} (h : adG m s l t = true) : ∀ (k : Nat) (r : List Int), s[k]? = some r → ∃ q : List Int, (adW m s l t)[k]? = some q ∧ q.eraseIdx m.length = r := by
  obtain ⟨h1, h2, h3, h4, h5, h6, h7⟩ := adG_m h
  intro k r hr
  have hlen : (adW m s l t).length = s.length := (wdG_len _ _ _).1
  obtain ⟨q, hq⟩ := at_of_lt (m := adW m s l t) (k := k) (by have := lt_of_at hr; omega)
  obtain ⟨x, y, hx, _, rfl⟩ := wdG_row l.toNat (by omega) _ _ k q hq
  have : x = r := by rw [hr] at hx; exact (Option.some.inj hx).symm
  subst this
  refine ⟨_, hq, ?_⟩
  have hxl := okW_len (okS_all h2 (List.mem_of_getElem? hr))
  rw [List.eraseIdx_append_of_length_le (by omega), hxl, Nat.sub_self]
  simp
/-- without the new factor it begins with the suite -/
theorem ad_begins {m : List Int} {s : List (List Int)} {l t : Int} (h : adB m s l t = true) : s.length ≤ (adL m s l t).length ∧ ((adL m s l t).map fun r => r.eraseIdx m.length).take s.length = s := by
  have hg : adG m s l t = true := by unfold adB at h; rw [Bool.and_eq_true] at h; exact h.1
  have hgs : gsB (adM m l) (adW m s l t) t = true := by unfold adB at h; rw [Bool.and_eq_true] at h; exact h.2
  have hA : adL m s l t = gsR (adM m l) (adW m s l t) t := by
    rw [(ad_eq hg).1]; unfold gsL; rw [hgs]; rfl
  obtain ⟨more, hm⟩ := grS_pre (extS (adM m l) []) (21 - (adW m s l t).length) (adW m s l t) (misL (adM m l) (adW m s l t) t)
  have hm : gsR (adM m l) (adW m s l t) t = adW m s l t ++ more := hm
  have hlen : (adW m s l t).length = s.length := (wdG_len _ _ _).1
  rw [hA, hm]
  refine ⟨by simp; omega, ?_⟩
  rw [List.map_append, List.take_append_of_le_length (by simp; omega), List.take_of_length_le (by simp; omega)]
  refine List.ext_getElem? fun k => ?_
  by_cases hk : k < s.length
  · obtain ⟨r, hr⟩ := at_of_lt hk
    obtain ⟨q, hq, he⟩ := ad_drop hg k r hr
    rw [List.getElem?_map, hq, Option.map_some, he, hr]
  · rw [List.getElem?_eq_none (by simp; omega), List.getElem?_eq_none (by omega)]

/-! ### FewestTests -/
theorem count_less {α : Type} {P Q : α → Bool} : ∀ {l : List α} {b : α}, (∀ x ∈ l, Q x = true → P x = true) → b ∈ l → P b = true → Q b = false → l.countP Q + 1 ≤ l.countP P
  | x :: l, b, h, hb, hP, hQ => by
    rw [List.countP_cons, List.countP_cons]
    have hle : l.countP Q ≤ l.countP P := List.countP_mono_left fun y hy => h y (by simp [hy])
    rcases List.mem_cons.1 hb with rfl | hb
    · rw [hP, hQ]; simp; omega
    · have ih := count_less (l := l) (fun y hy => h y (by simp [hy])) hb hP hQ
      cases hq : Q x
      · simp; omega
      · rw [h x (by simp) hq]; simp; omega
/-- a suite that grows takes no test twice -/
theorem grS_few {xs : List (List Int)} : ∀ (n : Nat) (out left : List (List Int)), (∀ p ∈ left, ∃ x ∈ xs, mB p x = true) → (grS xs n out left).length ≤ out.length + xs.countP fun x => decide (0 < frP left x)
  | 0, out, left, _ => by have := grS_len xs 0 out left; omega
  | n + 1, out, left, h => by
    by_cases hl : left = []
    · rw [hl, grS_done]; omega
    · rw [grS_step _ _ _ hl]
      obtain ⟨p, hp⟩ := List.exists_mem_of_ne_nil _ hl
      obtain ⟨x, hx, hpx⟩ := h p hp
      have hxs : xs ≠ [] := by intro e; rw [e] at hx; cases hx
      have hb := bstL_mem (frP left) hxs
      have hmax := bstL_max (frP left) xs x hx
      have hpos : 0 < frP left x := List.countP_pos_iff.2 ⟨p, hp, hpx⟩
      have ih := grS_few n (out ++ [bstL (frP left) xs]) (rstP left (bstL (frP left) xs)) fun q hq => h q (rstP_mem hq)
      have hc := count_less (l := xs) (b := bstL (frP left) xs) (P := fun x => decide (0 < frP left x)) (Q := fun x => decide (0 < frP (rstP left (bstL (frP left) xs)) x))
        (fun y _ hy => ?_) hb (decide_eq_true (by omega)) (decide_eq_false ?_)
      · simp only [List.length_append, List.length_cons, List.length_nil] at ih
        omega
      · rw [decide_eq_true_eq] at hy ⊢
        obtain ⟨q, hq, hm⟩ := List.countP_pos_iff.1 hy
        exact List.countP_pos_iff.2 ⟨q, rstP_mem hq, hm⟩
      · intro h0
        obtain ⟨q, hq, hm⟩ := List.countP_pos_iff.1 h0
        have := (List.mem_filter.1 hq).2
        rw [hm] at this; cases this
theorem gs_few {m : List Int} {t : Int} (hm : okM m = true) : (gsR m [] t).length ≤ (extS m []).length := by
  unfold gsR
  have := grS_few (xs := extS m []) (21 - ([] : List (List Int)).length) [] (misL m [] t) fun p hp => by
    obtain ⟨x, hx, hpx⟩ := pat_full (okM_all hm) ((mem_patS hm).1 (List.mem_filter.1 hp).1).1
    exact ⟨x, (ext_mem hm).2 hx, hpx⟩
  have h2 := List.countP_le_length (p := fun x => decide (0 < frP (misL m [] t) x)) (l := extS m [])
  simp only [List.length_nil] at this ⊢
  omega
theorem nodup_ext {m : List Int} : (extS m []).Nodup := nodup_patS
/-- .. at most as many as a suite that covers -/
theorem fw_le {m : List Int} {t : Int} {g : List (List Int)} (h : okM m = true) (h0 : 0 ≤ t) (h1 : t ≤ m.length) (h9 : (extS m []).length ≤ 9) (hg : ∀ r ∈ g, okT m r = true) (hc : misP g (patS m [] t) = []) : fwV m t ≤ (g.length : Int) := by
  rw [(fw_yes h h0 h1 h9).1]
  have hb := mu_le (xs := extS m []) (left := patS m [] t) (b := (extS m []).map fun x => g.contains x) (by simp) fun p hp => by
    have hh : hasP g p = true := by
      cases hb : hasP g p
      · have : p ∈ misP g (patS m [] t) := List.mem_filter.2 ⟨hp, by rw [hb]; rfl⟩
        rw [hc] at this; cases this
      · rfl
    obtain ⟨x, hx, hpx⟩ := List.any_eq_true.1 hh
    obtain ⟨k, hk⟩ := List.mem_iff_getElem?.1 ((ext_mem h).2 (hg x hx))
    exact ⟨k, x, hk, by rw [List.getElem?_map, hk, Option.map_some]; simp [hx], hpx⟩
  rw [List.countP_map] at hb
  have hle : (extS m []).countP (id ∘ fun x => g.contains x) ≤ g.length := by
    rw [List.countP_eq_length_filter]
    refine hole (P := fun x y => x = y) (nodup_ext.filter _) (fun l hl => ?_) (fun r _ l _ l' _ e1 e2 => by rw [← e1, ← e2])
    have := (List.mem_filter.1 hl).2
    exact ⟨l, by simpa using this, rfl⟩
  omega
/-- .. at least as many as there must be -/
theorem fw_ge {m : List Int} {t : Int} (h : okM m = true) (h0 : 0 ≤ t) (h1 : t ≤ m.length) (h9 : (extS m []).length ≤ 9) : ltV m t ≤ fwV m t := by
  obtain ⟨e1, e2⟩ := fw_yes h h0 h1 h9
  rw [e1]
  obtain ⟨b, b1, b2, b3⟩ := mu_ex (xs := extS m []) (left := patS m [] t) (by unfold BIG; omega)
  have hlen : ∀ (xs : List (List Int)) (b : List Bool), b.length = xs.length → (((xs.zip b).filter fun z => z.2).map fun z => z.1).length = b.countP id := by
    intro xs
    induction xs with
    | nil =>
      intro b hb
      have hb0 : b = [] := List.eq_nil_of_length_eq_zero (by simpa using hb)
      rw [hb0]; rfl
    | cons x xs ih =>
      intro b hb
      cases b with
      | nil => simp at hb
      | cons c b =>
        have := ih b (by simpa using hb)
        cases c
        · simpa using this
        · simpa using this
  rw [← b3, ← hlen _ b b1]
  refine lt_le h (fun r hr => ?_) h0 h1 ?_
  · obtain ⟨z, hz, rfl⟩ := List.mem_map.1 hr
    exact (ext_mem h).1 (List.of_mem_zip (List.mem_filter.1 hz).1).1
  · unfold misP
    rw [List.filter_eq_nil_iff]
    intro p hp
    obtain ⟨k, x, hx, hb, hm⟩ := b2 p hp
    have : hasP (((extS m []).zip b).filter (fun z => z.2) |>.map fun z => z.1) p = true := by
      refine List.any_eq_true.2 ⟨x, List.mem_map.2 ⟨(x, true), List.mem_filter.2 ⟨List.mem_iff_getElem?.2 ⟨k, zip_at hx hb⟩, rfl⟩, rfl⟩, hm⟩
    rw [this]; simp
theorem fw_full {m : List Int} (h : okM m = true) (h9 : (extS m []).length ≤ 9) : fwV m m.length = prodL 0 m := by
  have h1 := fw_ge h (t := m.length) (by omega) (Int.le_refl _) h9
  obtain ⟨e1, e2⟩ := fw_yes h (t := m.length) (by omega) (Int.le_refl _) h9
  rw [lt_full h] at h1
  have hlen : ((extS m []).length : Int) = prodL 0 m := by
    rw [← ap_full h, ap_yes h (inR_true.2 ⟨by omega, Int.le_refl _⟩)]
    unfold patS
    rw [List.length_map]
    simpa using len_full (okM_ge h)
  omega
theorem fw_neg {m : List Int} {t : Int} : fwV m t < 0 ∨ (okM m = true ∧ 0 ≤ t ∧ t ≤ m.length ∧ (extS m []).length ≤ 9) := by
  unfold fwV
  split
  · rename_i h
    simp only [Bool.and_eq_true, decide_eq_true_eq] at h
    have := inR_true.1 h.1.2
    exact .inr ⟨h.1.1, this.1, this.2, h.2⟩
  · exact .inl (by omega)

theorem mis_snocJ (m : List Int) (s : List (List Int)) (x : List Int) (t : Int) : misL m (s ++ [x]) t = rstP (misL m s t) x := by
  unfold misL misP rstP
  rw [List.filter_filter]
  apply List.filter_congr
  intro p _
  simp [hasP, Bool.and_comm]
theorem grS_factsJ {m : List Int} {t : Int} (hok : okM m = true) : ∀ (n : Nat) (out R : List (List Int)), R = grS (extS m []) n out (misL m out t) → R.length ≤ 20 → n + out.length = 21 → (∀ r ∈ out, okT m r = true) →
    (∀ k r, out.length ≤ k → R[k]? = some r → bstL (frP (misL m (R.take k) t)) (extS m []) = r) ∧ misL m R t = [] ∧ ∀ r ∈ R, okT m r = true
  | 0, out, R, hR, h20, hn, _ => by
    simp only [grS] at hR
    rw [hR] at h20; omega
  | n + 1, out, R, hR, h20, hn, ho => by
    by_cases hl : misL m out t = []
    · rw [hl, grS_done] at hR
      subst hR
      refine ⟨fun k r h1 h2 => ?_, hl, ho⟩
      have := lt_of_at h2; omega
    · rw [grS_step _ _ _ hl, ← mis_snocJ] at hR
      have hx := bstL_mem (frP (misL m out t)) (ext_ne hok)
      obtain ⟨i1, i2, i3⟩ := grS_factsJ (m := m) (t := t) hok n _ R hR h20 (by simp; omega) (fun r hr => by
        rcases List.mem_append.1 hr with h | h
        · exact ho r h
        · rw [List.mem_singleton] at h; rw [h]; exact (ext_mem hok).1 hx)
      refine ⟨fun k r h1 h2 => ?_, i2, i3⟩
      by_cases hk : k = out.length
      · subst hk
        obtain ⟨more, hmore⟩ := grS_pre (extS m []) n (out ++ [bstL (frP (misL m out t)) (extS m [])]) (misL m (out ++ [bstL (frP (misL m out t)) (extS m [])]) t)
        rw [← hR] at hmore
        have e1 : R.take out.length = out := by rw [hmore]; simp
        have e2 : R[out.length]? = some (bstL (frP (misL m out t)) (extS m [])) := by rw [hmore]; simp
        rw [e1]
        rw [e2] at h2; exact Option.some.inj h2
      · exact i1 k r (by simp; omega) h2
theorem gs_factsJ {m : List Int} {s : List (List Int)} {t : Int} (h : gsB m s t = true) : okC m s t = true ∧ s.length ≤ (gsL m s t).length ∧ (∀ k r, s.length ≤ k → (gsL m s t)[k]? = some r → beL m ((gsL m s t).take k) t = r) ∧ icB m (gsL m s t) t = true ∧ (gsL m s t).take s.length = s := by
  have h2 := h
  unfold gsB at h2
  rw [Bool.and_eq_true, decide_eq_true_eq] at h2
  have hp := okC_parts h2.1
  have e : gsL m s t = gsR m s t := (gs_yes h2.1 h2.2).1
  rw [e]
  have hos : okS m s = true := by
    have := h2.1; unfold okC at this; rw [Bool.and_eq_true, Bool.and_eq_true] at this; exact this.1.2
  obtain ⟨f1, f2, f3⟩ := grS_factsJ (t := t) hp.1 (21 - s.length) s (gsR m s t) rfl h2.2 (by omega) (fun r hr => okS_all hos hr)
  have hin : inR t 0 m.length = true := inR_true.2 hp.2.1
  have hoc : ∀ k, okC m ((gsR m s t).take k) t = true := fun k => by
    unfold okC okS
    rw [hp.1, hin, Bool.true_and, Bool.and_true, Bool.and_eq_true, List.all_eq_true, decide_eq_true_eq]
    exact ⟨fun r hr => f3 r (List.mem_of_mem_take hr), by rw [List.length_take]; omega⟩
  obtain ⟨more, hmore⟩ := grS_pre (extS m []) (21 - s.length) s (misL m s t)
  have hmore : gsR m s t = s ++ more := hmore
  refine ⟨h2.1, by rw [hmore]; simp, fun k r h1 hr => ?_, ?_, by rw [hmore]; simp⟩
  · rw [be_yes (hoc k)]; exact f1 k r h1 hr
  · have h9 := hoc (gsR m s t).length
    rw [List.take_length] at h9
    rw [ic_yes h9, f2]; rfl

end Go.Proofs.Ytehoagbpgahopaa
