/- Plain facts on bans: what they allow, what is possible, and the search for the first test that completes a pattern. -/
import Derived.Test.YtpioldgpfpmjiaaGreatDoorMath
namespace Go.Proofs.YtpioldgpfpmjiaaGreatDoor

def okBn (m : List Int) (mm : List (List Int)) : Bool := mm.all (okP m) && decide (mm.length ≤ 5)
theorem okBn_len {m : List Int} {mm : List (List Int)} (h : okBn m mm = true) : mm.length ≤ 5 := by simp [okBn] at h; exact h.2
theorem okBn_all {m : List Int} {mm : List (List Int)} (h : okBn m mm = true) {r : List Int} (hr : r ∈ mm) : okP m r = true := by
  unfold okBn at h; simp only [Bool.and_eq_true, List.all_eq_true] at h; exact h.1 r hr
theorem okBn_fails {m : List Int} {mm : List (List Int)} {k : Nat} {r : List Int} (hr : mm[k]? = some r) (h : okP m r = false) : okBn m mm = false := by
  unfold okBn; rw [all_fails hr h, Bool.false_and]
theorem okBn_no {m : List Int} {mm : List (List Int)} (h : 5 < mm.length) : okBn m mm = false := by
  cases hb : okBn m mm
  · rfl
  · have := okBn_len hb; omega
theorem okBn_end {m : List Int} {mm : List (List Int)} {k : Nat} (hk : mm.length ≤ k) (ha : (mm.take k).all (okP m) = true) : decide ((mm.length : Int) ≤ 5) = okBn m mm := by
  unfold okBn; rw [all_whole ha hk, Bool.true_and]
  by_cases h : mm.length ≤ 5
  · rw [decide_eq_true h, decide_eq_true (by omega)]
  · rw [decide_eq_false h, decide_eq_false (by omega)]

/-- one of the bans is met -/
def bnB (b : List (List Int)) (x : List Int) : Bool := b.any fun p => mB p x
theorem bnB_yes {b : List (List Int)} {x r : List Int} {k : Nat} (h : b[k]? = some r) (hm : mB r x = true) : bnB b x = true := by
  unfold bnB; rw [List.any_eq_true]; exact ⟨r, List.mem_of_getElem? h, hm⟩
theorem bnB_no {b : List (List Int)} {x : List Int} {k : Nat} (hk : b.length ≤ k) (h : (b.take k).all (fun r => !mB r x) = true) : bnB b x = false := by
  have h1 := all_whole h hk
  unfold bnB
  rw [List.any_eq_false]
  intro r hr
  have := (List.all_eq_true.1 h1) r hr
  simpa using this
/-- the allowed tests -/
def alL (m : List Int) (b : List (List Int)) : List (List Int) := (extS m []).filter fun x => !bnB b x
theorem alL_row {m : List Int} {b : List (List Int)} : ∀ l ∈ alL m b, l.length = m.length := fun l h => ext_row l (List.mem_filter.1 h).1
theorem alL_len {m : List Int} {b : List (List Int)} : (alL m b).length ≤ (extS m []).length := List.length_filter_le _ _
/-- the first allowed test that meets a pattern -/
def ctO (m : List Int) (b : List (List Int)) (p : List Int) : Option (List Int) := (alL m b).find? (mB p)
theorem ct_has (m : List Int) (b : List (List Int)) (p : List Int) : (ctO m b p).isSome = hasP (alL m b) p := by
  unfold ctO hasP
  rw [Bool.eq_iff_iff, List.find?_isSome, List.any_eq_true]

/-! ### the order of tests -/
def lxL : List Int → List Int → Prop
  | x :: xs, y :: ys => x < y ∨ (x = y ∧ lxL xs ys)
  | _, _ => False
def lxF (X T : Nat → Int) : Prop := ∃ f, f < 5 ∧ (∀ g, g < f → X g = T g) ∧ X f < T f
theorem at5_cons_zero (x : Int) (l : List Int) : at5 (x :: l) 0 = x := rfl
theorem at5_cons_succ (x : Int) (l : List Int) (i : Nat) : at5 (x :: l) (i + 1) = at5 l i := rfl
theorem lxL_at : ∀ {x y : List Int}, lxL x y → ∃ f, f < x.length ∧ (∀ g, g < f → at5 x g = at5 y g) ∧ at5 x f < at5 y f
  | [], _, h => h.elim
  | _ :: _, [], h => h.elim
  | x :: xs, y :: ys, h => by
    rcases h with h | ⟨rfl, h⟩
    · exact ⟨0, by simp, fun g hg => by omega, h⟩
    · obtain ⟨f, h1, h2, h3⟩ := lxL_at h
      refine ⟨f + 1, by simp; omega, fun g hg => ?_, h3⟩
      cases g with
      | zero => rfl
      | succ g => exact h2 g (by omega)
theorem lxL_F {x y : List Int} (h : lxL x y) (h5 : x.length ≤ 5) : lxF (at5 x) (at5 y) := by
  obtain ⟨f, h1, h2, h3⟩ := lxL_at h
  exact ⟨f, by omega, h2, h3⟩
theorem lx_patsR : ∀ {ms : List Int} {t : Int}, t = ms.length → (patsR ms t).Pairwise lxL
  | [], t, h => by
    subst h; simp [patsR]
  | y :: ms, t, h => by
    subst h
    rw [patsR_cons (by simp; omega) (by simp), patsR_out (t := (((y :: ms).length : Nat) : Int)) (.inr (by simp; omega)), List.map_nil, List.append_nil]
    rw [List.pairwise_flatMap]
    constructor
    · intro x _
      rw [List.pairwise_map]
      exact (lx_patsR (by simp)).imp fun h => .inr ⟨rfl, h⟩
    · refine List.pairwise_lt_range.imp ?_
      intro a c hac x hx z hz
      obtain ⟨x', _, rfl⟩ := List.mem_map.1 hx
      obtain ⟨z', _, rfl⟩ := List.mem_map.1 hz
      exact .inl (by omega)
theorem lx_ext (m : List Int) : (extS m []).Pairwise lxL := by
  unfold extS patS
  simp only [List.length_nil, List.drop_zero, List.nil_append, List.map_id']
  exact lx_patsR (by simp)
theorem lx_al (m : List Int) (b : List (List Int)) : (alL m b).Pairwise lxL := (lx_ext m).filter _
theorem find_first : ∀ {l : List (List Int)} {x : List Int} {P : List Int → Bool}, l.Pairwise lxL → x ∈ l → P x = true → (∀ y ∈ l, lxL y x → P y = false) → l.find? P = some x
  | [], _, _, _, h, _, _ => by cases h
  | y :: l, x, P, hp, hx, hP, ha => by
    rw [List.pairwise_cons] at hp
    rcases List.mem_cons.1 hx with rfl | hx
    · simp [hP]
    · rw [List.find?_cons_of_neg (by rw [ha y (by simp) (hp.1 x hx)]; simp)]
      exact find_first hp.2 hx hP fun z hz hl => ha z (by simp [hz]) hl

/-! ### the search -/
def upT (T : Nat → Int) (f : Nat) (v : Int) : Nat → Int := fun g => if g = f then v else T g
structure St (m p : List Int) (T : Nat → Int) : Prop where
  out : ∀ f, m.length ≤ f → T f = 0
  fix : ∀ f, f < m.length → at5 p f ≠ -1 → T f = at5 p f
  lev : ∀ f, f < m.length → -1 ≤ T f ∧ T f < at5 m f
  pre : ∀ f g, f < g → g < m.length → T f = -1 → at5 p g = -1 → T g = -1
def Inv (m : List Int) (b : List (List Int)) (p : List Int) (T : Nat → Int) : Prop := ∀ x, okT m x = true → mB p x = true → lxF (at5 x) T → bnB b x = true
/-- a ban is met by what is chosen so far -/
def fbB (b : List (List Int)) (T : Nat → Int) : Bool := b.any fun q => meet5 (at5 q) T

theorem okW_at5 {lo : Int} {m t : List Int} (h : okW lo m t = true) {f : Nat} (hf : f < m.length) : lo ≤ at5 t f ∧ at5 t f < at5 m f := by
  have hl := okW_len h
  obtain ⟨x, hx⟩ := at_of_lt (show f < t.length by omega)
  obtain ⟨y, hy⟩ := at_of_lt hf
  rw [at5_of hx, at5_of hy]
  exact okW_at h hx hy
theorem mB_at5 {p t : List Int} (h : mB p t = true) (hl : p.length = t.length) (h5 : p.length ≤ 5) (f : Nat) (hf : f < 5) : at5 p f = -1 ∨ at5 p f = at5 t f := by
  rw [← meet5_mB hl h5] at h
  have := (List.all_eq_true.1 h) f (List.mem_range.2 hf)
  simpa using this
theorem Inv.start {m p : List Int} {b : List (List Int)} (hm : m.length ≤ 5) (hp : okP m p = true) : Inv m b p (at5 p) := by
  intro x hx hmx ⟨f, h5, _, hlt⟩
  exfalso
  have hpl := okW_len hp
  have hxl := okW_len hx
  rcases mB_at5 hmx (by omega) (by omega) f h5 with h | h
  · by_cases hf : f < m.length
    · have := (okW_at5 hx hf).1; omega
    · rw [at5_out (l := p) (by omega)] at h; omega
  · omega
theorem St.start {m p : List Int} (hp : okP m p = true) : St m p (at5 p) where
  out f hf := at5_out (by have := okW_len hp; omega)
  fix f hf _ := rfl
  lev f hf := okW_at5 hp hf
  pre f g _ _ _ h := h
theorem St.open {m p : List Int} {T : Nat → Int} (h : St m p T) (hm : okM m = true) {o : Nat} (ho : T o = -1) (hf : ∀ g, g < o → T g ≠ -1) : o < m.length ∧ St m p (upT T o 0) := by
  have hol : o < m.length := by
    rcases Nat.lt_or_ge o m.length with h1 | h1
    · exact h1
    · have := h.out o h1; omega
  refine ⟨hol, fun f hf => ?_, fun f hf hp => ?_, fun f hf => ?_, fun f g hfg hg h1 h2 => ?_⟩
  · unfold upT; rw [if_neg (by omega)]; exact h.out f hf
  · have := h.fix f hf hp
    unfold upT; rw [if_neg (by rintro rfl; omega)]; exact this
  · unfold upT
    split
    · subst f
      obtain ⟨y, hy⟩ := at_of_lt hol
      have := okM_at hm hy
      rw [at5_of hy]; omega
    · exact h.lev f hf
  · unfold upT at h1 ⊢
    split at h1
    · omega
    · have h3 : ¬ f < o := fun h4 => hf f h4 h1
      rw [if_neg (by omega)]; exact h.pre f g hfg hg h1 h2
theorem Inv.open {m p : List Int} {b : List (List Int)} {T : Nat → Int} (h : Inv m b p T) (hs : St m p T) {o : Nat} (hol : o < m.length) (h5 : m.length ≤ 5) (hp : p.length = m.length) (ho : T o = -1) : Inv m b p (upT T o 0) := by
  intro x hx hmx ⟨f, hf5, he, hlt⟩
  have hxl := okW_len hx
  refine h x hx hmx ⟨f, hf5, fun g hg => ?_, ?_⟩
  · have h1 := he g hg
    unfold upT at h1
    split at h1
    · subst g
      exfalso
      unfold upT at hlt; rw [if_neg (by omega)] at hlt
      by_cases hfm : f < m.length
      · have hx0 := (okW_at5 hx hfm).1
        rcases mB_at5 hmx (by omega) (by omega) f hf5 with h2 | h2
        · have := hs.pre o f hg hfm ho h2; omega
        · have := hs.fix f hfm (by omega); omega
      · have := hs.out f (by omega)
        rw [at5_out (by omega)] at hlt; omega
    · exact h1
  · unfold upT at hlt
    split at hlt
    · subst f; have := (okW_at5 hx hol).1; omega
    · exact hlt
theorem ext_or {m p x : List Int} {T : Nat → Int} (hs : St m p T) (h5 : m.length ≤ 5) (hp : p.length = m.length) (hx : okT m x = true) (hmx : mB p x = true) {c : Nat}
    (hc : ∀ g, c ≤ g → g < m.length → T g ≠ at5 p g → T g = at5 m g - 1) (he : ∀ g, g < c → at5 x g = T g) : lxF (at5 x) T ∨ ∀ g, g < 5 → T g = -1 ∨ T g = at5 x g := by
  have hxl := okW_len hx
  by_cases hall : ∀ g, g < 5 → T g = -1 ∨ T g = at5 x g
  · exact .inr hall
  refine .inl ?_
  -- the first place that is told and differs
  have hex : ∃ g, g < 5 ∧ T g ≠ -1 ∧ T g ≠ at5 x g := by
    refine Classical.byContradiction fun hn => hall fun g hg => ?_
    by_cases h1 : T g = -1
    · exact .inl h1
    · exact .inr (Classical.byContradiction fun h2 => hn ⟨g, hg, h1, h2⟩)
  obtain ⟨g, ⟨hg5, hg1, hg2⟩, hmin⟩ : ∃ g, (g < 5 ∧ T g ≠ -1 ∧ T g ≠ at5 x g) ∧ ∀ k, k < g → ¬ (k < 5 ∧ T k ≠ -1 ∧ T k ≠ at5 x k) := by
    obtain ⟨g0, h0⟩ := hex
    induction g0 using Nat.strongRecOn with
    | ind g0 ih =>
      by_cases hk : ∃ k, k < g0 ∧ k < 5 ∧ T k ≠ -1 ∧ T k ≠ at5 x k
      · obtain ⟨k, hk1, hk2⟩ := hk; exact ih k hk1 hk2
      · exact ⟨g0, h0, fun k hk1 hk2 => hk ⟨k, hk1, hk2⟩⟩
  have hgm : g < m.length := by
    rcases Nat.lt_or_ge g m.length with h1 | h1
    · exact h1
    · exact absurd ((hs.out g h1).trans (at5_out (by omega)).symm) hg2
  have hgc : c ≤ g := by
    rcases Nat.lt_or_ge g c with h1 | h1
    · exact absurd (he g h1).symm hg2
    · exact h1
  have hgp : at5 p g = -1 := by
    rcases mB_at5 hmx (by omega) (by omega) g hg5 with h2 | h2
    · exact h2
    · by_cases h3 : at5 p g = -1
      · exact h3
      · exact absurd ((hs.fix g hgm h3).trans h2) hg2
  have htop := hc g hgc hgm (by omega)
  have hxg := okW_at5 hx hgm
  refine ⟨g, hg5, fun k hk => ?_, by omega⟩
  by_cases h1 : T k = -1
  · exact absurd (hs.pre k g hk hgm h1 hgp) hg1
  · exact Classical.byContradiction fun h2 => hmin k hk ⟨by omega, h1, fun h3 => h2 h3.symm⟩
theorem fb_bn {m x : List Int} {b : List (List Int)} {T : Nat → Int} (hb : okBn m b = true) (h5 : m.length ≤ 5) (hx : x.length = m.length) (hf : fbB b T = true) (ha : ∀ g, g < 5 → T g = -1 ∨ T g = at5 x g) : bnB b x = true := by
  unfold fbB at hf
  obtain ⟨q, hq, hm⟩ := List.any_eq_true.1 hf
  unfold bnB
  refine List.any_eq_true.2 ⟨q, hq, ?_⟩
  have hql := okW_len (okBn_all hb hq)
  rw [← meet5_mB (by omega) (by omega)]
  refine List.all_eq_true.2 fun i hi => ?_
  have h1 := (List.all_eq_true.1 hm) i hi
  have h2 := ha i (List.mem_range.1 hi)
  simp only [Bool.or_eq_true, beq_iff_eq] at h1 ⊢
  omega
/-- what stands behind place c is taken back -/
def cutT (p : List Int) (c : Nat) (T : Nat → Int) : Nat → Int := fun g => if c ≤ g then at5 p g else T g
theorem back_ok {m p : List Int} {b : List (List Int)} {T : Nat → Int} (hs : St m p T) (hi : Inv m b p T) (hb : okBn m b = true) (h5 : m.length ≤ 5) (hp : okP m p = true) (hf : fbB b T = true) {f : Nat} (hfm : f < m.length)
    (hc : ∀ g, f + 1 ≤ g → g < m.length → T g ≠ at5 p g → T g = at5 m g - 1) (h1 : T f ≠ at5 p f) (h2 : T f + 1 < at5 m f) :
    St m p (upT (cutT p (f + 1) T) f (T f + 1)) ∧ Inv m b p (upT (cutT p (f + 1) T) f (T f + 1)) := by
  have hpl := okW_len hp
  have hpf : at5 p f = -1 := Classical.byContradiction fun h => h1 (hs.fix f hfm h)
  have hT : ∀ g, upT (cutT p (f + 1) T) f (T f + 1) g = if g = f then T f + 1 else if f + 1 ≤ g then at5 p g else T g := fun g => rfl
  constructor
  · refine ⟨fun g hg => ?_, fun g hg hpg => ?_, fun g hg => ?_, fun g k hgk hk e1 e2 => ?_⟩
    · rw [hT, if_neg (by omega), if_pos (by omega)]; exact at5_out (by omega)
    · rw [hT]
      split
      · subst g; exact absurd hpf hpg
      · split
        · rfl
        · exact hs.fix g hg hpg
    · rw [hT]
      split
      · subst g; have := (hs.lev f hfm).1; omega
      · split
        · exact okW_at5 hp hg
        · exact hs.lev g hg
    · rw [hT] at e1 ⊢
      split at e1
      · have := (hs.lev f hfm).1
        have h0 : T f ≠ -1 := fun h => h1 (h.trans hpf.symm)
        omega
      · split at e1
        · rw [if_neg (by omega), if_pos (by omega)]; exact e2
        · rename_i hgf _
          have := hs.pre g f (by omega) hfm e1 hpf
          exact absurd (this.trans hpf.symm) h1
  · intro x hx hmx ⟨k, hk5, he, hlt⟩
    have hxl := okW_len hx
    simp only [hT] at he hlt
    by_cases hkf : k < f
    · refine hi x hx hmx ⟨k, hk5, fun g hg => ?_, ?_⟩
      · have := he g hg; rw [if_neg (by omega), if_neg (by omega)] at this; exact this
      · rw [if_neg (by omega), if_neg (by omega)] at hlt; exact hlt
    have hef : ∀ g, g < f → at5 x g = T g := fun g hg => by
      have := he g (by omega); rw [if_neg (by omega), if_neg (by omega)] at this; exact this
    have fin : (∀ g, g < f + 1 → at5 x g = T g) → bnB b x = true := fun hall => by
      rcases ext_or hs h5 (by omega) hx hmx hc hall with h3 | h3
      · exact hi x hx hmx h3
      · exact fb_bn hb h5 (by omega) hf h3
    have hle : at5 x f ≤ T f → bnB b x = true := fun hle => by
      by_cases h4 : at5 x f = T f
      · exact fin fun g hg => by
          by_cases h : g = f
          · subst g; exact h4
          · exact hef g (by omega)
      · exact hi x hx hmx ⟨f, by omega, hef, by omega⟩
    by_cases hkeq : k = f
    · subst k; rw [if_pos rfl] at hlt; exact hle (by omega)
    · exfalso
      rw [if_neg hkeq, if_pos (by omega)] at hlt
      by_cases hkm : k < m.length
      · have hx0 := (okW_at5 hx hkm).1
        rcases mB_at5 hmx (by omega) (by omega) k hk5 with h6 | h6 <;> omega
      · rw [at5_out (by omega), at5_out (by omega)] at hlt; omega
theorem mem_al {m x : List Int} {b : List (List Int)} (h : okM m = true) : x ∈ alL m b ↔ okT m x = true ∧ bnB b x = false := by
  unfold alL
  rw [List.mem_filter, ext_mem h]
  simp
theorem none_ok {m p : List Int} {b : List (List Int)} {T : Nat → Int} (hm : okM m = true) (hs : St m p T) (hi : Inv m b p T) (hb : okBn m b = true) (hp : okP m p = true) (hf : fbB b T = true)
    (hc : ∀ g, g < m.length → T g ≠ at5 p g → T g = at5 m g - 1) : ctO m b p = none := by
  have h5 := (okM_len hm).2
  have hpl := okW_len hp
  unfold ctO
  rw [List.find?_eq_none]
  intro x hx hmx
  rw [mem_al hm] at hx
  have hxl := okW_len hx.1
  have : bnB b x = true := by
    rcases ext_or (c := 0) hs h5 (by omega) hx.1 hmx (fun g _ => hc g) (fun g hg => by omega) with h3 | h3
    · exact hi x hx.1 hmx h3
    · exact fb_bn hb h5 (by omega) hf h3
  rw [hx.2] at this; cases this
/-- the levels that are chosen -/
def lT (T : Nat → Int) (n : Nat) : List Int := (List.range n).map T
theorem lT_len (T : Nat → Int) (n : Nat) : (lT T n).length = n := by simp [lT]
theorem lT_at {T : Nat → Int} {n f : Nat} (h : f < n) : (lT T n)[f]? = some (T f) := by
  unfold lT; rw [List.getElem?_map, List.getElem?_range h]; rfl
theorem lT_at5 {m p : List Int} {T : Nat → Int} (hs : St m p T) (f : Nat) : at5 (lT T m.length) f = T f := by
  by_cases h : f < m.length
  · exact at5_of (lT_at h)
  · rw [at5_out (by rw [lT_len]; omega), hs.out f (by omega)]
theorem okW_mk5 {lo : Int} {m t : List Int} (hl : t.length = m.length) (h : ∀ f, f < m.length → lo ≤ at5 t f ∧ at5 t f < at5 m f) : okW lo m t = true := by
  unfold okW
  rw [Bool.and_eq_true, decide_eq_true_eq]
  refine ⟨by omega, List.all_eq_true.2 ?_⟩
  intro q hq
  obtain ⟨k, hk⟩ := List.getElem?_of_mem hq
  obtain ⟨h1, h2⟩ := List.getElem?_zip_eq_some.1 hk
  have := h k (by have := lt_of_at h1; have := lt_of_at h2; omega)
  rw [at5_of h1, at5_of h2] at this
  exact inR_true.2 ⟨this.1, by omega⟩
theorem done_ok {m p : List Int} {b : List (List Int)} {T : Nat → Int} (hm : okM m = true) (hs : St m p T) (hi : Inv m b p T) (hb : okBn m b = true) (hp : okP m p = true) (hf : fbB b T = false) (ho : ∀ g, g < 5 → T g ≠ -1) :
    ctO m b p = some (lT T m.length) := by
  have h5 := (okM_len hm).2
  have hpl := okW_len hp
  have hl := lT_len T m.length
  have h1 : okT m (lT T m.length) = true := okW_mk5 hl fun f hf => by
    rw [lT_at5 hs]; have := hs.lev f hf; have := ho f (by omega); omega
  have h2 : mB p (lT T m.length) = true := by
    rw [← meet5_mB (by omega) (by omega)]
    refine List.all_eq_true.2 fun i hi => ?_
    have hi5 := List.mem_range.1 hi
    rw [lT_at5 hs]
    simp only [Bool.or_eq_true, beq_iff_eq]
    by_cases him : i < m.length
    · by_cases h : at5 p i = -1
      · exact .inl h
      · exact .inr (hs.fix i him h).symm
    · exact .inr (by rw [at5_out (by omega), hs.out i (by omega)])
  have h3 : bnB b (lT T m.length) = false := by
    cases hbn : bnB b (lT T m.length)
    · rfl
    · exfalso
      obtain ⟨q, hq, hmq⟩ := List.any_eq_true.1 hbn
      have hql := okW_len (okBn_all hb hq)
      rw [← meet5_mB (by omega) (by omega)] at hmq
      have : fbB b T = true := by
        unfold fbB
        refine List.any_eq_true.2 ⟨q, hq, ?_⟩
        refine List.all_eq_true.2 fun i hi => ?_
        have := (List.all_eq_true.1 hmq) i hi
        rwa [lT_at5 hs] at this
      rw [hf] at this; cases this
  unfold ctO
  refine find_first (lx_al m b) ((mem_al hm).2 ⟨h1, h3⟩) h2 fun y hy hl2 => ?_
  rw [mem_al hm] at hy
  cases hmy : mB p y
  · rfl
  · have hyl := okW_len hy.1
    have := hi y hy.1 hmy (by
      obtain ⟨f, e1, e2, e3⟩ := lxL_F hl2 (by omega)
      exact ⟨f, e1, fun g hg => (e2 g hg).trans (lT_at5 hs g), by rwa [lT_at5 hs] at e3⟩)
    rw [hy.2] at this; cases this
/-- how far the search is -/
def codeT (T : Nat → Int) : Nat := (256 * (T 0 + 1) + 64 * (T 1 + 1) + 16 * (T 2 + 1) + 4 * (T 3 + 1) + (T 4 + 1)).toNat
theorem code_le {T : Nat → Int} (h : ∀ f, f < 5 → -1 ≤ T f ∧ T f ≤ 2) : codeT T ≤ 1023 := by
  have h0 := h 0 (by omega); have h1 := h 1 (by omega); have h2 := h 2 (by omega); have h3 := h 3 (by omega); have h4 := h 4 (by omega)
  unfold codeT; omega
theorem code_lt {T T' : Nat → Int} (h : ∀ f, f < 5 → -1 ≤ T f ∧ T f ≤ 2) (h' : ∀ f, f < 5 → -1 ≤ T' f ∧ T' f ≤ 2) (hl : lxF T T') : codeT T < codeT T' := by
  have h0 := h 0 (by omega); have h1 := h 1 (by omega); have h2 := h 2 (by omega); have h3 := h 3 (by omega); have h4 := h 4 (by omega)
  have k0 := h' 0 (by omega); have k1 := h' 1 (by omega); have k2 := h' 2 (by omega); have k3 := h' 3 (by omega); have k4 := h' 4 (by omega)
  obtain ⟨f, hf, he, hlt⟩ := hl
  unfold codeT
  have hcs : f = 0 ∨ f = 1 ∨ f = 2 ∨ f = 3 ∨ f = 4 := by omega
  rcases hcs with rfl | rfl | rfl | rfl | rfl
  · omega
  · have := he 0 (by omega); omega
  · have := he 0 (by omega); have := he 1 (by omega); omega
  · have := he 0 (by omega); have := he 1 (by omega); have := he 2 (by omega); omega
  · have := he 0 (by omega); have := he 1 (by omega); have := he 2 (by omega); have := he 3 (by omega); omega
theorem St.lev5 {m p : List Int} {T : Nat → Int} (hm : okM m = true) (hs : St m p T) : ∀ f, f < 5 → -1 ≤ T f ∧ T f ≤ 2 := fun f _ => by
  by_cases h : f < m.length
  · obtain ⟨y, hy⟩ := at_of_lt h
    have := okM_at hm hy
    have := hs.lev f h
    rw [at5_of hy] at this; omega
  · rw [hs.out f (by omega)]; omega
theorem lx_up {T : Nat → Int} {f : Nat} {v : Int} (h5 : f < 5) (h : T f < v) : lxF T (upT T f v) :=
  ⟨f, h5, fun g hg => by unfold upT; rw [if_neg (by omega)], by unfold upT; rw [if_pos rfl]; exact h⟩
theorem lx_back {p : List Int} {T : Nat → Int} {f : Nat} {v : Int} (h5 : f < 5) (h : T f < v) : lxF T (upT (cutT p (f + 1) T) f v) :=
  ⟨f, h5, fun g hg => by unfold upT cutT; rw [if_neg (by omega), if_neg (by omega)], by unfold upT; rw [if_pos rfl]; exact h⟩

end Go.Proofs.YtpioldgpfpmjiaaGreatDoor
