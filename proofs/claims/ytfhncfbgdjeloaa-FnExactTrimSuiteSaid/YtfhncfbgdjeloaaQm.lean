/- Plain facts: the best one of some tests, suites that grow, are trimmed, cut and crossed. -/
import Derived.Test.YtfhncfbgdjeloaaPd
namespace Go.Proofs.Ytfhncfbgdjeloaa
open Go.RowKit

/-- the better one of two -/
def btr (f : List Int → Nat) (b x : List Int) : List Int := if f b < f x then x else b
theorem btr_yes {f : List Int → Nat} {b x : List Int} (h : f b < f x) : btr f b x = x := by unfold btr; rw [if_pos h]
theorem btr_no {f : List Int → Nat} {b x : List Int} (h : ¬ f b < f x) : btr f b x = b := by unfold btr; rw [if_neg h]
/-- the first one of the lists at which f is greatest -/
def bstL (f : List Int → Nat) (all : List (List Int)) : List Int := all.foldl (btr f) (all.headD [])
theorem bst_fold (f : List Int → Nat) : ∀ (l : List (List Int)) (b : List Int), (l.foldl (btr f) b = b ∨ l.foldl (btr f) b ∈ l) ∧ f b ≤ f (l.foldl (btr f) b) ∧ ∀ x ∈ l, f x ≤ f (l.foldl (btr f) b)
  | [], b => by simp
  | y :: l, b => by
    have h := bst_fold f l (btr f b y)
    rw [List.foldl_cons]
    have h1 : f b ≤ f (btr f b y) ∧ f y ≤ f (btr f b y) ∧ (btr f b y = b ∨ btr f b y = y) := by
      unfold btr
      split
      · exact ⟨by omega, Nat.le_refl _, .inr rfl⟩
      · exact ⟨Nat.le_refl _, by omega, .inl rfl⟩
    refine ⟨?_, by omega, fun x hx => ?_⟩
    · rcases h.1 with h2 | h2
      · rw [h2]
        rcases h1.2.2 with h3 | h3
        · exact .inl h3
        · rw [h3]; exact .inr (List.mem_cons_self ..)
      · exact .inr (List.mem_cons_of_mem _ h2)
    · rcases List.mem_cons.1 hx with rfl | hx
      · omega
      · exact h.2.2 x hx
theorem btr_self (f : List Int → Nat) (x : List Int) : btr f x x = x := by unfold btr; split <;> rfl
theorem bstL_one (f : List Int → Nat) (x : List Int) : bstL f [x] = x := by simp [bstL, btr_self]
theorem bstL_snoc (f : List Int → Nat) {all : List (List Int)} (x : List Int) (h : all ≠ []) : bstL f (all ++ [x]) = btr f (bstL f all) x := by
  unfold bstL
  cases all with
  | nil => exact absurd rfl h
  | cons y l => simp [List.foldl_append]
theorem bstL_mem (f : List Int → Nat) {all : List (List Int)} (h : all ≠ []) : bstL f all ∈ all := by
  cases all with
  | nil => exact absurd rfl h
  | cons y l =>
    have h1 := (bst_fold f (y :: l) y).1
    unfold bstL
    rcases h1 with h1 | h1
    · rw [List.headD_cons, h1]; exact List.mem_cons_self ..
    · exact h1
theorem bstL_max (f : List Int → Nat) (all : List (List Int)) : ∀ x ∈ all, f x ≤ f (bstL f all) := (bst_fold f all (all.headD [])).2.2
theorem bstL_congr {f g : List Int → Nat} {all : List (List Int)} (h : ∀ x ∈ all, f x = g x) : bstL f all = bstL g all := by
  unfold bstL
  cases all with
  | nil => rfl
  | cons y l =>
    rw [List.headD_cons]
    have e : ∀ (l : List (List Int)) (b : List Int), f b = g b → (∀ x ∈ l, f x = g x) → l.foldl (btr f) b = l.foldl (btr g) b := by
      intro l
      induction l with
      | nil => intro b _ _; rfl
      | cons x l ih =>
        intro b hb hl
        have hx := hl x (List.mem_cons_self ..)
        have e1 : btr f b x = btr g b x := by unfold btr; rw [hb, hx]
        rw [List.foldl_cons, List.foldl_cons, e1]
        refine ih _ ?_ fun z hz => hl z (List.mem_cons_of_mem _ hz)
        unfold btr
        split
        · exact hx
        · exact hb
    exact e _ _ (h y (List.mem_cons_self ..)) h

/-- what a test leaves of some patterns -/
def rstP (ps : List (List Int)) (x : List Int) : List (List Int) := ps.filter fun p => !mB p x
theorem rstP_step {ps : List (List Int)} {x : List Int} {k : Nat} {r : List Int} (hx : ps[k]? = some r) (h : mB r x = false) : rstP (ps.take (k + 1)) x = rstP (ps.take k) x ++ [r] := by
  unfold rstP; rw [take_snoc hx, List.filter_append]; simp [h]
theorem rstP_skip {ps : List (List Int)} {x : List Int} {k : Nat} {r : List Int} (hx : ps[k]? = some r) (h : mB r x = true) : rstP (ps.take (k + 1)) x = rstP (ps.take k) x := by
  unfold rstP; rw [take_snoc hx, List.filter_append]; simp [h]
theorem rstP_len (ps : List (List Int)) (x : List Int) (k : Nat) : (rstP (ps.take k) x).length ≤ ps.length := by
  unfold rstP
  exact Nat.le_trans (List.length_filter_le _ _) (by simp; omega)
theorem rstP_le (ps : List (List Int)) (x : List Int) : (rstP ps x).length ≤ ps.length := List.length_filter_le _ _
theorem rstP_mem {ps : List (List Int)} {x p : List Int} (h : p ∈ rstP ps x) : p ∈ ps := (List.mem_filter.1 h).1
theorem rst_fr (ps : List (List Int)) (x : List Int) : (rstP ps x).length + frP ps x = ps.length := filt_len ps fun p => mB p x
theorem un_rst {ps : List (List Int)} {x : List Int} (h5 : x.length ≤ 5) (h : ∀ p ∈ ps, p.length = x.length) : unP ps (at5 x) = rstP ps x := by
  unfold unP rstP
  apply List.filter_congr
  intro p hp
  rw [meet5_mB (h p hp) (by rw [h p hp]; exact h5)]
/-- how many patterns a test of an array meets -/
def met5 (ps : List (List Int)) (T : Nat → Int) : Nat := ps.countP fun p => meet5 (at5 p) T
theorem met_fr {ps : List (List Int)} {x : List Int} (h5 : x.length ≤ 5) (h : ∀ p ∈ ps, p.length = x.length) : met5 ps (at5 x) = frP ps x := by
  unfold met5 frP
  apply List.countP_congr
  intro p hp
  rw [meet5_mB (h p hp) (by rw [h p hp]; exact h5)]

/-- a suite with best tests behind it, at most n of them -/
def grS (all : List (List Int)) : Nat → List (List Int) → List (List Int) → List (List Int)
  | 0, out, _ => out
  | n + 1, out, left => if left = [] then out else grS all n (out ++ [bstL (frP left) all]) (rstP left (bstL (frP left) all))
theorem grS_done (all : List (List Int)) (n : Nat) (out : List (List Int)) : grS all n out [] = out := by cases n <;> simp [grS]
theorem grS_step (all : List (List Int)) (n : Nat) (out : List (List Int)) {left : List (List Int)} (h : left ≠ []) : grS all (n + 1) out left = grS all n (out ++ [bstL (frP left) all]) (rstP left (bstL (frP left) all)) := by
  simp only [grS]; rw [if_neg h]
theorem grS_len (all : List (List Int)) : ∀ (n : Nat) (out left : List (List Int)), out.length ≤ (grS all n out left).length ∧ (grS all n out left).length ≤ out.length + n
  | 0, out, left => by simp [grS]
  | n + 1, out, left => by
    simp only [grS]
    split
    · omega
    · have := grS_len all n (out ++ [bstL (frP left) all]) (rstP left (bstL (frP left) all))
      simp at this
      omega
theorem grS_pre (all : List (List Int)) : ∀ (n : Nat) (out left : List (List Int)), ∃ more, grS all n out left = out ++ more
  | 0, out, left => ⟨[], by simp [grS]⟩
  | n + 1, out, left => by
    simp only [grS]
    split
    · exact ⟨[], by simp⟩
    · obtain ⟨more, h⟩ := grS_pre all n (out ++ [bstL (frP left) all]) (rstP left (bstL (frP left) all))
      exact ⟨bstL (frP left) all :: more, by rw [h]; simp⟩
theorem grS_rows {all : List (List Int)} {P : List Int → Prop} (ha : all ≠ []) (hall : ∀ x ∈ all, P x) : ∀ (n : Nat) (out left : List (List Int)), (∀ x ∈ out, P x) → ∀ x ∈ grS all n out left, P x
  | 0, out, left, h => by simpa [grS] using h
  | n + 1, out, left, h => by
    simp only [grS]
    split
    · exact h
    · refine grS_rows ha hall n _ _ fun x hx => ?_
      rcases List.mem_append.1 hx with hx | hx
      · exact h x hx
      · simp at hx; subst hx; exact hall _ (bstL_mem _ ha)

/-- a suite without the tests that are not needed, from index k - 1 down -/
def trG (f : List (List Int) → Nat) : Nat → List (List Int) → List (List Int)
  | 0, l => l
  | k + 1, l => trG f k (if f (l.eraseIdx k) = f l then l.eraseIdx k else l)
theorem trG_step (f : List (List Int) → Nat) (k : Nat) (l : List (List Int)) : trG f (k + 1) l = trG f k (if f (l.eraseIdx k) = f l then l.eraseIdx k else l) := rfl
theorem trG_same (f : List (List Int) → Nat) : ∀ (k : Nat) (l : List (List Int)), f (trG f k l) = f l
  | 0, _ => rfl
  | k + 1, l => by
    rw [trG_step, trG_same f k]
    split
    · assumption
    · rfl
theorem trG_mem (f : List (List Int) → Nat) : ∀ (k : Nat) (l : List (List Int)) (x : List Int), x ∈ trG f k l → x ∈ l
  | 0, _, _, h => h
  | k + 1, l, x, h => by
    rw [trG_step] at h
    have h1 := trG_mem f k _ x h
    split at h1
    · exact List.mem_of_mem_eraseIdx h1
    · exact h1
theorem trG_len (f : List (List Int) → Nat) : ∀ (k : Nat) (l : List (List Int)), (trG f k l).length ≤ l.length
  | 0, _ => Nat.le_refl _
  | k + 1, l => by
    rw [trG_step]
    refine Nat.le_trans (trG_len f k _) ?_
    split
    · exact List.length_eraseIdx_le _ _
    · exact Nat.le_refl _

/-- the tests that are not needed one by one -/
def spF (m : List Int) (s : List (List Int)) (t : Int) (k : Nat) : Bool := (misL m (s.eraseIdx k) t).length == (misL m s t).length
def spN (m : List Int) (s : List (List Int)) (t : Int) (k : Nat) : List Int := ((List.range k).filter (spF m s t)).map fun (i : Nat) => (i : Int)
theorem spN_yes {m : List Int} {s : List (List Int)} {t : Int} {k : Nat} (h : spF m s t k = true) : spN m s t (k + 1) = spN m s t k ++ [(k : Int)] := by
  unfold spN; rw [List.range_succ, List.filter_append]; simp [h]
theorem spN_no {m : List Int} {s : List (List Int)} {t : Int} {k : Nat} (h : spF m s t k = false) : spN m s t (k + 1) = spN m s t k := by
  unfold spN; rw [List.range_succ, List.filter_append]; simp [h]
theorem spN_len (m : List Int) (s : List (List Int)) (t : Int) (k : Nat) : (spN m s t k).length ≤ k := by
  unfold spN
  rw [List.length_map]
  exact Nat.le_trans (List.length_filter_le _ _) (by simp)
def spL (m : List Int) (s : List (List Int)) (t : Int) : List Int := if okC m s t then spN m s t s.length else []
theorem sp_yes {m : List Int} {s : List (List Int)} {t : Int} (h : okC m s t = true) : spL m s t = spN m s t s.length := by unfold spL; rw [h]; rfl
theorem sp_no {m : List Int} {s : List (List Int)} {t : Int} (h : okC m s t = false) : spL m s t = [] := by unfold spL; rw [h]; rfl
theorem spL_len {m : List Int} {s : List (List Int)} {t : Int} : (spL m s t).length ≤ 20 := by
  cases hc : okC m s t
  · rw [sp_no hc]; simp
  · rw [sp_yes hc]; exact Nat.le_trans (spN_len _ _ _ _) (okC_parts hc).2.2.1
def misN (m : List Int) (t : Int) (s : List (List Int)) : Nat := (misL m s t).length
def trL (m : List Int) (s : List (List Int)) (t : Int) : List (List Int) := if okC m s t then trG (misN m t) s.length s else []
theorem tr_yes {m : List Int} {s : List (List Int)} {t : Int} (h : okC m s t = true) : trL m s t = trG (misN m t) s.length s := by unfold trL; rw [h]; rfl
theorem tr_no {m : List Int} {s : List (List Int)} {t : Int} (h : okC m s t = false) : trL m s t = [] := by unfold trL; rw [h]; rfl
theorem trL_len {m : List Int} {s : List (List Int)} {t : Int} : (trL m s t).length ≤ 20 := by
  cases hc : okC m s t
  · rw [tr_no hc]; simp
  · rw [tr_yes hc]; exact Nat.le_trans (trG_len _ _ _) (okC_parts hc).2.2.1
theorem trL_row {m : List Int} {s : List (List Int)} {t : Int} : ∀ l ∈ trL m s t, l.length = m.length ∧ m.length ≤ 5 := by
  intro l h
  cases hc : okC m s t
  · rw [tr_no hc] at h; simp at h
  · rw [tr_yes hc] at h
    exact ⟨(okC_parts hc).2.2.2 l (trG_mem _ _ _ _ h), (okM_len (okC_parts hc).1).2⟩
theorem trL_sum {m : List Int} {s : List (List Int)} {t : Int} : sumL (trL m s t) ≤ 100 := by
  have h1 := sumL_le (n := 5) (mm := trL m s t) fun r hr => by have := trL_row r hr; omega
  have h2 := @trL_len m s t
  omega
theorem trL_gr {m : List Int} {s : List (List Int)} {t : Int} : True ∧ ∀ r ∈ trL m s t, r.length ≤ 4611686018427387904 := ⟨trivial, fun r hr => by have := trL_row r hr; omega⟩

/-- the best test, and the grown suite -/
def beL (m : List Int) (s : List (List Int)) (t : Int) : List Int := if okC m s t then bstL (frP (misL m s t)) (extS m []) else []
def gsR (m : List Int) (s : List (List Int)) (t : Int) : List (List Int) := grS (extS m []) (21 - s.length) s (misL m s t)
def gsB (m : List Int) (s : List (List Int)) (t : Int) : Bool := okC m s t && decide ((gsR m s t).length ≤ 20)
def gsL (m : List Int) (s : List (List Int)) (t : Int) : List (List Int) := if gsB m s t then gsR m s t else []
theorem be_yes {m : List Int} {s : List (List Int)} {t : Int} (h : okC m s t = true) : beL m s t = bstL (frP (misL m s t)) (extS m []) := by unfold beL; rw [h]; rfl
theorem be_no {m : List Int} {s : List (List Int)} {t : Int} (h : okC m s t = false) : beL m s t = [] := by unfold beL; rw [h]; rfl
theorem gs_no {m : List Int} {s : List (List Int)} {t : Int} (h : okC m s t = false ∨ 20 < (gsR m s t).length) : gsL m s t = [] ∧ gsB m s t = false := by
  have hb : gsB m s t = false := by
    unfold gsB
    rcases h with h | h
    · rw [h]; rfl
    · rw [Bool.and_eq_false_iff]; right; simp; omega
  unfold gsL; rw [hb]; exact ⟨rfl, rfl⟩
theorem gs_yes {m : List Int} {s : List (List Int)} {t : Int} (h : okC m s t = true) (h' : (gsR m s t).length ≤ 20) : gsL m s t = gsR m s t ∧ gsB m s t = true := by
  have hb : gsB m s t = true := by unfold gsB; rw [h]; simp [h']
  unfold gsL; rw [hb]; exact ⟨rfl, rfl⟩
theorem ext_row {m : List Int} : ∀ l ∈ extS m [], l.length = m.length := fun l h => by unfold extS at h; exact patS_row l h
theorem ext_mem {m x : List Int} (h : okM m = true) : x ∈ extS m [] ↔ okT m x = true := by
  have h1 := mem_full (p := x) h
  unfold extS
  simpa using h1
theorem ext_ne {m : List Int} (h : okM m = true) : extS m [] ≠ [] := by
  have h1 : okT m (m.map fun _ => 0) = true := by
    unfold okT okW
    simp only [Bool.and_eq_true, decide_eq_true_eq, List.length_map, true_and]
    rw [List.all_eq_true]
    intro q hq
    obtain ⟨k, hk⟩ := List.getElem?_of_mem hq
    rw [List.getElem?_zip_eq_some] at hk
    have h2 := okM_at h hk.2
    have h3 : q.1 = 0 := by
      have := hk.1
      simp only [List.getElem?_map, Option.map_eq_some_iff] at this
      obtain ⟨_, _, e⟩ := this
      exact e.symm
    exact inR_true.2 (by omega)
  have h2 := (ext_mem h).2 h1
  intro e
  rw [e] at h2
  cases h2
theorem ext_len {m : List Int} (h : okM m = true) : (extS m []).length ≤ 1024 := patS_len h _
theorem beL_len {m : List Int} {s : List (List Int)} {t : Int} : (beL m s t).length ≤ 5 := by
  cases hc : okC m s t
  · rw [be_no hc]; simp
  · rw [be_yes hc]
    have hp := okC_parts hc
    rw [ext_row _ (bstL_mem _ (ext_ne hp.1))]
    exact (okM_len hp.1).2
theorem gsL_len {m : List Int} {s : List (List Int)} {t : Int} : (gsL m s t).length ≤ 20 := by
  cases hc : gsB m s t
  · unfold gsL; rw [hc]; simp
  · have h2 := hc
    unfold gsB at h2
    simp at h2
    unfold gsL; rw [hc]; exact h2.2
theorem gsL_row {m : List Int} {s : List (List Int)} {t : Int} : ∀ l ∈ gsL m s t, l.length = m.length ∧ m.length ≤ 5 := by
  intro l h
  cases hc : gsB m s t
  · unfold gsL at h; rw [hc] at h; simp at h
  · have h2 := hc
    unfold gsB at h2
    rw [Bool.and_eq_true] at h2
    have hp := okC_parts h2.1
    unfold gsL at h; rw [hc] at h
    exact ⟨grS_rows (P := fun l => l.length = m.length) (ext_ne hp.1) ext_row _ _ _ hp.2.2.2 l h, (okM_len hp.1).2⟩
theorem gsL_sum {m : List Int} {s : List (List Int)} {t : Int} : sumL (gsL m s t) ≤ 100 := by
  have h1 := sumL_le (n := 5) (mm := gsL m s t) fun r hr => by have := gsL_row r hr; omega
  have h2 := @gsL_len m s t
  omega
theorem gsL_gr {m : List Int} {s : List (List Int)} {t : Int} : True ∧ ∀ r ∈ gsL m s t, r.length ≤ 4611686018427387904 := ⟨trivial, fun r hr => by have := gsL_row r hr; omega⟩

/-- a suite without a factor -/
def drB (m : List Int) (s : List (List Int)) (f : Int) : Bool := okM m && okS m s && decide (2 ≤ m.length) && inR f 0 ((m.length : Int) - 1)
def drL (m : List Int) (s : List (List Int)) (f : Int) : List (List Int) := if drB m s f then s.map fun r => r.eraseIdx f.toNat else []
theorem dr_no {m : List Int} {s : List (List Int)} {f : Int} (h : drB m s f = false) : drL m s f = [] ∧ drB m s f = false := by unfold drL; rw [h]; exact ⟨rfl, rfl⟩
theorem dr_yes {m : List Int} {s : List (List Int)} {f : Int} (h : drB m s f = true) : drL m s f = (s.map fun r => r.eraseIdx f.toNat) ∧ drB m s f = true := by unfold drL; rw [h]; exact ⟨rfl, rfl⟩
theorem drL_row {m : List Int} {s : List (List Int)} {f : Int} : ∀ l ∈ drL m s f, l.length ≤ 5 := by
  intro l h
  cases hb : drB m s f
  · rw [(dr_no hb).1] at h; simp at h
  · rw [(dr_yes hb).1] at h
    obtain ⟨r, hr, rfl⟩ := List.mem_map.1 h
    unfold drB at hb
    simp only [Bool.and_eq_true] at hb
    have h1 := okW_len (okS_all hb.1.1.2 hr)
    have h2 := okM_len hb.1.1.1
    have h3 := List.length_eraseIdx_le r f.toNat
    omega
theorem drL_len {m : List Int} {s : List (List Int)} {f : Int} : (drL m s f).length ≤ 20 := by
  cases hb : drB m s f
  · rw [(dr_no hb).1]; simp
  · rw [(dr_yes hb).1, List.length_map]
    unfold drB at hb
    simp only [Bool.and_eq_true] at hb
    exact okS_len hb.1.1.2
theorem drL_sum {m : List Int} {s : List (List Int)} {f : Int} : sumL (drL m s f) ≤ 100 := by
  have h1 := sumL_le (n := 5) (mm := drL m s f) drL_row
  have h2 := @drL_len m s f
  omega
theorem drL_gr {m : List Int} {s : List (List Int)} {f : Int} : True ∧ ∀ r ∈ drL m s f, r.length ≤ 4611686018427387904 := ⟨trivial, fun r hr => by have := drL_row r hr; omega⟩

/-- suites crossed -/
def crX (a b : List (List Int)) : List (List Int) := a.flatMap fun r => b.map (r ++ ·)
theorem crX_len (a b : List (List Int)) : (crX a b).length = a.length * b.length := by
  unfold crX
  induction a with
  | nil => simp
  | cons r a ih => rw [List.flatMap_cons, List.length_append, ih, List.length_map, List.length_cons, Nat.succ_mul]; omega
def crB (m : List Int) (a : List (List Int)) (n : List Int) (b : List (List Int)) : Bool := okM m && okS m a && (okM n && okS n b) && decide (m.length + n.length ≤ 5) && decide (a.length * b.length ≤ 20)
def crL (m : List Int) (a : List (List Int)) (n : List Int) (b : List (List Int)) : List (List Int) := if crB m a n b then crX a b else []
theorem cr_no {m n : List Int} {a b : List (List Int)} (h : crB m a n b = false) : crL m a n b = [] ∧ crB m a n b = false := by unfold crL; rw [h]; exact ⟨rfl, rfl⟩
theorem cr_yes {m n : List Int} {a b : List (List Int)} (h : crB m a n b = true) : crL m a n b = crX a b ∧ crB m a n b = true := by unfold crL; rw [h]; exact ⟨rfl, rfl⟩
theorem crL_row {m n : List Int} {a b : List (List Int)} : ∀ l ∈ crL m a n b, l.length ≤ 5 := by
  intro l h
  cases hb : crB m a n b
  · rw [(cr_no hb).1] at h; simp at h
  · rw [(cr_yes hb).1] at h
    unfold crB at hb
    simp only [Bool.and_eq_true, decide_eq_true_eq] at hb
    obtain ⟨r, hr, h⟩ := List.mem_flatMap.1 h
    obtain ⟨q, hq, rfl⟩ := List.mem_map.1 h
    have h1 := okW_len (okS_all hb.1.1.1.2 hr)
    have h2 := okW_len (okS_all hb.1.1.2.2 hq)
    simp
    omega
theorem crL_len {m n : List Int} {a b : List (List Int)} : (crL m a n b).length ≤ 20 := by
  cases hb : crB m a n b
  · rw [(cr_no hb).1]; simp
  · rw [(cr_yes hb).1, crX_len]
    unfold crB at hb
    simp only [Bool.and_eq_true, decide_eq_true_eq] at hb
    exact hb.2
theorem crL_sum {m n : List Int} {a b : List (List Int)} : sumL (crL m a n b) ≤ 100 := by
  have h1 := sumL_le (n := 5) (mm := crL m a n b) crL_row
  have h2 := @crL_len m n a b
  omega
theorem crL_gr {m n : List Int} {a b : List (List Int)} : True ∧ ∀ r ∈ crL m a n b, r.length ≤ 4611686018427387904 := ⟨trivial, fun r hr => by have := crL_row r hr; omega⟩

/-- a square of q levels, its first k places -/
def sqR (q k : Nat) (x y : Nat) : List Int := ([(x : Int), (y : Int), ((x : Int) + y) % q, ((x : Int) + 2 * y) % q] : List Int).take k
def sqX (q k : Nat) : List (List Int) := (List.range q).flatMap fun x => (List.range q).map fun y => sqR q k x y
def sqB (q k : Int) : Bool := inR q 2 3 && inR k 1 (q + 1)
def sqL (q k : Int) : List (List Int) := if sqB q k then sqX q.toNat k.toNat else []
theorem sq_no {q k : Int} (h : sqB q k = false) : sqL q k = [] ∧ sqB q k = false := by unfold sqL; rw [h]; exact ⟨rfl, rfl⟩
theorem sq_yes {q k : Int} (h : sqB q k = true) : sqL q k = sqX q.toNat k.toNat ∧ sqB q k = true := by unfold sqL; rw [h]; exact ⟨rfl, rfl⟩
theorem sqR_len (q k x y : Nat) : (sqR q k x y).length ≤ 4 := by unfold sqR; simp; omega
theorem sqL_row {q k : Int} : ∀ l ∈ sqL q k, l.length ≤ 5 := by
  intro l h
  cases hb : sqB q k
  · rw [(sq_no hb).1] at h; simp at h
  · rw [(sq_yes hb).1] at h
    unfold sqX at h
    simp only [List.mem_flatMap, List.mem_map] at h
    obtain ⟨x, _, y, _, rfl⟩ := h
    have := sqR_len q.toNat k.toNat x y
    omega
theorem sqX_len (q k : Nat) : (sqX q k).length = q * q := by
  unfold sqX
  have e : ∀ n : Nat, ((List.range n).flatMap fun x => (List.range q).map fun y => sqR q k x y).length = n * q := by
    intro n
    induction n with
    | zero => simp
    | succ n ih => rw [List.range_succ, List.flatMap_append, List.length_append, ih, Nat.succ_mul]; simp
  exact e q
theorem sqL_len {q k : Int} : (sqL q k).length ≤ 20 := by
  cases hb : sqB q k
  · rw [(sq_no hb).1]; simp
  · rw [(sq_yes hb).1, sqX_len]
    unfold sqB at hb
    rw [Bool.and_eq_true] at hb
    have := inR_true.1 hb.1
    have h3 : q.toNat ≤ 3 := by omega
    have := Nat.mul_le_mul h3 h3
    omega
theorem sqL_sum {q k : Int} : sumL (sqL q k) ≤ 100 := by
  have h1 := sumL_le (n := 5) (mm := sqL q k) sqL_row
  have h2 := @sqL_len q k
  omega
theorem sqL_gr {q k : Int} : True ∧ ∀ r ∈ sqL q k, r.length ≤ 4611686018427387904 := ⟨trivial, fun r hr => by have := sqL_row r hr; omega⟩

end Go.Proofs.Ytfhncfbgdjeloaa
