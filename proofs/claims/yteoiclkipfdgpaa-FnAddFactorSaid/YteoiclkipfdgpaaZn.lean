/- Plain facts: the values of the functions on bans. -/
import Derived.Test.YteoiclkipfdgpaaZm
namespace Go.Proofs.Yteoiclkipfdgpaa

theorem flt_step {α : Type} {f : α → Bool} {ps : List α} {k : Nat} {r : α} (hx : ps[k]? = some r) (h : f r = true) : (ps.take (k + 1)).filter f = (ps.take k).filter f ++ [r] := by
  rw [take_snoc hx, List.filter_append]; simp [h]
theorem flt_skip {α : Type} {f : α → Bool} {ps : List α} {k : Nat} {r : α} (hx : ps[k]? = some r) (h : f r = false) : (ps.take (k + 1)).filter f = (ps.take k).filter f := by
  rw [take_snoc hx, List.filter_append]; simp [h]
theorem flt_end {α : Type} {f : α → Bool} {ps : List α} {k : Nat} (hk : ps.length ≤ k) : (ps.take k).filter f = ps.filter f := by rw [List.take_of_length_le hk]
theorem flt_len {α : Type} (f : α → Bool) (ps : List α) (k : Nat) : ((ps.take k).filter f).length ≤ ps.length :=
  Nat.le_trans (List.length_filter_le _ _) (by simp; omega)

def bnM (m : List Int) (b : List (List Int)) : Bool := okM m && okBn m b
def bnT (m : List Int) (b : List (List Int)) (t : Int) : Bool := okM m && okBn m b && inR t 0 m.length
theorem bnM_m {m : List Int} {b : List (List Int)} (h : bnM m b = true) : okM m = true ∧ okBn m b = true := by
  unfold bnM at h; rwa [Bool.and_eq_true] at h
theorem bnM_mk {m : List Int} {b : List (List Int)} (h : okM m = true) (h' : okBn m b = true) : bnM m b = true := by unfold bnM; rw [h, h']; rfl
theorem bnT_m {m : List Int} {b : List (List Int)} {t : Int} (h : bnT m b t = true) : okM m = true ∧ okBn m b = true ∧ 0 ≤ t ∧ t ≤ m.length := by
  unfold bnT at h; rw [Bool.and_eq_true, Bool.and_eq_true] at h
  exact ⟨h.1.1, h.1.2, inR_true.1 h.2⟩
theorem bnT_mk {m : List Int} {b : List (List Int)} {t : Int} (h : okM m = true) (h' : okBn m b = true) (h0 : 0 ≤ t) (h1 : t ≤ m.length) : bnT m b t = true := by
  unfold bnT; rw [h, h', inR_true.2 ⟨h0, h1⟩]; rfl

/-- AllowedTests -/
def atL (m : List Int) (b : List (List Int)) : List (List Int) := if bnM m b then alL m b else []
theorem at_yes {m : List Int} {b : List (List Int)} (h : okM m = true) (h' : okBn m b = true) : atL m b = alL m b := by unfold atL; rw [bnM_mk h h']; rfl
theorem at_no {m : List Int} {b : List (List Int)} (h : bnM m b = false) : atL m b = [] := by unfold atL; rw [h]; rfl
theorem atL_row {m : List Int} {b : List (List Int)} : ∀ l ∈ atL m b, l.length = m.length ∧ m.length ≤ 5 := by
  intro l h
  cases hc : bnM m b
  · rw [at_no hc] at h; simp at h
  · have hp := bnM_m hc
    rw [at_yes hp.1 hp.2] at h
    exact ⟨alL_row l h, (okM_len hp.1).2⟩
theorem alL_len2 {m : List Int} {b : List (List Int)} (h : okM m = true) : (alL m b).length ≤ 1024 := Nat.le_trans alL_len (ext_len h)
theorem atL_len {m : List Int} {b : List (List Int)} : (atL m b).length ≤ 1024 := by
  cases hc : bnM m b
  · rw [at_no hc]; simp
  · have hp := bnM_m hc
    rw [at_yes hp.1 hp.2]; exact alL_len2 hp.1
theorem sum5 {mm : List (List Int)} {n : Nat} (h : ∀ r ∈ mm, r.length ≤ 5) (hl : mm.length ≤ n) : sumL mm ≤ 5 * n := by
  have := sumL_le (n := 5) h
  have h2 : 5 * mm.length ≤ 5 * n := Nat.mul_le_mul_left 5 hl
  rw [Nat.mul_comm] at this
  omega
theorem atL_sum {m : List Int} {b : List (List Int)} : sumL (atL m b) ≤ 5120 := sum5 (fun r hr => by have := atL_row r hr; omega) atL_len
theorem atL_gr {m : List Int} {b : List (List Int)} : True ∧ ∀ r ∈ atL m b, r.length ≤ 4611686018427387904 := ⟨trivial, fun r hr => by have := atL_row r hr; omega⟩

/-- IsPossible, CompleteTest -/
def ipB (m : List Int) (b : List (List Int)) (p : List Int) : Bool := okM m && okBn m b && okP m p && hasP (alL m b) p
theorem ip_yes {m : List Int} {b : List (List Int)} {p : List Int} (h : okM m = true) (h1 : okBn m b = true) (h2 : okP m p = true) : ipB m b p = hasP (alL m b) p := by unfold ipB; rw [h, h1, h2]; rfl
theorem ip_no {m : List Int} {b : List (List Int)} {p : List Int} (h : (okM m && okBn m b && okP m p) = false) : ipB m b p = false := by unfold ipB; rw [h]; rfl
def cpL (m : List Int) (b : List (List Int)) (p : List Int) : List Int := if ipB m b p then (ctO m b p).getD [] else []
theorem cp_no {m : List Int} {b : List (List Int)} {p : List Int} (h : ipB m b p = false) : cpL m b p = [] := by unfold cpL; rw [h]; rfl
theorem cp_some {m : List Int} {b : List (List Int)} {p x : List Int} (h : okM m = true) (h1 : okBn m b = true) (h2 : okP m p = true) (hx : ctO m b p = some x) : ipB m b p = true ∧ cpL m b p = x := by
  have hi : ipB m b p = true := by rw [ip_yes h h1 h2, ← ct_has, hx]; rfl
  unfold cpL; rw [hi, hx]; exact ⟨rfl, rfl⟩
theorem cp_none {m : List Int} {b : List (List Int)} {p : List Int} (h : okM m = true) (h1 : okBn m b = true) (h2 : okP m p = true) (hx : ctO m b p = none) : ipB m b p = false ∧ cpL m b p = [] := by
  have hi : ipB m b p = false := by rw [ip_yes h h1 h2, ← ct_has, hx]; rfl
  exact ⟨hi, cp_no hi⟩
theorem ct_mem {m : List Int} {b : List (List Int)} {p x : List Int} (hx : ctO m b p = some x) : x ∈ alL m b ∧ mB p x = true := ⟨List.mem_of_find?_eq_some hx, List.find?_some hx⟩
theorem cpL_len {m : List Int} {b : List (List Int)} {p : List Int} : (cpL m b p).length ≤ 5 := by
  cases hc : ipB m b p
  · rw [cp_no hc]; simp
  · unfold cpL; rw [hc]
    simp only [if_true]
    cases hx : ctO m b p with
    | none => simp
    | some x =>
      unfold ipB at hc; rw [Bool.and_eq_true, Bool.and_eq_true, Bool.and_eq_true] at hc
      have := alL_row x (ct_mem hx).1
      have := (okM_len hc.1.1.1).2
      simp; omega

/-- PossiblePatterns, ImpliedBans -/
def posP (m : List Int) (b : List (List Int)) (t : Int) : List (List Int) := (patS m [] t).filter (hasP (alL m b))
def poL (m : List Int) (b : List (List Int)) (t : Int) : List (List Int) := if bnT m b t then posP m b t else []
def impF (m : List Int) (b : List (List Int)) (p : List Int) : Bool := !bnB b p && !hasP (alL m b) p
def impP (m : List Int) (b : List (List Int)) (t : Int) : List (List Int) := (patS m [] t).filter (impF m b)
def imL (m : List Int) (b : List (List Int)) (t : Int) : List (List Int) := if bnT m b t then impP m b t else []
theorem po_yes {m : List Int} {b : List (List Int)} {t : Int} (h : bnT m b t = true) : poL m b t = posP m b t := by unfold poL; rw [h]; rfl
theorem po_no {m : List Int} {b : List (List Int)} {t : Int} (h : bnT m b t = false) : poL m b t = [] := by unfold poL; rw [h]; rfl
theorem im_yes {m : List Int} {b : List (List Int)} {t : Int} (h : bnT m b t = true) : imL m b t = impP m b t := by unfold imL; rw [h]; rfl
theorem im_no {m : List Int} {b : List (List Int)} {t : Int} (h : bnT m b t = false) : imL m b t = [] := by unfold imL; rw [h]; rfl
theorem patS_flt_row {m : List Int} {t : Int} {f : List Int → Bool} : ∀ l ∈ (patS m [] t).filter f, l.length = m.length := fun l h => patS_row l (List.mem_filter.1 h).1
theorem patS_flt_len {m : List Int} {t : Int} {f : List Int → Bool} (h : okM m = true) : ((patS m [] t).filter f).length ≤ 1024 := Nat.le_trans (List.length_filter_le _ _) (patS_len h t)
theorem poL_row {m : List Int} {b : List (List Int)} {t : Int} : ∀ l ∈ poL m b t, l.length = m.length ∧ m.length ≤ 5 := by
  intro l h
  cases hc : bnT m b t
  · rw [po_no hc] at h; simp at h
  · rw [po_yes hc] at h; exact ⟨patS_flt_row l h, (okM_len (bnT_m hc).1).2⟩
theorem poL_len {m : List Int} {b : List (List Int)} {t : Int} : (poL m b t).length ≤ 1024 := by
  cases hc : bnT m b t
  · rw [po_no hc]; simp
  · rw [po_yes hc]; exact patS_flt_len (bnT_m hc).1
theorem poL_sum {m : List Int} {b : List (List Int)} {t : Int} : sumL (poL m b t) ≤ 5120 := sum5 (fun r hr => by have := poL_row r hr; omega) poL_len
theorem poL_gr {m : List Int} {b : List (List Int)} {t : Int} : True ∧ ∀ r ∈ poL m b t, r.length ≤ 4611686018427387904 := ⟨trivial, fun r hr => by have := poL_row r hr; omega⟩
theorem imL_row {m : List Int} {b : List (List Int)} {t : Int} : ∀ l ∈ imL m b t, l.length = m.length ∧ m.length ≤ 5 := by
  intro l h
  cases hc : bnT m b t
  · rw [im_no hc] at h; simp at h
  · rw [im_yes hc] at h; exact ⟨patS_flt_row l h, (okM_len (bnT_m hc).1).2⟩
theorem imL_len {m : List Int} {b : List (List Int)} {t : Int} : (imL m b t).length ≤ 1024 := by
  cases hc : bnT m b t
  · rw [im_no hc]; simp
  · rw [im_yes hc]; exact patS_flt_len (bnT_m hc).1
theorem imL_sum {m : List Int} {b : List (List Int)} {t : Int} : sumL (imL m b t) ≤ 5120 := sum5 (fun r hr => by have := imL_row r hr; omega) imL_len
theorem imL_gr {m : List Int} {b : List (List Int)} {t : Int} : True ∧ ∀ r ∈ imL m b t, r.length ≤ 4611686018427387904 := ⟨trivial, fun r hr => by have := imL_row r hr; omega⟩

/-- LeastBans -/
def lsA (m : List Int) (b : List (List Int)) (p : List Int) (k : Nat) : Bool := at5 p k == -1 || hasP (alL m b) (p.set k (-1))
def lsB (m : List Int) (b : List (List Int)) (p : List Int) : Bool := !hasP (alL m b) p && (List.range m.length).all (lsA m b p)
def lsP (m : List Int) (b : List (List Int)) (t : Int) : List (List Int) := (patS m [] t).filter (lsB m b)
def lbK (m : List Int) (b : List (List Int)) (n : Nat) : List (List Int) := (List.range n).flatMap fun (t : Nat) => lsP m b t
theorem lbK_succ (m : List Int) (b : List (List Int)) (n : Nat) : lbK m b (n + 1) = lbK m b n ++ lsP m b n := by
  unfold lbK; rw [List.range_succ, List.flatMap_append]; simp
def lbL (m : List Int) (b : List (List Int)) : List (List Int) := if bnM m b then lbK m b (m.length + 1) else []
theorem lb_yes {m : List Int} {b : List (List Int)} (h : okM m = true) (h' : okBn m b = true) : lbL m b = lbK m b (m.length + 1) := by unfold lbL; rw [bnM_mk h h']; rfl
theorem lb_no {m : List Int} {b : List (List Int)} (h : bnM m b = false) : lbL m b = [] := by unfold lbL; rw [h]; rfl
theorem lbK_row {m : List Int} {b : List (List Int)} {n : Nat} : ∀ l ∈ lbK m b n, l.length = m.length := by
  intro l h
  obtain ⟨t, _, ht⟩ := List.mem_flatMap.1 h
  exact patS_flt_row l ht
theorem lbK_len {m : List Int} {b : List (List Int)} (h : okM m = true) : ∀ n : Nat, (lbK m b n).length ≤ 1024 * n
  | 0 => by simp [lbK]
  | n + 1 => by
    rw [lbK_succ, List.length_append]
    have := lbK_len (b := b) h n
    have : (lsP m b n).length ≤ 1024 := patS_flt_len h
    omega
theorem lbL_row {m : List Int} {b : List (List Int)} : ∀ l ∈ lbL m b, l.length = m.length ∧ m.length ≤ 5 := by
  intro l h
  cases hc : bnM m b
  · rw [lb_no hc] at h; simp at h
  · have hp := bnM_m hc
    rw [lb_yes hp.1 hp.2] at h
    exact ⟨lbK_row l h, (okM_len hp.1).2⟩
theorem lbL_len {m : List Int} {b : List (List Int)} : (lbL m b).length ≤ 6144 := by
  cases hc : bnM m b
  · rw [lb_no hc]; simp
  · have hp := bnM_m hc
    rw [lb_yes hp.1 hp.2]
    have := lbK_len (b := b) hp.1 (m.length + 1)
    have := (okM_len hp.1).2
    omega
theorem lbL_sum {m : List Int} {b : List (List Int)} : sumL (lbL m b) ≤ 30720 := sum5 (n := 6144) (fun r hr => by have := lbL_row r hr; omega) lbL_len
theorem lbL_gr {m : List Int} {b : List (List Int)} : True ∧ ∀ r ∈ lbL m b, r.length ≤ 4611686018427387904 := ⟨trivial, fun r hr => by have := lbL_row r hr; omega⟩

/-- SameBans -/
def sbF (m : List Int) (a b : List (List Int)) : Bool := (extS m []).all fun x => (!bnB a x) == (!bnB b x)
def sbB (m : List Int) (a b : List (List Int)) : Bool := okM m && okBn m a && okBn m b && sbF m a b
theorem flt_eq {α : Type} {f g : α → Bool} : ∀ {l : List α}, l.filter f = l.filter g ↔ ∀ x ∈ l, f x = g x := by
  intro l
  constructor
  · intro h x hx
    rw [Bool.eq_iff_iff]
    constructor
    · intro hf
      have : x ∈ l.filter g := by rw [← h]; exact List.mem_filter.2 ⟨hx, hf⟩
      exact (List.mem_filter.1 this).2
    · intro hg
      have : x ∈ l.filter f := by rw [h]; exact List.mem_filter.2 ⟨hx, hg⟩
      exact (List.mem_filter.1 this).2
  · intro h
    exact List.filter_congr h
theorem sbF_al (m : List Int) (a b : List (List Int)) : sbF m a b = decide (alL m a = alL m b) := by
  rw [Bool.eq_iff_iff, decide_eq_true_eq]
  unfold alL sbF
  rw [flt_eq, List.all_eq_true]
  constructor
  · intro h x hx; simpa using h x hx
  · intro h x hx; simpa using h x hx
theorem sb_yes {m : List Int} {a b : List (List Int)} (h : okM m = true) (h1 : okBn m a = true) (h2 : okBn m b = true) : sbB m a b = sbF m a b := by unfold sbB; rw [h, h1, h2]; rfl
theorem sb_no {m : List Int} {a b : List (List Int)} (h : (okM m && okBn m a && okBn m b) = false) : sbB m a b = false := by unfold sbB; rw [h]; rfl

/-- IsAllowedCovering -/
def iaB (m : List Int) (b s : List (List Int)) (t : Int) : Bool := okC m s t && okBn m b && s.all (fun x => !bnB b x) && (posP m b t).all (hasP s)
theorem ia_yes {m : List Int} {b s : List (List Int)} {t : Int} (h : okC m s t = true) (h1 : okBn m b = true) (h2 : s.all (fun x => !bnB b x) = true) : iaB m b s t = (posP m b t).all (hasP s) := by unfold iaB; rw [h, h1, h2]; rfl
theorem ia_no {m : List Int} {b s : List (List Int)} {t : Int} (h : (okC m s t && okBn m b) = false) : iaB m b s t = false := by unfold iaB; rw [h]; rfl
theorem ia_ban {m : List Int} {b s : List (List Int)} {t : Int} (h : s.all (fun x => !bnB b x) = false) : iaB m b s t = false := by unfold iaB; rw [h]; simp

/-- GrowAllowed -/
def gaR (m : List Int) (b : List (List Int)) (t : Int) : List (List Int) := grS (alL m b) 21 [] (posP m b t)
def gaB (m : List Int) (b : List (List Int)) (t : Int) : Bool := bnT m b t && decide ((gaR m b t).length ≤ 20)
def gaL (m : List Int) (b : List (List Int)) (t : Int) : List (List Int) := if gaB m b t then gaR m b t else []
theorem ga_no {m : List Int} {b : List (List Int)} {t : Int} (h : bnT m b t = false ∨ 20 < (gaR m b t).length) : gaL m b t = [] ∧ gaB m b t = false := by
  have hb : gaB m b t = false := by
    unfold gaB
    rcases h with h | h
    · rw [h]; rfl
    · rw [Bool.and_eq_false_iff]; right; simp; omega
  unfold gaL; rw [hb]; exact ⟨rfl, rfl⟩
theorem ga_yes {m : List Int} {b : List (List Int)} {t : Int} (h : bnT m b t = true) (h' : (gaR m b t).length ≤ 20) : gaL m b t = gaR m b t ∧ gaB m b t = true := by
  have hb : gaB m b t = true := by unfold gaB; rw [h]; simp; exact h'
  unfold gaL; rw [hb]; exact ⟨rfl, rfl⟩
theorem posP_none {m : List Int} {b : List (List Int)} {t : Int} (h : alL m b = []) : posP m b t = [] := by
  unfold posP; rw [h, List.filter_eq_nil_iff]; intro x _; simp [hasP]
theorem gaR_row {m : List Int} {b : List (List Int)} {t : Int} : ∀ l ∈ gaR m b t, l.length = m.length := by
  intro l h
  unfold gaR at h
  by_cases ha : alL m b = []
  · rw [posP_none ha, grS_done] at h; simp at h
  · exact grS_rows (P := fun l => l.length = m.length) ha alL_row _ _ _ (by simp) l h
theorem gaL_len {m : List Int} {b : List (List Int)} {t : Int} : (gaL m b t).length ≤ 20 := by
  cases hc : gaB m b t
  · unfold gaL; rw [hc]; simp
  · have h2 := hc
    unfold gaB at h2
    simp at h2
    unfold gaL; rw [hc]; exact h2.2
theorem gaL_row {m : List Int} {b : List (List Int)} {t : Int} : ∀ l ∈ gaL m b t, l.length = m.length ∧ m.length ≤ 5 := by
  intro l h
  cases hc : gaB m b t
  · unfold gaL at h; rw [hc] at h; simp at h
  · have h2 := hc
    unfold gaB at h2
    rw [Bool.and_eq_true] at h2
    unfold gaL at h; rw [hc] at h
    exact ⟨gaR_row l h, (okM_len (bnT_m h2.1).1).2⟩
theorem gaL_sum {m : List Int} {b : List (List Int)} {t : Int} : sumL (gaL m b t) ≤ 100 := sum5 (n := 20) (fun r hr => by have := gaL_row r hr; omega) gaL_len
theorem gaL_gr {m : List Int} {b : List (List Int)} {t : Int} : True ∧ ∀ r ∈ gaL m b t, r.length ≤ 4611686018427387904 := ⟨trivial, fun r hr => by have := gaL_row r hr; omega⟩

/-- ExplainBans: which bans are kept, from the last one on -/
def pk (b : List (List Int)) (l : List Nat) : List (List Int) := l.map fun i => b.getD i []
def exG (f : List Nat → Bool) : Nat → List Nat → List Nat
  | 0, hi => hi
  | k + 1, hi => if f (List.range k ++ hi) then exG f k (k :: hi) else exG f k hi
def exF (m : List Int) (b : List (List Int)) (p : List Int) (l : List Nat) : Bool := hasP (alL m (pk b l)) p
def exR (m : List Int) (b : List (List Int)) (p : List Int) : List Nat := exG (exF m b p) b.length []
def exB (m : List Int) (b : List (List Int)) (p : List Int) : Bool := okM m && okBn m b && okP m p && !hasP (alL m b) p
def exL (m : List Int) (b : List (List Int)) (p : List Int) : List Int := if exB m b p then (exR m b p).map (fun (i : Nat) => (i : Int)) else []
theorem exG_len (f : List Nat → Bool) : ∀ (k : Nat) (hi : List Nat), (exG f k hi).length ≤ k + hi.length
  | 0, hi => by simp [exG]
  | k + 1, hi => by
    simp only [exG]
    split
    · have := exG_len f k (k :: hi); simp at this; omega
    · have := exG_len f k hi; omega
theorem ex_no {m : List Int} {b : List (List Int)} {p : List Int} (h : exB m b p = false) : exL m b p = [] := by unfold exL; rw [h]; rfl
theorem ex_yes {m : List Int} {b : List (List Int)} {p : List Int} (h : exB m b p = true) : exL m b p = (exR m b p).map (fun (i : Nat) => (i : Int)) := by unfold exL; rw [h]; rfl
theorem exB_m {m : List Int} {b : List (List Int)} {p : List Int} (h : exB m b p = true) : okM m = true ∧ okBn m b = true ∧ okP m p = true ∧ hasP (alL m b) p = false := by
  unfold exB at h; rw [Bool.and_eq_true, Bool.and_eq_true, Bool.and_eq_true] at h
  exact ⟨h.1.1.1, h.1.1.2, h.1.2, by simpa using h.2⟩
theorem exB_mk {m : List Int} {b : List (List Int)} {p : List Int} (h : okM m = true) (h1 : okBn m b = true) (h2 : okP m p = true) : exB m b p = !hasP (alL m b) p := by unfold exB; rw [h, h1, h2]; rfl
theorem exB_no {m : List Int} {b : List (List Int)} {p : List Int} (h : (okM m && okBn m b && okP m p) = false) : exB m b p = false := by unfold exB; rw [h]; rfl
theorem exL_len {m : List Int} {b : List (List Int)} {p : List Int} : (exL m b p).length ≤ 5 := by
  cases hc : exB m b p
  · rw [ex_no hc]; simp
  · rw [ex_yes hc, List.length_map]
    have := exG_len (exF m b p) b.length []
    have := okBn_len (exB_m hc).2.1
    unfold exR; simp at *; omega

end Go.Proofs.Yteoiclkipfdgpaa
