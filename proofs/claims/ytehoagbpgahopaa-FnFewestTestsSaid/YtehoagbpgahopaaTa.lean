/- Plain facts on runs of events: lists of different events, what a run shows, what is unseen, runs that grow. -/
import Derived.Test.YtehoagbpgahopaaZn
namespace Go.Proofs.Ytehoagbpgahopaa

/-- different numbers from 0 up to hi -/
def okE (hi : Int) (l : List Int) : Bool := l.all (fun e => inR e 0 hi) && decide l.Nodup
theorem okE_nil (hi : Int) : okE hi [] = true := by simp [okE]
theorem okE_mem {hi : Int} {l : List Int} (h : okE hi l = true) {x : Int} (hx : x ∈ l) : 0 ≤ x ∧ x ≤ hi := by
  simp only [okE, Bool.and_eq_true, List.all_eq_true] at h
  exact inR_true.1 (h.1 x hx)
theorem okE_nodup {hi : Int} {l : List Int} (h : okE hi l = true) : l.Nodup := by
  simp only [okE, Bool.and_eq_true, decide_eq_true_eq] at h; exact h.2
theorem okE_mk {hi : Int} {l : List Int} (h : ∀ x ∈ l, 0 ≤ x ∧ x ≤ hi) (hn : l.Nodup) : okE hi l = true := by
  simp only [okE, Bool.and_eq_true, List.all_eq_true, decide_eq_true_eq]
  exact ⟨fun x hx => inR_true.2 (h x hx), hn⟩
theorem okE_range {hi : Int} {l : List Int} {k : Nat} {x : Int} (hx : l[k]? = some x) (h : inR x 0 hi = false) : okE hi l = false := by
  cases hb : okE hi l
  · rfl
  · have := inR_true.2 (okE_mem hb (List.mem_of_getElem? hx)); rw [h] at this; cases this
theorem okE_twice {hi : Int} {l : List Int} {j k : Nat} {x : Int} (hj : l[j]? = some x) (hk : l[k]? = some x) (hjk : j < k) : okE hi l = false := by
  cases hb : okE hi l
  · rfl
  · exact absurd rfl (nodup_at (okE_nodup hb) hj hk hjk)
theorem okE_step {hi : Int} {l : List Int} {k : Nat} {x : Int} (hx : l[k]? = some x) (h : okE hi (l.take k) = true) (h1 : inR x 0 hi = true) (h2 : x ∉ l.take k) : okE hi (l.take (k + 1)) = true := by
  rw [take_snoc hx]
  refine okE_mk (fun y hy => ?_) (List.nodup_append.2 ⟨okE_nodup h, by simp, fun a ha b hb => ?_⟩)
  · rcases List.mem_append.1 hy with hy | hy
    · exact okE_mem h hy
    · rw [List.mem_singleton.1 hy]; exact inR_true.1 h1
  · rw [List.mem_singleton.1 hb]; intro he; subst he; exact h2 ha
theorem okE_whole {hi : Int} {l : List Int} {k : Nat} (h : okE hi (l.take k) = true) (hk : l.length ≤ k) : okE hi l = true := by
  rwa [List.take_of_length_le hk] at h
theorem okE_wide {hi hi' : Int} {l : List Int} (h : okE hi l = true) (hh : hi ≤ hi') : okE hi' l = true :=
  okE_mk (fun x hx => by have := okE_mem h hx; omega) (okE_nodup h)
theorem okE_sub {hi : Int} {l l' : List Int} (h : okE hi l = true) (hs : l'.Sublist l) : okE hi l' = true :=
  okE_mk (fun _ hx => okE_mem h (hs.subset hx)) (hs.nodup (okE_nodup h))
theorem nodup_le : ∀ {l m : List Int}, l.Nodup → (∀ y ∈ l, y ∈ m) → l.length ≤ m.length
  | [], _, _, _ => by simp
  | a :: l, m, hn, hs => by
    have ha := hs a (by simp)
    rw [List.nodup_cons] at hn
    have h := nodup_le (l := l) (m := m.erase a) hn.2 fun x hx => (List.mem_erase_of_ne (fun he => by subst he; exact hn.1 hx)).2 (hs x (by simp [hx]))
    rw [List.length_erase_of_mem ha] at h
    have : 0 < m.length := List.length_pos_of_mem ha
    simp; omega
def evL (n : Nat) : List Int := (List.range n).map fun (i : Nat) => (i : Int)
theorem mem_ev {n : Nat} {x : Int} : x ∈ evL n ↔ 0 ≤ x ∧ x < n := by
  simp only [evL, List.mem_map, List.mem_range]
  constructor
  · rintro ⟨i, h, rfl⟩; omega
  · intro h; exact ⟨x.toNat, by omega, by omega⟩
theorem ev_len (n : Nat) : (evL n).length = n := by simp [evL]
theorem okE_len {n : Nat} {l : List Int} (h : okE ((n : Int) - 1) l = true) : l.length ≤ n := by
  have := nodup_le (m := evL n) (okE_nodup h) fun x hx => mem_ev.2 (by have := okE_mem h hx; omega)
  rwa [ev_len] at this
/-- a list of n different ones of n events has each of them -/
theorem okE_all {n : Nat} {l : List Int} (h : okE ((n : Int) - 1) l = true) (hl : l.length = n) {x : Int} (h0 : 0 ≤ x) (h1 : x < n) : x ∈ l := by
  by_cases hx : x ∈ l
  · exact hx
  · exfalso
    have h2 : okE ((n : Int) - 1) (x :: l) = true := okE_mk (fun y hy => by
      rcases List.mem_cons.1 hy with rfl | hy
      · omega
      · exact okE_mem h hy) (List.nodup_cons.2 ⟨hx, okE_nodup h⟩)
    have := okE_len h2
    simp at this; omega

/-- a run of n events (hi: n less 1), and runs -/
def okU (n hi : Int) (r : List Int) : Bool := decide ((r.length : Int) = n) && okE hi r
theorem okU_m {n hi : Int} {r : List Int} (h : okU n hi r = true) : (r.length : Int) = n ∧ okE hi r = true := by
  simp only [okU, Bool.and_eq_true, decide_eq_true_eq] at h; exact h
theorem okU_mk {n hi : Int} {r : List Int} (h : (r.length : Int) = n) (h' : okE hi r = true) : okU n hi r = true := by simp [okU, h, h']
theorem okU_no {n hi : Int} {r : List Int} (h : okE hi r = false) : okU n hi r = false := by simp [okU, h]
theorem okU_no_len {n hi : Int} {r : List Int} (h : (r.length : Int) ≠ n) : okU n hi r = false := by simp [okU, h]
def okRs (n : Int) (runs : List (List Int)) : Bool := inR n 1 5 && decide (runs.length ≤ 20) && runs.all (okU n (n - 1))
theorem okRs_m {n : Int} {runs : List (List Int)} (h : okRs n runs = true) : 1 ≤ n ∧ n ≤ 5 ∧ runs.length ≤ 20 ∧ ∀ r ∈ runs, okU n (n - 1) r = true := by
  simp only [okRs, Bool.and_eq_true, decide_eq_true_eq, List.all_eq_true] at h
  have := inR_true.1 h.1.1
  exact ⟨this.1, this.2, h.1.2, h.2⟩
theorem okRs_mk {n : Int} {runs : List (List Int)} (h0 : 1 ≤ n) (h1 : n ≤ 5) (h2 : runs.length ≤ 20) (h3 : ∀ r ∈ runs, okU n (n - 1) r = true) : okRs n runs = true := by
  simp only [okRs, Bool.and_eq_true, decide_eq_true_eq, List.all_eq_true]
  exact ⟨⟨inR_true.2 ⟨h0, h1⟩, h2⟩, h3⟩
theorem okRs_n {n : Int} {runs : List (List Int)} (h : n < 1 ∨ 5 < n) : okRs n runs = false := by
  cases hb : okRs n runs
  · rfl
  · have := okRs_m hb; omega
theorem okRs_l {n : Int} {runs : List (List Int)} (h : 20 < runs.length) : okRs n runs = false := by
  cases hb : okRs n runs
  · rfl
  · have := okRs_m hb; omega
theorem okRs_fails {n : Int} {runs : List (List Int)} {k : Nat} {r : List Int} (hx : runs[k]? = some r) (h : okU n (n - 1) r = false) : okRs n runs = false := by
  cases hb : okRs n runs
  · rfl
  · have := (okRs_m hb).2.2.2 r (List.mem_of_getElem? hx); rw [h] at this; cases this
theorem okRs_end {n : Int} {runs : List (List Int)} {k : Nat} (h0 : 1 ≤ n) (h1 : n ≤ 5) (h2 : runs.length ≤ 20) (hk : runs.length ≤ k) (h3 : (runs.take k).all (okU n (n - 1)) = true) : okRs n runs = true := by
  rw [List.take_of_length_le hk] at h3
  exact okRs_mk h0 h1 h2 (List.all_eq_true.1 h3)
theorem okRs_row {n : Int} {runs : List (List Int)} (h : okRs n runs = true) {r : List Int} (hr : r ∈ runs) : r.length = n.toNat ∧ okE (n - 1) r = true := by
  have h1 := okRs_m h
  have h2 := okU_m (h1.2.2.2 r hr)
  exact ⟨by omega, h2.2⟩

/-- a list with each event that it misses behind it; lists longer by k -/
def lnE (n : Nat) (l : List Int) : List (List Int) := ((List.range n).filter fun (e : Nat) => !l.contains (e : Int)).map fun (e : Nat) => l ++ [(e : Int)]
def lnS (n : Nat) (ls : List (List Int)) : List (List Int) := ls.flatMap (lnE n)
def lsN (n : Nat) : Nat → List (List Int) → List (List Int)
  | 0, ls => ls
  | t + 1, ls => lsN n t (lnS n ls)
theorem lsN_app (n : Nat) : ∀ (t : Nat) (a b : List (List Int)), lsN n t (a ++ b) = lsN n t a ++ lsN n t b
  | 0, _, _ => rfl
  | t + 1, a, b => by simp only [lsN, lnS, List.flatMap_append]; exact lsN_app n t _ _
theorem lsN_nil (n : Nat) : ∀ t, lsN n t [] = []
  | 0 => rfl
  | t + 1 => by simp only [lsN, lnS, List.flatMap_nil]; exact lsN_nil n t
theorem lsN_flat (n t : Nat) : ∀ (a : List (List Int)), lsN n t a = a.flatMap fun h => lsN n t [h]
  | [] => by rw [lsN_nil]; rfl
  | h :: a => by
    have e : h :: a = [h] ++ a := rfl
    rw [e, lsN_app, lsN_flat n t a]; rfl
theorem lsN_succ (n : Nat) : ∀ (t : Nat) (ls : List (List Int)), lsN n (t + 1) ls = lnS n (lsN n t ls)
  | 0, _ => rfl
  | t + 1, ls => by
    show lsN n (t + 1) (lnS n ls) = _
    rw [lsN_succ n t]; rfl
/-- what begins with head and an event below x -/
def lsK (n t : Nat) (head : List Int) (x : Nat) : List (List Int) := ((List.range x).filter fun (e : Nat) => !head.contains (e : Int)).flatMap fun (e : Nat) => lsN n t [head ++ [(e : Int)]]
theorem lsK_yes {n t : Nat} {head : List Int} {x : Nat} (h : head.contains (x : Int) = false) : lsK n t head (x + 1) = lsK n t head x ++ lsN n t [head ++ [(x : Int)]] := by
  have h' : (x : Int) ∉ head := by simpa using h
  simp [lsK, List.range_succ, List.filter_append, h']
theorem lsK_no {n t : Nat} {head : List Int} {x : Nat} (h : head.contains (x : Int) = true) : lsK n t head (x + 1) = lsK n t head x := by
  have h' : (x : Int) ∈ head := by simpa using h
  simp [lsK, List.range_succ, List.filter_append, h']
theorem lsK_all (n t : Nat) (head : List Int) : lsK n t head n = lsN n (t + 1) [head] := by
  show _ = lsN n t (lnS n [head])
  rw [lsN_flat n t (lnS n [head])]
  simp [lsK, lnS, lnE, List.flatMap_map]
theorem lnE_row {n : Nat} {l r : List Int} (h : r ∈ lnE n l) : ∃ e : Nat, e < n ∧ (e : Int) ∉ l ∧ r = l ++ [(e : Int)] := by
  simp only [lnE, List.mem_map, List.mem_filter, List.mem_range, Bool.not_eq_true', List.contains_eq_mem, decide_eq_false_iff_not] at h
  obtain ⟨e, ⟨h1, h2⟩, rfl⟩ := h
  exact ⟨e, h1, h2, rfl⟩
theorem lnE_len (n : Nat) (l : List Int) : (lnE n l).length ≤ n := by
  unfold lnE; rw [List.length_map]
  exact Nat.le_trans (List.length_filter_le _ _) (by simp)
theorem lnS_len (n : Nat) : ∀ ls : List (List Int), (lnS n ls).length ≤ ls.length * n
  | [] => by simp [lnS]
  | l :: ls => by
    have h1 := lnE_len n l
    have h2 := lnS_len n ls
    show ((l :: ls).flatMap (lnE n)).length ≤ _
    rw [List.flatMap_cons, List.length_append, List.length_cons, Nat.succ_mul]
    unfold lnS at h2; omega
theorem lsN_len (n : Nat) : ∀ (t : Nat) (ls : List (List Int)), (lsN n t ls).length ≤ ls.length * n ^ t
  | 0, ls => by simp [lsN]
  | t + 1, ls => by
    have h1 := lsN_len n t (lnS n ls)
    have h2 := Nat.mul_le_mul_right (n ^ t) (lnS_len n ls)
    show (lsN n t (lnS n ls)).length ≤ _
    rw [Nat.pow_succ, Nat.mul_comm (n ^ t) n, ← Nat.mul_assoc]
    exact Nat.le_trans h1 h2
theorem lsN_mem {n : Nat} : ∀ {t : Nat} {ls : List (List Int)} {r : List Int}, r ∈ lsN n t ls → ∃ l ∈ ls, ∃ e, r = l ++ e ∧ e.length = t ∧ (∀ x ∈ e, 0 ≤ x ∧ x < n ∧ x ∉ l) ∧ e.Nodup
  | 0, ls, r, h => ⟨r, h, [], by simp, rfl, by simp, by simp⟩
  | t + 1, ls, r, h => by
    obtain ⟨l, hl, e, rfl, h1, h2, h3⟩ := lsN_mem (t := t) h
    simp only [lnS, List.mem_flatMap] at hl
    obtain ⟨l0, h0, hl⟩ := hl
    obtain ⟨x, hx, hn, rfl⟩ := lnE_row hl
    refine ⟨l0, h0, (x : Int) :: e, by simp, by simp [h1], ?_, ?_⟩
    · intro y hy
      rcases List.mem_cons.1 hy with rfl | hy
      · exact ⟨by omega, by omega, hn⟩
      · have := h2 y hy
        exact ⟨this.1, this.2.1, fun hm => this.2.2 (by simp [hm])⟩
    · rw [List.nodup_cons]
      exact ⟨fun hm => (h2 _ hm).2.2 (by simp), h3⟩
/-- all lists of t of n events -/
def alE (n t : Nat) : List (List Int) := lsN n t [[]]
theorem alE_row {n t : Nat} {r : List Int} (h : r ∈ alE n t) : r.length = t ∧ okE ((n : Int) - 1) r = true := by
  obtain ⟨l, hl, e, rfl, h1, h2, h3⟩ := lsN_mem h
  rw [List.mem_singleton.1 hl]
  refine ⟨by simpa using h1, okE_mk (fun x hx => ?_) (by simpa using h3)⟩
  have := h2 x (by simpa using hx); omega
theorem pow5 {n t : Nat} (hn : n ≤ 5) (ht : t ≤ 5) : n ^ t ≤ 3125 := by
  have h1 : n ^ t ≤ 5 ^ t := Nat.pow_le_pow_left hn t
  have h2 : 5 ^ t ≤ 5 ^ 5 := Nat.pow_le_pow_right (by omega) ht
  have : (5:Nat) ^ 5 = 3125 := by decide
  omega
theorem alE_len {n t : Nat} (hn : n ≤ 5) (ht : t ≤ 5) : (alE n t).length ≤ 3125 := by
  have h1 := lsN_len n t [[]]
  have h2 := pow5 hn ht
  unfold alE; simp at h1; omega
theorem lsN_len5 {n t : Nat} {head : List Int} (hn : n ≤ 5) (ht : t ≤ 5) : (lsN n t [head]).length ≤ 3125 := by
  have h1 := lsN_len n t [head]
  have h2 := pow5 hn ht
  simp at h1; omega
theorem lsK_len {n t : Nat} {head : List Int} (hn : n ≤ 5) (ht : t ≤ 5) : ∀ x, (lsK n t head x).length ≤ x * 3125
  | 0 => by simp [lsK]
  | x + 1 => by
    have h1 := lsK_len (head := head) hn ht x
    have h2 := lsN_len5 (head := head ++ [(x : Int)]) hn ht
    cases hc : head.contains (x : Int)
    · rw [lsK_yes hc, List.length_append]; omega
    · rw [lsK_no hc]; exact Nat.le_trans h1 (Nat.mul_le_mul_right _ (Nat.le_succ x))

/-- a run shows a list -/
def shB (run l : List Int) : Bool := l.isSublist run
theorem shB_iff {run l : List Int} : shB run l = true ↔ l.Sublist run := List.isSublist_iff_sublist
/-- the place at which each event comes -/
def plT (r : List Int) (e : Nat) : Int := if (e : Int) ∈ r then (r.idxOf (e : Int) : Int) else 0
theorem plT_nil (e : Nat) : plT [] e = 0 := by simp [plT]
theorem plT_step {r : List Int} {k : Nat} {x : Int} (hn : r.Nodup) (hx : r[k]? = some x) (h0 : 0 ≤ x) (e : Nat) : plT (r.take (k + 1)) e = if e = x.toNat then (k : Int) else plT (r.take k) e := by
  have hk := lt_of_at hx
  rw [take_snoc hx]
  have hnm : x ∉ r.take k := by
    intro hm
    obtain ⟨j, hj⟩ := List.mem_iff_getElem?.1 hm
    have hjk : j < k := by have := lt_of_at hj; simp at this; omega
    rw [List.getElem?_take_of_lt hjk] at hj
    exact nodup_at hn hj hx hjk rfl
  unfold plT
  by_cases he : e = x.toNat
  · subst he
    have hxe : ((x.toNat : Nat) : Int) = x := by omega
    rw [if_pos rfl, hxe, if_pos (by simp), List.idxOf_append, if_neg hnm]
    have hlen : (r.take k).length = k := by rw [List.length_take]; omega
    rw [hlen, List.idxOf_cons_self]; omega
  · have hne : (e : Int) ≠ x := by omega
    rw [if_neg he]
    by_cases hm : (e : Int) ∈ r.take k
    · rw [if_pos (by simp [hm]), if_pos hm, List.idxOf_append, if_pos hm]
    · rw [if_neg (by simp [hne]; exact fun h => hm h), if_neg hm]
def ascF (T : Int → Int) (l : List Int) : Bool := (List.range (l.length - 1)).all fun i => decide (T (l.getD i 0) ≤ T (l.getD (i + 1) 0))
theorem ascF_iff {T : Int → Int} {l : List Int} : ascF T l = true ↔ ∀ (i : Nat) (x y : Int), l[i]? = some x → l[i + 1]? = some y → T x ≤ T y := by
  unfold ascF
  simp only [List.all_eq_true, List.mem_range, decide_eq_true_eq]
  constructor
  · intro h i x y hx hy
    have := h i (by have := lt_of_at hy; omega)
    simpa [List.getD, hx, hy] using this
  · intro h i hi
    obtain ⟨x, hx⟩ := at_of_lt (m := l) (k := i) (by omega)
    obtain ⟨y, hy⟩ := at_of_lt (m := l) (k := i + 1) (by omega)
    have := h i x y hx hy
    simpa [List.getD, hx, hy] using this
theorem ascF_fails {T : Int → Int} {l : List Int} {i : Nat} {x y : Int} (hx : l[i]? = some x) (hy : l[i + 1]? = some y) (h : T y < T x) : ascF T l = false := by
  cases hb : ascF T l
  · rfl
  · have := ascF_iff.1 hb i x y hx hy; omega
theorem pair_of {T : Int → Int} : ∀ {l : List Int}, (∀ (i : Nat) (x y : Int), l[i]? = some x → l[i + 1]? = some y → T x < T y) → l.Pairwise (fun a b => T a < T b)
  | [], _ => List.Pairwise.nil
  | [a], _ => by simp
  | a :: b :: l, h => by
    have hp := pair_of (l := b :: l) fun i x y hx hy => h (i + 1) x y (by simpa using hx) (by simpa using hy)
    have hab := h 0 a b rfl rfl
    rw [List.pairwise_cons]
    refine ⟨fun c hc => ?_, hp⟩
    rcases List.mem_cons.1 hc with rfl | hc
    · exact hab
    · rw [List.pairwise_cons] at hp
      exact Int.lt_trans hab (hp.1 c hc)
theorem pair_at {T : Int → Int} {l : List Int} (h : l.Pairwise (fun a b => T a < T b)) {i j : Nat} {x y : Int} (hx : l[i]? = some x) (hy : l[j]? = some y) (hij : i < j) : T x < T y := by
  obtain ⟨h1, rfl⟩ := List.getElem?_eq_some_iff.1 hx
  obtain ⟨h2, rfl⟩ := List.getElem?_eq_some_iff.1 hy
  exact List.pairwise_iff_getElem.1 h i j h1 h2 hij
theorem sub_pair {T : Int → Int} : ∀ {r l : List Int}, r.Pairwise (fun a b => T a < T b) → l.Pairwise (fun a b => T a < T b) → (∀ x ∈ l, x ∈ r) → l.Sublist r
  | [], [], _, _, _ => List.Sublist.slnil
  | [], x :: _, _, _, h => absurd (h x (by simp)) (by simp)
  | y :: ys, [], _, _, _ => List.nil_sublist _
  | y :: ys, x :: xs, hr, hl, h => by
    rw [List.pairwise_cons] at hr hl
    by_cases he : x = y
    · subst he
      refine List.Sublist.cons_cons _ (sub_pair hr.2 hl.2 fun z hz => ?_)
      rcases List.mem_cons.1 (h z (by simp [hz])) with rfl | hz'
      · exact absurd (hl.1 z hz) (by omega)
      · exact hz'
    · have hxy : x ∈ ys := by
        rcases List.mem_cons.1 (h x (by simp)) with h' | h'
        · exact absurd h' he
        · exact h'
      refine List.Sublist.cons _ (sub_pair hr.2 (List.pairwise_cons.2 hl) fun z hz => ?_)
      rcases List.mem_cons.1 (h z hz) with rfl | hz'
      · rcases List.mem_cons.1 hz with rfl | hz
        · exact absurd rfl he
        · have h1 := hl.1 z hz; have h2 := hr.1 x hxy; omega
      · exact hz'
theorem plT_at {r : List Int} {k : Nat} {x : Int} (hn : r.Nodup) (hx : r[k]? = some x) (h0 : 0 ≤ x) : plT r x.toNat = k := by
  unfold plT
  have hxe : ((x.toNat : Nat) : Int) = x := by omega
  obtain ⟨h1, rfl⟩ := List.getElem?_eq_some_iff.1 hx
  rw [hxe, if_pos (List.getElem_mem h1), hn.idxOf_getElem]
/-- what a run shows is in the order of its places -/
theorem asc_shows {n : Nat} {r l : List Int} (hr : okE ((n : Int) - 1) r = true) (hrl : r.length = n) (hl : okE ((n : Int) - 1) l = true) : ascF (fun e => plT r e.toNat) l = shB r l := by
  have hp : r.Pairwise (fun a b => plT r a.toNat < plT r b.toNat) := by
    rw [List.pairwise_iff_getElem]
    intro i j hi hj hij
    have h1 := plT_at (okE_nodup hr) (List.getElem?_eq_getElem hi) (okE_mem hr (List.getElem_mem hi)).1
    have h2 := plT_at (okE_nodup hr) (List.getElem?_eq_getElem hj) (okE_mem hr (List.getElem_mem hj)).1
    rw [h1, h2]; omega
  have hm : ∀ x ∈ l, x ∈ r := fun x hx => by have := okE_mem hl hx; exact okE_all hr hrl this.1 (by omega)
  rw [Bool.eq_iff_iff, ascF_iff, shB_iff]
  constructor
  · intro h
    refine sub_pair hp (pair_of (T := fun e => plT r e.toNat) fun i x y hx hy => ?_) hm
    have h1 := h i x y hx hy
    have hxy : x ≠ y := nodup_at (okE_nodup hl) hx hy (by omega)
    obtain ⟨a, ha⟩ := List.mem_iff_getElem?.1 (hm x (List.mem_of_getElem? hx))
    obtain ⟨b, hb⟩ := List.mem_iff_getElem?.1 (hm y (List.mem_of_getElem? hy))
    have e1 := plT_at (okE_nodup hr) ha (okE_mem hr (List.mem_of_getElem? ha)).1
    have e2 := plT_at (okE_nodup hr) hb (okE_mem hr (List.mem_of_getElem? hb)).1
    have hab : a ≠ b := by rintro rfl; rw [ha] at hb; exact hxy (by simpa using hb)
    omega
  · intro h i x y hx hy
    have := pair_at (hp.sublist h) hx hy (by omega)
    omega
/-- .. by the law's own way: the list's first event is sought, then the next one -/
theorem sh_yes {x : Int} {run l : List Int} : shB (x :: run) (x :: l) = shB run l := by simp [shB, List.isSublist]
theorem sh_no {x y : Int} {run l : List Int} (h : y ≠ x) : shB (x :: run) (y :: l) = shB run (y :: l) := by simp [shB, List.isSublist, h]
theorem sh_none {x : Int} {l : List Int} : shB [] (x :: l) = false := by simp [shB, List.isSublist]
theorem sh_nil {run : List Int} : shB run [] = true := by cases run <;> simp [shB, List.isSublist]
theorem drop_at' {α : Type} {l : List α} {k : Nat} {x : α} (h : l[k]? = some x) : l.drop k = x :: l.drop (k + 1) := by
  obtain ⟨h1, rfl⟩ := List.getElem?_eq_some_iff.1 h
  exact List.drop_eq_getElem_cons h1
theorem sh_step {run l : List Int} {i k : Nat} {x y : Int} (hx : run[i]? = some x) (hy : l[k]? = some y) : shB (run.drop i) (l.drop k) = shB (run.drop (i + 1)) (l.drop (if x = y then k + 1 else k)) := by
  rw [drop_at' hx]
  by_cases h : x = y
  · subst h; rw [if_pos rfl, drop_at' hy, sh_yes]
  · rw [if_neg h, drop_at' hy, sh_no (fun he => h he.symm)]
theorem sh_end {run l : List Int} {i k : Nat} (hk : k ≤ l.length) (h : run.length ≤ i ∨ l.length ≤ k) : shB (run.drop i) (l.drop k) = decide (k = l.length) := by
  by_cases he : k = l.length
  · subst he; rw [List.drop_length, sh_nil]; simp
  · have hr : run.length ≤ i := by omega
    obtain ⟨y, hy⟩ := at_of_lt (m := l) (k := k) (by omega)
    rw [List.drop_eq_nil_of_le hr, drop_at' hy, sh_none]; simp [he]

/-- what no run shows -/
def unF (runs : List (List Int)) (l : List Int) : Bool := !runs.any fun r => shB r l
def unA (runs all : List (List Int)) : List (List Int) := all.filter (unF runs)
def hidA (r : List Int) (all : List (List Int)) : List (List Int) := all.filter fun l => !shB r l
theorem unA_nil (all : List (List Int)) : unA [] all = all := by simp [unA, unF]
theorem unA_step {runs all : List (List Int)} {k : Nat} {r : List Int} (hx : runs[k]? = some r) : hidA r (unA (runs.take k) all) = unA (runs.take (k + 1)) all := by
  rw [take_snoc hx]
  unfold hidA unA
  rw [List.filter_filter]
  congr 1
  funext l
  simp only [unF, List.any_append, List.any_cons, List.any_nil, Bool.or_false, Bool.not_or]
  exact Bool.and_comm _ _
theorem unA_len (runs all : List (List Int)) : (unA runs all).length ≤ all.length := List.length_filter_le _ _
theorem hidA_len (r : List Int) (all : List (List Int)) : (hidA r all).length ≤ all.length := List.length_filter_le _ _
theorem unA_mem {runs all : List (List Int)} {l : List Int} : l ∈ unA runs all ↔ l ∈ all ∧ ∀ r ∈ runs, shB r l = false := by
  simp [unA, unF]
theorem unA_one (r : List Int) (all : List (List Int)) : unA [r] all = hidA r all := by
  unfold unA hidA; congr 1; funext l; simp [unF]

/-- UnseenOf (AllLists: of no runs), IsOrdering -/
def uoG (n : Int) (runs : List (List Int)) (t : Int) : Bool := okRs n runs && inR t 0 n
def uoL (n : Int) (runs : List (List Int)) (t : Int) : List (List Int) := if uoG n runs t then unA runs (alE n.toNat t.toNat) else []
theorem uoG_m {n : Int} {runs : List (List Int)} {t : Int} (h : uoG n runs t = true) : okRs n runs = true ∧ 1 ≤ n ∧ n ≤ 5 ∧ 0 ≤ t ∧ t ≤ n := by
  simp only [uoG, Bool.and_eq_true] at h
  have h1 := okRs_m h.1
  have h2 := inR_true.1 h.2
  exact ⟨h.1, h1.1, h1.2.1, h2.1, h2.2⟩
theorem uo_yes {n : Int} {runs : List (List Int)} {t : Int} (h : uoG n runs t = true) : uoL n runs t = unA runs (alE n.toNat t.toNat) := by unfold uoL; rw [h]; rfl
theorem uo_no {n : Int} {runs : List (List Int)} {t : Int} (h : uoG n runs t = false) : uoL n runs t = [] := by unfold uoL; rw [h]; rfl
theorem uoL_mem {n : Int} {runs : List (List Int)} {t : Int} {r : List Int} (h : r ∈ uoL n runs t) : uoG n runs t = true ∧ r ∈ alE n.toNat t.toNat ∧ ∀ q ∈ runs, shB q r = false := by
  cases hb : uoG n runs t
  · rw [uo_no hb] at h; cases h
  · rw [uo_yes hb] at h; exact ⟨rfl, unA_mem.1 h⟩
theorem uoL_row {n : Int} {runs : List (List Int)} {t : Int} : ∀ r ∈ uoL n runs t, r.length = t.toNat ∧ t.toNat ≤ 5 ∧ okE (n - 1) r = true := by
  intro r hr
  obtain ⟨h1, h2, _⟩ := uoL_mem hr
  have h3 := uoG_m h1
  have h4 := alE_row h2
  exact ⟨h4.1, by omega, by have := h4.2; rwa [show ((n.toNat : Nat) : Int) = n by omega] at this⟩
theorem uoL_len {n : Int} {runs : List (List Int)} {t : Int} : (uoL n runs t).length ≤ 3125 := by
  cases hb : uoG n runs t
  · rw [uo_no hb]; simp
  · have h3 := uoG_m hb
    rw [uo_yes hb]; exact Nat.le_trans (unA_len _ _) (alE_len (by omega) (by omega))
theorem uoL_sum {n : Int} {runs : List (List Int)} {t : Int} : sumL (uoL n runs t) ≤ 15625 := sum5 (fun r hr => by have := uoL_row r hr; omega) uoL_len
theorem uoL_gr {n : Int} {runs : List (List Int)} {t : Int} : True ∧ ∀ r ∈ uoL n runs t, r.length ≤ 4611686018427387904 := ⟨trivial, fun r hr => by have := uoL_row r hr; omega⟩
def ioB (n : Int) (runs : List (List Int)) (t : Int) : Bool := uoG n runs t && decide ((uoL n runs t).length = 0)
/-- Shows -/
def swB (n : Int) (run l : List Int) : Bool := inR n 1 5 && okU n (n - 1) run && okE (n - 1) l && shB run l

/-- TurnRuns -/
def tuG (n : Int) (runs : List (List Int)) : Bool := okRs n runs && decide (runs.length ≤ 10)
def tuA (runs : List (List Int)) : List (List Int) := runs.flatMap fun r => [r, r.reverse]
def tuL (n : Int) (runs : List (List Int)) : List (List Int) := if tuG n runs then tuA runs else []
theorem tu_yes {n : Int} {runs : List (List Int)} (h : tuG n runs = true) : tuL n runs = tuA runs := by unfold tuL; rw [h]; rfl
theorem tu_no {n : Int} {runs : List (List Int)} (h : tuG n runs = false) : tuL n runs = [] := by unfold tuL; rw [h]; rfl
theorem tuG_m {n : Int} {runs : List (List Int)} (h : tuG n runs = true) : okRs n runs = true ∧ runs.length ≤ 10 := by
  simp only [tuG, Bool.and_eq_true, decide_eq_true_eq] at h; exact h
theorem tuA_step {runs : List (List Int)} {k : Nat} {r : List Int} (hx : runs[k]? = some r) : tuA (runs.take (k + 1)) = tuA (runs.take k) ++ [r, r.reverse] := by
  rw [take_snoc hx]; simp [tuA]
theorem tuA_len : ∀ runs : List (List Int), (tuA runs).length = 2 * runs.length
  | [] => rfl
  | r :: rs => by have := tuA_len rs; simp only [tuA, List.flatMap_cons, List.length_append, List.length_cons, List.length_nil] at *; omega
theorem tuL_row {n : Int} {runs : List (List Int)} : ∀ r ∈ tuL n runs, r.length ≤ 5 := by
  intro r hr
  cases hb : tuG n runs
  · rw [tu_no hb] at hr; cases hr
  · rw [tu_yes hb] at hr
    simp only [tuA, List.mem_flatMap, List.mem_cons, List.not_mem_nil, or_false] at hr
    obtain ⟨q, hq, h⟩ := hr
    have h1 := okRs_row (tuG_m hb).1 hq
    have h2 := okRs_m (tuG_m hb).1
    rcases h with rfl | rfl
    · omega
    · rw [List.length_reverse]; omega
theorem tuL_len {n : Int} {runs : List (List Int)} : (tuL n runs).length ≤ 20 := by
  cases hb : tuG n runs
  · rw [tu_no hb]; simp
  · rw [tu_yes hb, tuA_len]; have := (tuG_m hb).2; omega
theorem tuL_sum {n : Int} {runs : List (List Int)} : sumL (tuL n runs) ≤ 100 := sum5 tuL_row tuL_len
theorem tuL_gr {n : Int} {runs : List (List Int)} : True ∧ ∀ r ∈ tuL n runs, r.length ≤ 4611686018427387904 := ⟨trivial, fun r hr => by have := tuL_row r hr; omega⟩

/-- GrowRuns -/
def nwN (left : List (List Int)) (r : List Int) : Nat := left.countP (shB r)
theorem hid_nw (left : List (List Int)) (r : List Int) : (hidA r left).length + nwN left r = left.length := by
  unfold hidA nwN
  rw [List.countP_eq_length_filter]
  induction left with
  | nil => rfl
  | cons a l ih =>
    simp only [List.filter_cons]
    cases shB r a <;> simp <;> omega
def grE (all : List (List Int)) : Nat → List (List Int) → List (List Int) → List (List Int)
  | 0, out, _ => out
  | n + 1, out, left => if left = [] then out else grE all n (out ++ [bstL (nwN left) all]) (hidA (bstL (nwN left) all) left)
theorem grE_done (all : List (List Int)) (n : Nat) (out : List (List Int)) : grE all n out [] = out := by cases n <;> simp [grE]
theorem grE_step (all : List (List Int)) (n : Nat) (out : List (List Int)) {left : List (List Int)} (h : left ≠ []) : grE all (n + 1) out left = grE all n (out ++ [bstL (nwN left) all]) (hidA (bstL (nwN left) all) left) := by
  simp [grE, h]
theorem grE_len (all : List (List Int)) : ∀ (n : Nat) (out left : List (List Int)), out.length ≤ (grE all n out left).length ∧ (grE all n out left).length ≤ out.length + n
  | 0, out, left => by simp [grE]
  | n + 1, out, left => by
    simp only [grE]
    split
    · omega
    · have := grE_len all n (out ++ [bstL (nwN left) all]) (hidA (bstL (nwN left) all) left)
      simp only [List.length_append, List.length_singleton] at this; omega
theorem grE_rows {all : List (List Int)} {P : List Int → Prop} (ha : all ≠ []) (hall : ∀ x ∈ all, P x) : ∀ (n : Nat) (out left : List (List Int)), (∀ x ∈ out, P x) → ∀ x ∈ grE all n out left, P x
  | 0, out, left, h => by simpa [grE] using h
  | n + 1, out, left, h => by
    simp only [grE]
    split
    · exact h
    · refine grE_rows ha hall n _ _ fun x hx => ?_
      rcases List.mem_append.1 hx with hx | hx
      · exact h x hx
      · rw [List.mem_singleton.1 hx]; exact hall _ (bstL_mem _ ha)
def gwG (n t : Int) : Bool := inR n 1 5 && inR t 0 n
def gwR (n t : Int) : List (List Int) := grE (alE n.toNat n.toNat) 21 [] (alE n.toNat t.toNat)
def gwB (n t : Int) : Bool := gwG n t && decide ((gwR n t).length ≤ 20)
def gwL (n t : Int) : List (List Int) := if gwB n t then gwR n t else []

/-- DropEvent -/
def dvR (e : Int) (r : List Int) : List Int := (r.filter fun x => x != e).map fun x => if e < x then x - 1 else x
def dvB (n : Int) (runs : List (List Int)) (e : Int) : Bool := okRs n runs && decide (2 ≤ n) && inR e 0 (n - 1)
def dvL (n : Int) (runs : List (List Int)) (e : Int) : List (List Int) := if dvB n runs e then runs.map (dvR e) else []

end Go.Proofs.Ytehoagbpgahopaa
