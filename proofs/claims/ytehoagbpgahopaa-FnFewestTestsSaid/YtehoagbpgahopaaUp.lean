/- Plain facts of all lists of events: how many there are; none comes twice in a row. -/
import Derived.Test.YtehoagbpgahopaaTa
import Derived.Test.YtehoagbpgahopaaWa
import Derived.Test.YtehoagbpgahopaaTc
namespace Go.Proofs.Ytehoagbpgahopaa
def fall (n : Nat) : Nat → Nat
  | 0 => 1
  | k + 1 => fall n k * (n - k)
set_option maxRecDepth 100000 in
theorem fall_le : ∀ n k : Fin 6, fall n k ≤ 120 := by decide +kernel
set_option maxRecDepth 100000 in
theorem al_count : ∀ n t : Fin 6, t ≤ n → (alE n t).length = fall n t := by decide +kernel
set_option maxRecDepth 100000 in
theorem al_adj0 : ∀ n t : Fin 6, ((alE n t).zip (alE n t).tail).all (fun p => !eqI p.1 p.2) = true := by decide +kernel
theorem al_adj {n t k : Nat} (hn : n ≤ 5) (ht : t ≤ 5) {r q : List Int} (h1 : (alE n t)[k]? = some r) (h2 : (alE n t)[k + 1]? = some q) : eqI r q = false := by
  have h := al_adj0 ⟨n, by omega⟩ ⟨t, by omega⟩
  rw [List.all_eq_true] at h
  have h3 : ((alE n t).zip (alE n t).tail)[k]? = some (r, q) := by
    rw [List.getElem?_zip_eq_some]
    exact ⟨h1, by rw [List.getElem?_tail]; exact h2⟩
  have := h (r, q) (List.mem_of_getElem? h3)
  simpa using this

/- Plain facts of what is promised of runs: lists that extend to runs, how many orders there are, runs that are turned, grown, and without an event. -/
theorem al_mem {n : Nat} : ∀ {t : Nat} {l : List Int}, okE ((n : Int) - 1) l = true → l.length = t → l ∈ alE n t
  | 0, l, _, hl => by rw [List.eq_nil_of_length_eq_zero hl]; simp [alE, lsN]
  | t + 1, l, h, hl => by
    have hne : l ≠ [] := by intro he; subst he; cases hl
    obtain ⟨l', x, rfl⟩ : ∃ l' x, l = l' ++ [x] := ⟨l.dropLast, l.getLast hne, (List.dropLast_concat_getLast hne).symm⟩
    have hl' : l'.length = t := by simpa using hl
    have hs : l'.Sublist (l' ++ [x]) := List.sublist_append_left _ _
    have ih := al_mem (okE_sub h hs) hl'
    unfold alE at ih ⊢
    rw [lsN_succ]
    refine List.mem_flatMap.2 ⟨l', ih, ?_⟩
    have hx := okE_mem h (x := x) (by simp)
    have hnd := okE_nodup h
    have hxl : x ∉ l' := by
      intro hm
      have := List.nodup_append.1 hnd
      exact this.2.2 x hm x (by simp) rfl
    have hxe : ((x.toNat : Nat) : Int) = x := by omega
    simp only [lnE, List.mem_map, List.mem_filter, List.mem_range, Bool.not_eq_true', List.contains_eq_mem, decide_eq_false_iff_not]
    exact ⟨x.toNat, ⟨by omega, by rw [hxe]; exact hxl⟩, by rw [hxe]⟩
theorem al_iff {n t : Nat} {l : List Int} : l ∈ alE n t ↔ l.length = t ∧ okE ((n : Int) - 1) l = true := ⟨alE_row, fun h => al_mem h.2 h.1⟩
theorem ev_nodup (n : Nat) : (evL n).Nodup := by
  unfold evL
  rw [List.nodup_iff_pairwise_ne, List.pairwise_map]
  exact List.nodup_range.imp (fun h => by omega)
/-- a list of different events begins a run -/
theorem ext_run {n : Nat} {l : List Int} (h : okE ((n : Int) - 1) l = true) : ∃ r, r ∈ alE n n ∧ l.Sublist r := by
  refine ⟨l ++ (evL n).filter (fun x => !l.contains x), ?_, List.sublist_append_left _ _⟩
  have hok : okE ((n : Int) - 1) (l ++ (evL n).filter (fun x => !l.contains x)) = true := by
    refine okE_mk (fun x hx => ?_) (List.nodup_append.2 ⟨okE_nodup h, (ev_nodup n).filter _, fun a ha b hb => ?_⟩)
    · rcases List.mem_append.1 hx with hx | hx
      · exact okE_mem h hx
      · have := mem_ev.1 ((List.mem_filter.1 hx).1); omega
    · rintro rfl
      have := (List.mem_filter.1 hb).2
      simp at this; exact this ha
  refine al_mem hok ?_
  have h1 := okE_len hok
  have h2 := nodup_le (l := evL n) (m := l ++ (evL n).filter (fun x => !l.contains x)) (ev_nodup n) fun y hy => by
    by_cases hm : y ∈ l
    · exact List.mem_append_left _ hm
    · exact List.mem_append_right _ (List.mem_filter.2 ⟨hy, by simpa using hm⟩)
  rw [ev_len] at h2; omega
theorem ext_one {n t : Nat} {l : List Int} (h : okE ((n : Int) - 1) l = true) (hl : l.length = t) (ht : t < n) : ∃ x, l ++ [x] ∈ alE n (t + 1) := by
  by_cases hall : ∀ y ∈ evL n, y ∈ l
  · have := nodup_le (ev_nodup n) hall; rw [ev_len] at this; omega
  · obtain ⟨x, hx⟩ := Classical.not_forall.1 hall
    rw [Classical.not_imp] at hx
    refine ⟨x, al_mem (okE_mk (fun y hy => ?_) (List.nodup_append.2 ⟨okE_nodup h, by simp, fun a ha b hb => ?_⟩)) (by simp [hl])⟩
    · rcases List.mem_append.1 hy with hy | hy
      · exact okE_mem h hy
      · rw [List.mem_singleton.1 hy]; have := mem_ev.1 hx.1; omega
    · rw [List.mem_singleton.1 hb]; rintro rfl; exact hx.2 ha
/-- each run shows one order of the same events -/
theorem sub_same {r : List Int} (hn : r.Nodup) : ∀ {l l' : List Int}, l.Sublist r → l'.Sublist r → (∀ x, x ∈ l ↔ x ∈ l') → l = l' := by
  induction r with
  | nil => intro l l' h h' _; rw [List.sublist_nil.1 h, List.sublist_nil.1 h']
  | cons a r ih =>
    intro l l' h h' hm
    rw [List.nodup_cons] at hn
    by_cases ha : a ∈ l
    · have ha' := (hm a).1 ha
      have hd : ∀ {k : List Int}, k.Sublist (a :: r) → a ∈ k → ∃ k', k = a :: k' ∧ k'.Sublist r := by
        intro k hk hak
        cases hk with
        | cons _ h2 => exact absurd (h2.subset hak) hn.1
        | cons_cons _ h2 => exact ⟨_, rfl, h2⟩
      obtain ⟨k, rfl, hk⟩ := hd h ha
      obtain ⟨k', rfl, hk'⟩ := hd h' ha'
      congr 1
      refine ih hn.2 hk hk' fun x => ?_
      have hx := hm x
      simp only [List.mem_cons] at hx
      constructor
      · intro h1
        rcases hx.1 (.inr h1) with rfl | h2
        · exact absurd (hk.subset h1) hn.1
        · exact h2
      · intro h1
        rcases hx.2 (.inr h1) with rfl | h2
        · exact absurd (hk'.subset h1) hn.1
        · exact h2
    · have ha' : a ∉ l' := fun hh => ha ((hm a).2 hh)
      have hd : ∀ {k : List Int}, k.Sublist (a :: r) → a ∉ k → k.Sublist r := by
        intro k hk hak
        cases hk with
        | cons _ h2 => exact h2
        | cons_cons _ h2 => exact absurd (by simp) hak
      exact ih hn.2 (hd h ha) (hd h' ha') hm
theorem hole {α β : Type} {P : β → α → Prop} : ∀ {R : List β} {L : List α}, L.Nodup → (∀ l ∈ L, ∃ r ∈ R, P r l) → (∀ r ∈ R, ∀ l ∈ L, ∀ l' ∈ L, P r l → P r l' → l = l') → L.length ≤ R.length
  | [], [], _, _, _ => Nat.le_refl _
  | [], a :: L, _, h, _ => by obtain ⟨r, hr, _⟩ := h a (by simp); cases hr
  | r :: R, L, hn, h, hu => by
    classical
    have h1 : (L.filter fun l => decide (¬ P r l)).length ≤ R.length := by
      refine hole (P := P) (hn.filter _) (fun l hl => ?_) (fun r' hr' l hl l' hl' => hu r' (by simp [hr']) l (List.mem_filter.1 hl).1 l' (List.mem_filter.1 hl').1)
      obtain ⟨hl1, hl2⟩ := List.mem_filter.1 hl
      obtain ⟨r', hr', hp⟩ := h l hl1
      rcases List.mem_cons.1 hr' with rfl | hr'
      · simp at hl2; exact absurd hp hl2
      · exact ⟨r', hr', hp⟩
    have h2 : (L.filter fun l => decide (P r l)).length ≤ 1 := by
      cases hf : L.filter fun l => decide (P r l) with
      | nil => simp
      | cons a T =>
        cases T with
        | nil => simp
        | cons b T =>
          exfalso
          have hnd : (a :: b :: T).Nodup := by rw [← hf]; exact hn.filter _
          have ha : a ∈ L.filter fun l => decide (P r l) := by rw [hf]; simp
          have hb : b ∈ L.filter fun l => decide (P r l) := by rw [hf]; simp
          obtain ⟨ha1, ha2⟩ := List.mem_filter.1 ha
          obtain ⟨hb1, hb2⟩ := List.mem_filter.1 hb
          have := hu r (by simp) a ha1 b hb1 (by simpa using ha2) (by simpa using hb2)
          subst this
          simp at hnd
    have h3 : L.length = (L.filter fun l => decide (P r l)).length + (L.filter fun l => decide (¬ P r l)).length := by
      clear h hu h1 h2 hn
      induction L with
      | nil => rfl
      | cons a L ih =>
        simp only [List.filter_cons]
        by_cases hp : P r a <;> simp [hp] <;> simp at ih <;> omega
    simp; omega
set_option maxRecDepth 100000 in
theorem al_nodup0 : ∀ t : Fin 6, (alE t t).Nodup := by decide +kernel
/-- orderings are at least as many as orders of t events -/
theorem io_many {n t : Nat} {runs : List (List Int)} (hn : n ≤ 5) (ht : t ≤ n) (hr : ∀ r ∈ runs, r.Nodup) (h : unA runs (alE n t) = []) : fall t t ≤ runs.length := by
  have hc := al_count ⟨t, by omega⟩ ⟨t, by omega⟩ (Nat.le_refl _)
  have hc' : (alE t t).length = fall t t := hc
  rw [← hc']
  refine hole (P := fun r l => l.Sublist r) (al_nodup0 ⟨t, by omega⟩) (fun l hl => ?_) (fun r hr' l hl l' hl' h1 h2 => ?_)
  · have hl1 := al_iff.1 hl
    have hm : l ∈ alE n t := al_mem (okE_wide hl1.2 (by omega)) hl1.1
    cases hb : runs.any fun r => shB r l
    · have : l ∈ unA runs (alE n t) := unA_mem.2 ⟨hm, by simpa using hb⟩
      rw [h] at this; cases this
    · obtain ⟨r, hr1, hr2⟩ := List.any_eq_true.1 hb
      exact ⟨r, hr1, shB_iff.1 hr2⟩
  · have e1 := al_iff.1 hl
    have e2 := al_iff.1 hl'
    refine sub_same (hr r hr') h1 h2 fun x => ?_
    constructor
    · intro hx; have := okE_mem e1.2 hx; exact okE_all e2.2 e2.1 this.1 (by omega)
    · intro hx; have := okE_mem e2.2 hx; exact okE_all e1.2 e1.1 this.1 (by omega)
theorem io_less {n t : Nat} {runs : List (List Int)} (ht : t < n) (h : unA runs (alE n (t + 1)) = []) : unA runs (alE n t) = [] := by
  rw [List.eq_nil_iff_forall_not_mem]
  intro l hl
  obtain ⟨h1, h2⟩ := unA_mem.1 hl
  obtain ⟨h3, h4⟩ := al_iff.1 h1
  obtain ⟨x, hx⟩ := ext_one h4 h3 ht
  have : l ++ [x] ∈ unA runs (alE n (t + 1)) := unA_mem.2 ⟨hx, fun r hr => by
    cases hb : shB r (l ++ [x])
    · rfl
    · have := h2 r hr
      rw [shB_iff.2 ((List.sublist_append_left l [x]).trans (shB_iff.1 hb))] at this; cases this⟩
  rw [h] at this; cases this
theorem unA_sub {a b all : List (List Int)} (h : ∀ r ∈ a, r ∈ b) {l : List Int} (hl : l ∈ unA b all) : l ∈ unA a all := by
  obtain ⟨h1, h2⟩ := unA_mem.1 hl
  exact unA_mem.2 ⟨h1, fun r hr => h2 r (h r hr)⟩

theorem tu_mem {runs : List (List Int)} {r : List Int} (h : r ∈ runs) : r ∈ tuA runs ∧ r.reverse ∈ tuA runs := by
  unfold tuA
  exact ⟨List.mem_flatMap.2 ⟨r, h, by simp⟩, List.mem_flatMap.2 ⟨r, h, by simp⟩⟩
theorem tu_okRs {n : Int} {runs : List (List Int)} (h : tuG n runs = true) : okRs n (tuA runs) = true := by
  have h1 := tuG_m h
  have h2 := okRs_m h1.1
  refine okRs_mk h2.1 h2.2.1 (by rw [tuA_len]; omega) fun r hr => ?_
  unfold tuA at hr
  obtain ⟨q, hq, hr⟩ := List.mem_flatMap.1 hr
  have h3 := okU_m (h2.2.2.2 q hq)
  simp only [List.mem_cons, List.not_mem_nil, or_false] at hr
  rcases hr with rfl | rfl
  · exact h2.2.2.2 _ hq
  · exact okU_mk (by rw [List.length_reverse]; exact h3.1) (okE_mk (fun x hx => okE_mem h3.2 (List.mem_reverse.1 hx)) ((List.reverse_perm q).nodup_iff.2 (okE_nodup h3.2)))
theorem pair_shown {r : List Int} {a b : Int} (ha : a ∈ r) (hb : b ∈ r) (hne : a ≠ b) : [a, b].Sublist r ∨ [a, b].Sublist r.reverse := by
  induction r with
  | nil => cases ha
  | cons c r ih =>
    rw [List.mem_cons] at ha hb
    rcases ha with rfl | ha
    · rcases hb with rfl | hb
      · exact absurd rfl hne
      · exact .inl (List.Sublist.cons_cons _ (List.singleton_sublist.2 hb))
    · rcases hb with rfl | hb
      · refine .inr ?_
        rw [List.reverse_cons]
        exact (show [a, b] = [a] ++ [b] from rfl) ▸ List.Sublist.append (List.singleton_sublist.2 (List.mem_reverse.2 ha)) (List.Sublist.refl _)
      · rcases ih ha hb with h | h
        · exact .inl (h.cons _)
        · exact .inr (by rw [List.reverse_cons]; exact h.trans (List.sublist_append_left _ _))
theorem tu_pairs {n t : Nat} {runs : List (List Int)} (hr : ∀ r ∈ runs, r.length = n ∧ okE ((n : Int) - 1) r = true) (hne : runs ≠ []) (ht : t ≤ 2) : unA (tuA runs) (alE n t) = [] := by
  rw [List.eq_nil_iff_forall_not_mem]
  intro l hl
  obtain ⟨h1, h2⟩ := unA_mem.1 hl
  obtain ⟨h3, h4⟩ := al_iff.1 h1
  obtain ⟨r, rs, rfl⟩ := List.exists_cons_of_ne_nil hne
  have hrr := hr r (by simp)
  have hm := tu_mem (runs := r :: rs) (r := r) (by simp)
  have hall : ∀ x ∈ l, x ∈ r := fun x hx => by have := okE_mem h4 hx; exact okE_all hrr.2 hrr.1 this.1 (by omega)
  have hno : ¬ (l.Sublist r ∨ l.Sublist r.reverse) := by
    rintro (h | h)
    · have := h2 r hm.1; rw [shB_iff.2 h] at this; cases this
    · have := h2 _ hm.2; rw [shB_iff.2 h] at this; cases this
  refine hno ?_
  match l, h3, h4, hall with
  | [], _, _, _ => exact .inl (List.nil_sublist _)
  | [a], _, _, hall => exact .inl (List.singleton_sublist.2 (hall a (by simp)))
  | [a, b], _, h4, hall =>
    have hn := okE_nodup h4
    simp only [List.nodup_cons, List.mem_singleton] at hn
    exact pair_shown (hall a (by simp)) (hall b (by simp)) hn.1
  | a :: b :: c :: l, h3, _, _ => simp at h3; omega

/-- each run that grows shows something new, and in the end all is shown -/
def grQ (all0 out : List (List Int)) : Prop := ∀ k, k < out.length → (unA (out.take (k + 1)) all0).length < (unA (out.take k) all0).length
theorem hid_less {left all : List (List Int)} {l : List Int} (hl : l ∈ left) (hs : ∃ r ∈ all, shB r l = true) : (hidA (bstL (nwN left) all) left).length < left.length := by
  obtain ⟨r, hr, hrl⟩ := hs
  have h1 := bstL_max (nwN left) all r hr
  have h2 : 0 < nwN left r := by unfold nwN; exact List.countP_pos_iff.2 ⟨l, hl, hrl⟩
  have h3 := hid_nw left (bstL (nwN left) all)
  omega
theorem unA_snoc (out all : List (List Int)) (r : List Int) : unA (out ++ [r]) all = hidA r (unA out all) := by
  have h := unA_step (runs := out ++ [r]) (all := all) (k := out.length) (r := r) (by simp)
  rw [List.take_of_length_le (by simp : (out ++ [r]).length ≤ out.length + 1), List.take_left] at h
  exact h.symm
theorem gr_grows {all all0 : List (List Int)} (hs : ∀ l ∈ all0, ∃ r ∈ all, shB r l = true) : ∀ (n : Nat) (out : List (List Int)), grQ all0 out → grQ all0 (grE all n out (unA out all0)) ∧ ((grE all n out (unA out all0)).length < out.length + n → unA (grE all n out (unA out all0)) all0 = [])
  | 0, out, h => by simp [grE]; exact h
  | n + 1, out, h => by
    by_cases he : unA out all0 = []
    · rw [he, grE_done]; exact ⟨h, fun _ => he⟩
    · rw [grE_step _ _ _ he, ← unA_snoc]
      have hq : grQ all0 (out ++ [bstL (nwN (unA out all0)) all]) := by
        intro k hk
        simp only [List.length_append, List.length_singleton] at hk
        by_cases hk2 : k < out.length
        · rw [List.take_append_of_le_length (by omega), List.take_append_of_le_length (by omega)]; exact h k hk2
        · have hke : k = out.length := by omega
          subst hke
          rw [List.take_of_length_le (by simp), List.take_left, unA_snoc]
          obtain ⟨l, T, hlT⟩ := List.exists_cons_of_ne_nil he
          have hl : l ∈ unA out all0 := by rw [hlT]; simp
          exact hid_less hl (hs l (unA_mem.1 hl).1)
      have ih := gr_grows hs n _ hq
      refine ⟨ih.1, fun hlt => ih.2 (by simp only [List.length_append, List.length_singleton]; omega)⟩
theorem gw_facts {n t : Nat} (hB : gwB (n : Int) (t : Int) = true) : okRs (n : Int) (gwR n t) = true ∧ unA (gwR n t) (alE n t) = [] ∧ grQ (alE n t) (gwR n t) := by
  unfold gwB at hB
  simp only [Bool.and_eq_true, decide_eq_true_eq] at hB
  have hg : inR (n : Int) 1 5 = true ∧ inR (t : Int) 0 n = true := by have := hB.1; unfold gwG at this; simpa using this
  have h1 := inR_true.1 hg.1
  have h2 := inR_true.1 hg.2
  have hs : ∀ l ∈ alE n t, ∃ r ∈ alE n n, shB r l = true := fun l hl => by
    obtain ⟨r, hr, hsub⟩ := ext_run (alE_row hl).2
    exact ⟨r, hr, shB_iff.2 hsub⟩
  have hg0 := gr_grows hs 21 [] (fun k hk => by simp at hk)
  rw [unA_nil] at hg0
  have he : gwR (n : Int) (t : Int) = grE (alE n n) 21 [] (alE n t) := rfl
  have hne : alE n n ≠ [] := by
    intro h0
    have := ext_run (n := n) (okE_nil ((n : Int) - 1))
    obtain ⟨r, hr, _⟩ := this
    rw [h0] at hr; cases hr
  refine ⟨okRs_mk h1.1 h1.2 hB.2 fun r hr => ?_, ?_, ?_⟩
  · have := grE_rows (P := fun r => r ∈ alE n n) hne (fun x hx => hx) 21 [] (alE n t) (by simp) r (by rw [← he]; exact hr)
    have := alE_row this
    exact okU_mk (by omega) this.2
  · rw [he]; exact hg0.2 (by rw [← he]; have := hB.2; simp; omega)
  · rw [he]; exact hg0.1

theorem dv_okRs {n e : Int} {runs : List (List Int)} (h : dvB n runs e = true) : okRs (n - 1) (runs.map (dvR e)) = true := by
  unfold dvB at h
  simp only [Bool.and_eq_true, decide_eq_true_eq] at h
  have h1 := okRs_m h.1.1
  have he := inR_true.1 h.2
  refine okRs_mk (by omega) (by omega) (by rw [List.length_map]; omega) fun r hr => ?_
  obtain ⟨q, hq, rfl⟩ := List.mem_map.1 hr
  have h2 := okRs_row h.1.1 hq
  have hn : n = ((n.toNat : Nat) : Int) := by omega
  have hnd := okE_nodup h2.2
  have hmem : e ∈ q := okE_all (n := n.toNat) (by rw [← hn]; exact h2.2) h2.1 he.1 (by omega)
  have hlen : (q.filter fun x => x != e).length + 1 = q.length := by
    have h5 := List.length_eq_countP_add_countP (fun x => x != e) (l := q)
    have h6 : q.countP (fun a => decide ¬ (a != e) = true) = 1 := by
      have h7 := hnd.count (a := e)
      rw [if_pos hmem] at h7
      rw [← h7]
      unfold List.count
      exact List.countP_congr (fun x _ => by simp)
    rw [List.countP_eq_length_filter] at h5
    omega
  refine okU_mk ?_ (okE_mk (fun x hx => ?_) ?_)
  · unfold dvR; rw [List.length_map]; omega
  · unfold dvR at hx
    obtain ⟨y, hy, rfl⟩ := List.mem_map.1 hx
    obtain ⟨hy1, hy2⟩ := List.mem_filter.1 hy
    have := okE_mem h2.2 hy1
    have hne : y ≠ e := by simpa using hy2
    split <;> omega
  · unfold dvR
    rw [List.nodup_iff_pairwise_ne, List.pairwise_map]
    have hp : List.Pairwise (fun a b => a ≠ b) (q.filter fun x => x != e) := hnd.filter fun x => x != e
    refine hp.imp_of_mem fun {a b} ha hb hab => ?_
    have h8 : a ≠ e := by simpa using (List.mem_filter.1 ha).2
    have h9 : b ≠ e := by simpa using (List.mem_filter.1 hb).2
    split <;> split <;> omega
theorem dv_shows {e : Int} {r l : List Int} (h : (l.map fun x => if x < e then x else x + 1).Sublist r) : l.Sublist (dvR e r) := by
  have h1 := (h.filter (fun x => x != e)).map (fun x => if e < x then x - 1 else x)
  have h2 : ((l.map fun x => if x < e then x else x + 1).filter fun x => x != e) = l.map fun x => if x < e then x else x + 1 := by
    rw [List.filter_eq_self]
    intro y hy
    obtain ⟨x, _, rfl⟩ := List.mem_map.1 hy
    simp only [bne_iff_ne, ne_eq]
    split <;> omega
  rw [h2, List.map_map] at h1
  have h3 : (l.map ((fun x => if e < x then x - 1 else x) ∘ fun x => if x < e then x else x + 1)) = l := by
    rw [List.map_congr_left (g := id)]
    · simp
    · intro x _
      simp only [Function.comp, id]
      split <;> split <;> omega
  rw [h3] at h1
  exact h1
theorem dv_io {n t : Nat} {e : Int} {runs : List (List Int)} (he : 0 ≤ e ∧ e < n) (h : unA runs (alE n t) = []) : unA (runs.map (dvR e)) (alE (n - 1) t) = [] := by
  rw [List.eq_nil_iff_forall_not_mem]
  intro l hl
  obtain ⟨h1, h2⟩ := unA_mem.1 hl
  obtain ⟨h3, h4⟩ := al_iff.1 h1
  have hm : (l.map fun x => if x < e then x else x + 1) ∈ alE n t := by
    refine al_mem (okE_mk (fun x hx => ?_) ?_) (by rw [List.length_map]; exact h3)
    · obtain ⟨y, hy, rfl⟩ := List.mem_map.1 hx
      have := okE_mem h4 hy
      split <;> omega
    · rw [List.nodup_iff_pairwise_ne, List.pairwise_map]
      have := okE_nodup h4
      rw [List.nodup_iff_pairwise_ne] at this
      exact this.imp fun hab => by split <;> split <;> omega
  cases hb : runs.any fun r => shB r (l.map fun x => if x < e then x else x + 1)
  · have : (l.map fun x => if x < e then x else x + 1) ∈ unA runs (alE n t) := unA_mem.2 ⟨hm, by simpa using hb⟩
    rw [h] at this; cases this
  · obtain ⟨r, hr1, hr2⟩ := List.any_eq_true.1 hb
    have := h2 (dvR e r) (List.mem_map_of_mem hr1)
    rw [shB_iff.2 (dv_shows (shB_iff.1 hr2))] at this; cases this
theorem uo_nat {n t : Nat} {runs : List (List Int)} (h : okRs (n : Int) runs = true) (ht : t ≤ n) : uoG (n : Int) runs (t : Int) = true ∧ uoL (n : Int) runs (t : Int) = unA runs (alE n t) := by
  have hg : uoG (n : Int) runs (t : Int) = true := by unfold uoG; rw [h, inR_true.2 ⟨by omega, by omega⟩]; rfl
  exact ⟨hg, by rw [uo_yes hg]; rfl⟩
theorem okRs_take {n : Int} {runs : List (List Int)} (h : okRs n runs = true) (k : Nat) : okRs n (runs.take k) = true := by
  have h1 := okRs_m h
  exact okRs_mk h1.1 h1.2.1 (by rw [List.length_take]; omega) fun r hr => h1.2.2.2 r (List.mem_of_mem_take hr)
theorem io_nil {n t : Nat} {runs : List (List Int)} (h : okRs (n : Int) runs = true) (ht : t ≤ n) : ioB (n : Int) runs (t : Int) = true ↔ unA runs (alE n t) = [] := by
  have h1 := uo_nat h ht
  unfold ioB
  rw [h1.1, h1.2, Bool.true_and, decide_eq_true_eq]
  exact List.length_eq_zero_iff
theorem gwB_m {n t : Int} (h : gwB n t = true) : 1 ≤ n ∧ n ≤ 5 ∧ 0 ≤ t ∧ t ≤ n := by
  unfold gwB gwG at h
  simp only [Bool.and_eq_true] at h
  have h1 := inR_true.1 h.1.1
  have h2 := inR_true.1 h.1.2
  omega
theorem gw_law {n t : Nat} (hB : gwB (n : Int) (t : Int) = true) : ioB (n : Int) (gwL n t) (t : Int) = true ∧ fall t t ≤ (gwL n t).length ∧ ∀ k, k < (gwL n t).length → (uoL (n : Int) ((gwL n t).take (k + 1)) (t : Int)).length < (uoL (n : Int) ((gwL n t).take k) (t : Int)).length := by
  have hm := gwB_m hB
  obtain ⟨h1, h2, h3⟩ := gw_facts hB
  have he : gwL (n : Int) (t : Int) = gwR n t := by unfold gwL; rw [hB]; rfl
  rw [he]
  refine ⟨(io_nil h1 (by omega)).2 h2, io_many (by omega) (by omega) (fun r hr => okE_nodup (okRs_row h1 hr).2) h2, fun k hk => ?_⟩
  rw [(uo_nat (okRs_take h1 (k + 1)) (by omega)).2, (uo_nat (okRs_take h1 k) (by omega)).2]
  exact h3 k hk

/-- ValidRuns: a run is among all lists, and runs are runs without the last one -/
theorem vr_law {n : Int} {runs : List (List Int)} {r : List Int} (h : okRs n runs = true) (hr : r ∈ runs) : r ∈ uoL n [] n := by
  have h1 := okRs_m h
  have h2 := okRs_row h hr
  have hn : n = ((n.toNat : Nat) : Int) := by omega
  rw [hn]
  rw [(uo_nat (runs := []) (okRs_mk (by omega) (by omega) (by simp) (by simp)) (Nat.le_refl _)).2, unA_nil]
  exact al_mem (by rw [← hn]; exact h2.2) h2.1
theorem uo_no_show {n t : Int} {runs : List (List Int)} {r l : List Int} (hr : r ∈ runs) (hl : l ∈ uoL n runs t) : swB n r l = false := by
  unfold swB; rw [(uoL_mem hl).2.2 r hr, Bool.and_false]
theorem uo_take {n t : Int} {runs : List (List Int)} (k : Nat) {l : List Int} (hl : l ∈ uoL n runs t) : l ∈ uoL n (runs.take k) t := by
  obtain ⟨h1, h2, h3⟩ := uoL_mem hl
  have h4 := uoG_m h1
  have h5 : uoG n (runs.take k) t = true := by unfold uoG; rw [okRs_take h4.1 k, inR_true.2 ⟨h4.2.2.2.1, h4.2.2.2.2⟩]; rfl
  rw [uo_yes h5]
  exact unA_mem.2 ⟨h2, fun r hr => h3 r (List.mem_of_mem_take hr)⟩
theorem io_law {n t : Nat} {runs : List (List Int)} (h : okRs (n : Int) runs = true) (ht : t ≤ n) (hio : ioB (n : Int) runs (t : Int) = true) : fall t t ≤ runs.length ∧ ∀ s : Nat, s + 1 = t → ioB (n : Int) runs (s : Int) = true := by
  have h1 := okRs_m h
  have h2 := (io_nil h ht).1 hio
  refine ⟨io_many (by omega) ht (fun r hr => okE_nodup (okRs_row h hr).2) h2, fun s hs => ?_⟩
  subst hs
  exact (io_nil h (by omega)).2 (io_less (by omega) h2)
theorem tu_law {n t : Nat} {runs : List (List Int)} (h : tuG (n : Int) runs = true) {l : List Int} (hl : l ∈ uoL (n : Int) (tuL (n : Int) runs) (t : Int)) (ht : t ≤ n) : l ∈ uoL (n : Int) runs (t : Int) := by
  rw [tu_yes h, (uo_nat (tu_okRs h) ht).2] at hl
  rw [(uo_nat (tuG_m h).1 ht).2]
  exact unA_sub (fun r hr => (tu_mem hr).1) hl
theorem tu_io {n t : Nat} {runs : List (List Int)} (h : tuG (n : Int) runs = true) (hne : runs ≠ []) (ht : t ≤ n) (ht2 : t ≤ 2) : ioB (n : Int) (tuL (n : Int) runs) (t : Int) = true := by
  rw [tu_yes h]
  refine (io_nil (tu_okRs h) ht).2 (tu_pairs (fun r hr => ?_) hne ht2)
  have := okRs_row (tuG_m h).1 hr
  exact ⟨by have := this.1; omega, this.2⟩
theorem dvB_m {n e : Int} {runs : List (List Int)} (h : dvB n runs e = true) : okRs n runs = true ∧ 2 ≤ n ∧ n ≤ 5 ∧ 0 ≤ e ∧ e < n := by
  unfold dvB at h
  simp only [Bool.and_eq_true, decide_eq_true_eq] at h
  have h1 := okRs_m h.1.1
  have h2 := inR_true.1 h.2
  exact ⟨h.1.1, h.1.2, by omega, by omega, by omega⟩
theorem dv_law {n t : Nat} {e : Int} {runs : List (List Int)} (h : dvB (n : Int) runs e = true) (ht : t < n) (hio : ioB (n : Int) runs (t : Int) = true) : ioB ((n : Int) - 1) (dvL (n : Int) runs e) (t : Int) = true := by
  have h1 := dvB_m h
  have h2 : dvL (n : Int) runs e = runs.map (dvR e) := by unfold dvL; rw [h]; rfl
  have hn : (n : Int) - 1 = ((n - 1 : Nat) : Int) := by omega
  have h3 := dv_okRs h
  rw [h2, hn]
  rw [hn] at h3
  exact (io_nil h3 (by omega)).2 (dv_io ⟨h1.2.2.2.1, by omega⟩ ((io_nil h1.1 (by omega)).1 hio))
theorem dv_len {n e : Int} {runs : List (List Int)} (h : dvB n runs e = true) : (dvL n runs e).length = runs.length := by unfold dvL; rw [h]; simp
theorem dv_ok {n e : Int} {runs : List (List Int)} (h : dvB n runs e = true) : okRs (n - 1) (dvL n runs e) = true := by
  have := dv_okRs h
  unfold dvL; rw [h]; exact this

/- Plain facts: how many tests there must be, and why suites that cover have so many. -/
/-- the product of the numbers that are marked, and the patterns with levels just there -/
def prB : List Int → List Bool → Int
  | [], _ => 1
  | _, [] => 1
  | x :: m, b :: bs => (if b then x else 1) * prB m bs
def ptB : List Int → List Bool → List (List Int)
  | [], _ => [[]]
  | _ :: _, [] => []
  | x :: m, b :: bs => if b then (List.range x.toNat).flatMap fun (y : Nat) => (ptB m bs).map ((y : Int) :: ·) else (ptB m bs).map ((-1) :: ·)
theorem flat_cons_len (L : List (List Int)) : ∀ n : Nat, ((List.range n).flatMap fun (y : Nat) => L.map ((y : Int) :: ·)).length = n * L.length
  | 0 => by simp
  | n + 1 => by rw [List.range_succ, List.flatMap_append, List.length_append, flat_cons_len L n]; simp [Nat.succ_mul]
theorem ptB_len : ∀ {m : List Int} {b : List Bool}, b.length = m.length → (∀ x ∈ m, 0 ≤ x) → ((ptB m b).length : Int) = prB m b
  | [], b, _, _ => by simp [ptB, prB]
  | x :: m, [], h, _ => by simp at h
  | x :: m, b :: bs, h, hp => by
    have ih := ptB_len (m := m) (b := bs) (by simpa using h) fun y hy => hp y (by simp [hy])
    have hx := hp x (by simp)
    cases b
    · simp [ptB, prB, ih]
    · simp only [ptB, prB, if_true]
      rw [flat_cons_len, Int.natCast_mul, ih, Int.toNat_of_nonneg hx]
theorem ptB_nodup : ∀ {m : List Int} {b : List Bool}, (ptB m b).Nodup
  | [], b => by simp [ptB]
  | x :: m, [] => by simp [ptB]
  | x :: m, b :: bs => by
    have ih := ptB_nodup (m := m) (b := bs)
    have hinj : ∀ z : Int, ((ptB m bs).map (z :: ·)).Nodup := fun z => by
      rw [List.nodup_iff_pairwise_ne, List.pairwise_map]
      rw [List.nodup_iff_pairwise_ne] at ih
      exact ih.imp fun hab he => hab (by simpa using he)
    cases b
    · simp only [ptB]; exact hinj _
    · simp only [ptB, if_true]
      rw [List.nodup_iff_pairwise_ne, List.pairwise_flatMap]
      refine ⟨fun y _ => by have := hinj (y : Int); rwa [List.nodup_iff_pairwise_ne] at this, ?_⟩
      have hr : (List.range x.toNat).Pairwise (· < ·) := List.pairwise_lt_range
      refine hr.imp fun {i j} hij p hp q hq he => ?_
      obtain ⟨p', _, rfl⟩ := List.mem_map.1 hp
      obtain ⟨q', _, rfl⟩ := List.mem_map.1 hq
      have : (i : Int) = (j : Int) := by have := congrArg List.head? he; simpa using this
      omega
theorem ptB_row : ∀ {m p : List Int} {b : List Bool}, (∀ x ∈ m, 0 ≤ x) → b.length = m.length → p ∈ ptB m b → okW (-1) m p = true ∧ strN p = b.countP id ∧ ∀ i : Nat, i < m.length → (at5 p i = -1 ↔ b.getD i false = false)
  | [], p, [], _, _, h => by
    simp [ptB] at h
    subst h
    exact ⟨by decide, by decide, fun i hi => by simp at hi⟩
  | [], p, b :: bs, _, h, _ => by simp at h
  | x :: m, p, [], _, h, _ => by simp at h
  | x :: m, p, b :: bs, hp, hl, h => by
    have hl' : bs.length = m.length := by simpa using hl
    have hx := hp x (by simp)
    have hpm : ∀ y ∈ m, 0 ≤ y := fun y hy => hp y (by simp [hy])
    cases b
    · simp only [ptB] at h
      obtain ⟨q, hq, rfl⟩ := List.mem_map.1 h
      obtain ⟨h1, h2, h3⟩ := ptB_row hpm hl' hq
      refine ⟨?_, by rw [strN_cons, h2]; simp, fun i hi => ?_⟩
      · rw [okW_cons, h1, inR_true.2 ⟨by omega, by omega⟩]; rfl
      · cases i with
        | zero => simp [at5]
        | succ i => simpa [at5] using h3 i (by simpa using hi)
    · simp only [ptB, if_true] at h
      obtain ⟨y, hy, hh⟩ := List.mem_flatMap.1 h
      obtain ⟨q, hq, rfl⟩ := List.mem_map.1 hh
      obtain ⟨h1, h2, h3⟩ := ptB_row hpm hl' hq
      have hy := List.mem_range.1 hy
      refine ⟨?_, by rw [strN_cons, h2]; simp, fun i hi => ?_⟩
      · rw [okW_cons, h1, inR_true.2 ⟨by omega, by omega⟩]; rfl
      · cases i with
        | zero => simp [at5]
        | succ i => simpa [at5] using h3 i (by simpa using hi)

/-- two patterns with levels at the same places that one test matches are one -/
theorem same_pat : ∀ {p q x : List Int}, p.length = x.length → q.length = x.length → mB p x = true → mB q x = true → (∀ i : Nat, i < x.length → (at5 p i = -1 ↔ at5 q i = -1)) → p = q
  | [], [], _, _, _, _, _, _ => rfl
  | [], b :: q, x, h1, h2, _, _, _ => by simp at h1 h2; omega
  | a :: p, [], x, h1, h2, _, _, _ => by simp at h1 h2; omega
  | a :: p, b :: q, [], h1, _, _, _, _ => by simp at h1
  | a :: p, b :: q, z :: x, h1, h2, h3, h4, h5 => by
    have e1 : (a == -1 || a == z) = true ∧ mB p x = true := by simpa [mB] using h3
    have e2 : (b == -1 || b == z) = true ∧ mB q x = true := by simpa [mB] using h4
    have ih := same_pat (p := p) (q := q) (x := x) (by simpa using h1) (by simpa using h2) e1.2 e2.2 fun i hi => by
      have := h5 (i + 1) (by simpa using hi)
      simpa [at5] using this
    have h0 := h5 0 (by simp)
    simp only [at5, List.getD_cons_zero] at h0
    have f1 := e1.1; have f2 := e2.1
    simp only [Bool.or_eq_true, beq_iff_eq] at f1 f2
    rw [ih]
    congr 1
    by_cases ha : a = -1
    · rw [ha, h0.1 ha]
    · have hb : b ≠ -1 := fun h => ha (h0.2 h)
      rw [(f1.resolve_left ha), (f2.resolve_left hb)]
theorem okW_len' {lo : Int} {m t : List Int} (h : okW lo m t = true) : t.length = m.length := okW_len h
/-- the least number as a product of marked numbers -/
theorem lt_mark : ∀ (t : Nat) (l : List Int) (out : Int), t ≤ l.length → ∃ b : List Bool, b.length = l.length ∧ b.countP id = t ∧ ltG t l out = out * prB l b
  | 0, l, out, _ => by
    refine ⟨List.replicate l.length false, by simp, ?_, ?_⟩
    · rw [List.countP_eq_zero]; intro a ha; rw [(List.mem_replicate.1 ha).2]; simp
    · have : ∀ l : List Int, prB l (List.replicate l.length false) = 1 := by
        intro l; induction l with
        | nil => rfl
        | cons x l ih => simp [List.replicate_succ, prB, ih]
      rw [this]; simp [ltG]
  | t + 1, l, out, ht => by
    have hl0 : 0 < l.length := by omega
    have hi : mxI l < l.length := mxK_lt l l.length hl0
    have hle : (l.eraseIdx (mxI l)).length = l.length - 1 := List.length_eraseIdx_of_lt hi
    obtain ⟨b, h1, h2, h3⟩ := lt_mark t (l.eraseIdx (mxI l)) (out * l.getD (mxI l) 0) (by omega)
    refine ⟨b.insertIdx (mxI l) true, ?_, ?_, ?_⟩
    · rw [List.length_insertIdx_of_le_length (by omega)]; omega
    · have : ∀ (b : List Bool) (i : Nat), i ≤ b.length → (b.insertIdx i true).countP id = b.countP id + 1 := by
        intro b i hib
        induction b generalizing i with
        | nil => have : i = 0 := by simpa using hib
                 subst this; rfl
        | cons c b ih => cases i with
          | zero => simp [List.insertIdx]
          | succ i => rw [List.insertIdx_succ_cons, List.countP_cons, List.countP_cons, ih i (by simpa using hib)]; omega
      rw [this b _ (by omega), h2]
    · rw [ltG_succ, h3, Int.mul_assoc]
      congr 1
      have : ∀ (l : List Int) (i : Nat) (b : List Bool), i < l.length → b.length = l.length - 1 → prB l (b.insertIdx i true) = l.getD i 0 * prB (l.eraseIdx i) b := by
        intro l
        induction l with
        | nil => intro i b hi; simp at hi
        | cons x l ih =>
          intro i b hi hb
          cases i with
          | zero => simp [List.insertIdx, prB]
          | succ i => cases b with
            | nil => simp at hb hi; omega
            | cons c b =>
              have := ih i b (by simpa using hi) (by simp at hb hi; omega)
              rw [List.insertIdx_succ_cons, List.eraseIdx_cons_succ]
              simp only [prB, this, List.getD_cons_succ]
              rw [← Int.mul_assoc, ← Int.mul_assoc, Int.mul_comm (if c = true then x else 1)]
      exact (this l _ b hi (by omega)).symm
/-- suites that cover have at least so many tests -/
theorem lt_le {m : List Int} {s : List (List Int)} {t : Int} (hm : okM m = true) (hs : ∀ r ∈ s, okT m r = true) (h0 : 0 ≤ t) (h1 : t ≤ m.length) (h : misP s (patS m [] t) = []) : ltV m t ≤ (s.length : Int) := by
  rw [lt_yes hm h0 h1]
  obtain ⟨b, hb1, hb2, hb3⟩ := lt_mark t.toNat m 1 (by omega)
  have hpos : ∀ x ∈ m, 0 ≤ x := okM_ge hm
  rw [hb3, Int.one_mul, ← ptB_len hb1 hpos]
  have := hole (P := fun x p => mB p x = true) (R := s) (L := ptB m b) ptB_nodup (fun p hp => ?_) (fun x hx p hp q hq e1 e2 => ?_)
  · exact_mod_cast this
  · obtain ⟨e1, e2, e3⟩ := ptB_row hpos hb1 hp
    have hpm : p ∈ patS m [] t := (mem_patS hm).2 ⟨e1, by rw [e2, hb2]; omega⟩
    cases hh : hasP s p
    · have : p ∈ misP s (patS m [] t) := List.mem_filter.2 ⟨hpm, by rw [hh]; rfl⟩
      rw [h] at this; cases this
    · exact List.any_eq_true.1 hh
  · obtain ⟨p1, _, p3⟩ := ptB_row hpos hb1 hp
    obtain ⟨q1, _, q3⟩ := ptB_row hpos hb1 hq
    have hxl := okW_len (hs x hx)
    refine same_pat (by rw [okW_len p1, hxl]) (by rw [okW_len q1, hxl]) e1 e2 fun i hi => ?_
    rw [p3 i (by omega), q3 i (by omega)]
/-- it rises with the strength -/
theorem ltG_last : ∀ (t : Nat) (l : List Int) (out : Int), t < l.length → ∃ v ∈ l, ltG (t + 1) l out = ltG t l out * v
  | 0, l, out, h => ⟨l.getD (mxI l) 0, by
      have hi : mxI l < l.length := mxK_lt l l.length h
      simp [List.getD, hi], rfl⟩
  | t + 1, l, out, h => by
    have hi : mxI l < l.length := mxK_lt l l.length (by omega)
    obtain ⟨v, hv, he⟩ := ltG_last t (l.eraseIdx (mxI l)) (out * l.getD (mxI l) 0) (by rw [List.length_eraseIdx_of_lt hi]; omega)
    exact ⟨v, List.mem_of_mem_eraseIdx hv, by rw [ltG_succ, he]; rfl⟩
theorem ltG_pos : ∀ (t : Nat) (l : List Int) (out : Int), (∀ x ∈ l, 1 ≤ x) → t ≤ l.length → 1 ≤ out → 1 ≤ ltG t l out
  | 0, l, out, _, _, h => h
  | t + 1, l, out, hx, ht, h => by
    have hi : mxI l < l.length := mxK_lt l l.length (by omega)
    have h1 : 1 ≤ l.getD (mxI l) 0 := by simp [List.getD, hi]; exact hx _ (List.getElem_mem hi)
    refine ltG_pos t _ _ (fun y hy => hx y (List.mem_of_mem_eraseIdx hy)) (by rw [List.length_eraseIdx_of_lt hi]; omega) ?_
    have := Int.mul_le_mul h h1 (by omega) (by omega)
    omega
theorem okM_one {m : List Int} (h : okM m = true) : ∀ x ∈ m, 1 ≤ x := fun x hx => by
  obtain ⟨k, hk⟩ := List.mem_iff_getElem?.1 hx
  exact (okM_at h hk).1
theorem lt_up {m : List Int} {t : Int} (hm : okM m = true) (h0 : 0 ≤ t) (h1 : t < m.length) : ltV m t ≤ ltV m (t + 1) ∧ 1 ≤ ltV m t := by
  rw [lt_yes hm h0 (by omega), lt_yes hm (by omega) (by omega), show (t + 1).toNat = t.toNat + 1 by omega]
  obtain ⟨v, hv, he⟩ := ltG_last t.toNat m 1 (by omega)
  have h2 := ltG_pos t.toNat m 1 (okM_one hm) (by omega) (Int.le_refl _)
  have h3 := okM_one hm v hv
  rw [he]
  refine ⟨?_, h2⟩
  have := Int.mul_le_mul_of_nonneg_left h3 (show 0 ≤ ltG t.toNat m 1 by omega)
  omega
theorem lt_zero {m : List Int} (hm : okM m = true) : ltV m 0 = 1 := by rw [lt_yes hm (Int.le_refl _) (by omega)]; rfl
theorem lt_full {m : List Int} (hm : okM m = true) : ltV m m.length = prodL 0 m := by
  rw [lt_yes hm (by omega) (Int.le_refl _), Int.toNat_natCast]
  have : ∀ (n : Nat) (l : List Int) (out : Int), l.length = n → ltG n l out = out * prodL 0 l := by
    intro n
    induction n with
    | zero => intro l out hl; rw [List.eq_nil_of_length_eq_zero hl]; simp [ltG, prodL]
    | succ n ih =>
      intro l out hl
      have hi : mxI l < l.length := mxK_lt l l.length (by omega)
      have hg : l.getD (mxI l) 0 = l[mxI l] := by simp [List.getD, hi]
      rw [ltG_succ, ih _ _ (by rw [List.length_eraseIdx_of_lt hi]; omega), Int.mul_assoc, hg]
      congr 1
      have hpr : ∀ (l : List Int) (i : Nat) (hi : i < l.length), l[i] * prodL 0 (l.eraseIdx i) = prodL 0 l := by
        intro l
        induction l with
        | nil => intro i hi; simp at hi
        | cons x l ih2 =>
          intro i hi
          cases i with
          | zero => simp [prodL_cons]
          | succ i =>
            have := ih2 i (by simpa using hi)
            rw [List.eraseIdx_cons_succ, prodL_cons, prodL_cons, ← this]
            simp only [List.getElem_cons_succ, Int.add_zero]
            rw [← Int.mul_assoc, ← Int.mul_assoc, Int.mul_comm (l[i]'(by simpa using hi))]
      exact hpr l _ hi
  have := this m.length m 1 rfl
  rw [this, Int.one_mul]

end Go.Proofs.Ytehoagbpgahopaa
