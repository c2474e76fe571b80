/- Walks: slices.Values of numbers, and slices.Collect of what it gives. -/
import Derived.Test.YtbdbfbobcdepgaaZg
import Derived.Test.YtbdbfbobcdepgaaOwnL
import Derived.Test.YtbdbfbobcdepgaaTc
namespace Go.Proofs.Ytbdbfbobcdepgaa
open Go.RowKit Go.Shelf

theorem ownL_lt {w : World} {B : Nat} {v : Value} {l : List Int} (h : OwnL w B v l) : ∀ g, v.ownBlock = some g → B ≤ g ∧ g < w.heap.size := World.ownsRow.lt h
theorem ownL_kept {w w' : World} {B : Nat} {v : Value} {l : List Int} (h : OwnL w B v l) (hb : ∀ k, k < w.heap.size → v.ownBlock = some k → w'.heap[k]? = w.heap[k]?) : OwnL w' B v l := by
  have hlt := ownL_lt h
  obtain ⟨h1, h2⟩ := h
  refine ⟨h1, ?_⟩
  rcases h2 with h2 | ⟨g, cap, cur, rfl, hB, hg, rest⟩
  · exact .inl h2
  · exact .inr ⟨g, cap, cur, rfl, hB, by rw [hb g (hlt g rfl).2 rfl]; exact hg, rest⟩
theorem ownL_base {w : World} {B B' : Nat} {v : Value} {l : List Int} (h : OwnL w B v l) (hB : B' ≤ B) : OwnL w B' v l := by
  refine ⟨h.1, ?_⟩
  rcases h.2 with h1 | ⟨g, cap, cur, e, h2, h3⟩
  · exact .inl h1
  · exact .inr ⟨g, cap, cur, e, by omega, h3⟩

theorem x_ValuesI {a : Option Addr} {n c : Nat} {w : World} :
    Calls Try.prog 83 #[.slice a n c] w (fun e w' => e = .returned (.func (.func 151) #[] #[.pointer (some ⟨w.heap.size, 0, none⟩)]) ∧ w' = w.alloc (.cells #[.slice a n c] 22)) := by
  go_enter Try.func83, Try.ntmps83
  go_wp2
  go_ret
  exact ⟨rfl, rfl⟩

set_option maxRecDepth 100000 in
set_option maxHeartbeats 2000000 in
theorem valuesI_seq {xs : List Int} {a : Option Addr} {c lo hi b n₀ : Nat} {w0 w : World} (ho : RI w0 lo hi a xs) (hhi : hi ≤ w0.heap.size) (hb0 : Below w0.heap.size w0 w) (hn0 : w0.heap.size ≤ n₀) (hl : xs.length ≤ 1048576) (hb : w.heap[b]? = some (.cells #[.slice a xs.length c] 22 (0, 0))) (hbn : b < n₀) (hn : n₀ ≤ w.heap.size) :
    SeqO Try.prog 151 #[.pointer (some ⟨b, 0, none⟩)] (fun x : Int => #[.int .i64 x]) xs n₀ 0 0 0 w := by
  intro n l J Jx W hW hJ hY h0
  obtain ⟨M, hM⟩ : ∃ M, xs.length = M := ⟨_, rfl⟩
  have HNN := Lib.hid hM
  have HO := Lib.hid ho
  have hMl : M ≤ 1048576 := by omega
  rw [hM] at hb
  have hws := hW.size
  have hcb : W.cell? ⟨b, 0, none⟩ = some (.slice a M c) := by
    rw [cell_of_row _ _ 0 _ _ _ ((hW.block b hbn).trans hb)]; rfl
  clear ho hM hl
  refine callsIn_of_wp Try.func151 rfl trivial ?_ rfl
  simp only [Try.ntmps151, List.size_toArray, List.length_cons, List.length_nil, Nat.reduceAdd, Nat.reduceSub, Array.replicate_succ, Array.replicate_zero, List.push_toArray, List.append_toArray, List.nil_append, List.cons_append]
  gi_wp2
  gi_loopw [7] (fun i wr => ∃ k : Nat, k ≤ M ∧ i = .int .i64 k ∧ J (xs.take k) wr ∧ Below n₀ w wr ∧ W.heap.size ≤ wr.heap.size) (fun i _ => M - (intOf i).toNat)
  case atStart => exact ⟨0, Nat.zero_le _, rfl, by simpa using h0, hW, Nat.le_refl _⟩
  case round =>
    obtain ⟨k, hk, rfl, hj, hbw, hsz⟩ := hrel
    by_cases hlt : k < M
    · have hbx : Below w0.heap.size w0 wr := hb0.trans (hbw.mono hn0)
      have hkx : k < xs.length := by have := HNN.out; omega
      obtain ⟨b1, o1, x, ha, _, _, hc, hx⟩ := (HO.out.below hbx hhi).at hkx
      have hidx := idxI ha hlt c
      obtain ⟨fn, tmps, assign, body, hy, hR⟩ := hY (xs.take k) x wr hj (by rw [← take_snoc hx.out]; exact List.take_prefix _ _) (by omega)
      rw [← take_snoc hx.out] at hR
      try dsimp only at hy
      clear ha hx
      gi_wp2
      refine hR.mono ?_
      rintro e W3 (⟨rfl, hj3, hk3, hb3⟩ | ⟨rfl, hx3⟩)
      · clear hR hy hc
        have hz3 := hb3.size
        have hbw3 := hbw.trans hb3
        gi_wp2
        go_roundw
        case rel => exact ⟨k + 1, by omega, by go_num, hj3, hbw3, by omega⟩
        case measure => simp [intOf]; omega
      · gi_wp2
        refine bodyPost_ret (results_none rfl _ _ _) rfl ?_
        exact ⟨⟨_, rfl⟩, .inr ⟨_, List.take_prefix _ _, hx3⟩⟩
    · gi_wp2
      go_end0
      rw [List.take_of_length_le (by have := HNN.out; omega)] at hj
      exact ⟨⟨_, rfl⟩, .inl hj⟩

theorem wpListIn_appI {F : Fence} {n : Nat} {wr : World} {ops : Array Oper} {rest : List Oper} {o : Oper} {a : Act} {Q : Exit → Act → World → Prop} (hgd : o.guard = none) (s t : Operand)
    (ho : o.op = .call { callee := .builtin .append, args := #[s, t], argTypes := #[22, 22] }) (B : Nat) (v : Value) (ps : List Int) (hs : a.eval s = v) (hown : OwnL wr B v ps) (x : Int)
    (nw : Nat) (hx : a.eval t = .slice (some ⟨nw, 0, none⟩) 1 1) (hnw : nw = wr.heap.size) (hl : ps.length ≤ 1099511627776) (hB : B ≤ wr.heap.size)
    (h : ∀ v' w', OwnL w' B v' (ps ++ [x]) → GrP wr w' v v' → wpListIn F n Try.prog ops Q rest (a.put o.dst v') w') : wpListIn F n Try.prog ops Q (o :: rest) a (wr.alloc (.cells #[.int .i64 x] 3)) := by
  subst hnw
  obtain ⟨i0, hi, hz0, hz1, hz2⟩ := info_parts infoInt
  have hlt := World.ownsRow.lt hown
  refine wpListIn_append_own_at _ hgd s t 22 ho B 3 i0 _ 1 8 undI hi hz0 hz1 hz2 rfl (by decide) v ps.length (ints ps) hs (World.ownsRow.alloc hown _) ⟨wr.heap.size, 0, none⟩ 1 1 [.int .i64 x] hx rfl (cell_one_new _ _ _) ?_ ?_ ?_ ?_ ?_
  · intro u hu; simp at hu; subst hu; rfl
  · unfold maxLen; omega
  · omega
  · simp; omega
  · intro v' w' h1 h2 h3 h4
    refine h v' w' ?_ ⟨(World.grownBy_alloc wr _ _).trans h2, ?_⟩
    · unfold OwnL; rw [List.length_append]; simpa [ints] using h1
    · rcases h4 with h4 | h4
      · exact .inl h4
      · refine .inr ⟨_, h4, by simp, ?_⟩
        exact ((World.ownsRow.lt h1) _ h4).2
section
attribute [local go_sem] Oper.semAt_some

def NewL (w : World) (l : List Int) (e : Ending) (w' : World) : Prop := ∃ a c, e = .returned (.slice a l.length c) ∧ OwnL w' w.heap.size (.slice a l.length c) l ∧ Below w.heap.size w w'

set_option maxRecDepth 100000 in
set_option maxHeartbeats 2000000 in
theorem x_AppendSeqI {xs : List Int} {gf : Nat} {lb : Array Value} {n₀ K : Nat} {w0 w : World} (eg : ∀ args w, (callFunc gf args).run Try.prog w = .ok (.enter gf args) w)
    (hseq : SeqO Try.prog gf lb (fun x : Int => #[.int .i64 x]) xs n₀ 0 0 K w0) (hn₀ : n₀ ≤ w.heap.size) (hb0 : Below n₀ w0 w) (hl : xs.length ≤ 1048576) :
    Calls Try.prog 173 #[.slice none 0 0, .func (.func gf) #[] lb] w (NewL w xs) := by
  refine (callsIn_wide (n := 3)).1 ?_
  refine callsIn_of_wp_marks Try.func173 rfl trivial ?_ rfl
  simp only [Try.ntmps173, List.size_toArray, List.length_cons, List.length_nil, Nat.reduceAdd, Nat.reduceSub, Array.replicate_succ, Array.replicate_zero, List.push_toArray, List.append_toArray, List.nil_append, List.cons_append]
  gi_wp2
  have hbox := heap_alloc_new w (.cells #[.slice none 0 0] 22)
  have hbW := (Below.refl w.heap.size w).alloc (Nat.le_refl _) (.cells #[.slice none 0 0] 22)
  have hbn : Below n₀ w0 (w.alloc (.cells #[.slice none 0 0] 22)) := hb0.trans (hbW.mono hn₀)
  obtain ⟨W, hW⟩ : ∃ W, w.alloc (.cells #[.slice none 0 0] 22) = W := ⟨_, rfl⟩
  have hWs : W.heap.size = w.heap.size + 1 := by rw [← hW]; simp
  rw [hW] at hbox hbW hbn ⊢
  clear hW
  refine wpIn_rangeO (gf := gf) (lb := lb) rfl eg hseq (by omega) (Nat.zero_le _) hbn (fun _ => rfl)
    (fun pre A => ∃ v, A.heap[w.heap.size]? = some (.cells #[v] 22 (0, 0)) ∧ OwnL A (W.heap.size + 2 + K) v pre ∧ Below w.heap.size w A ∧ W.heap.size ≤ A.heap.size) (fun _ _ _ => False)
    ?hI (fun _ _ _ _ h _ => h) ⟨_, hbox, OwnL.nil _ _, hbW, Nat.le_refl _⟩ 
    (fun x a' A => a' = { tmps := #[.slice none 0 0, .func (.func gf) #[] lb, .pointer (some ⟨w.heap.size, 0, none⟩), undef, .slice none 0 0, .int .i64 x, .func (.func gf) #[] lb, .int .i64 x, undef, undef, undef, undef, undef], defers := [] }) ?hAx ?assign ?body ?done ?stop
  case hI =>
    rintro pre A A' ⟨v, hv, hown, hbw, hsz⟩ hu
    have hlt := ownL_lt hown
    refine ⟨v, (hu.block _ (by omega) (.inr (Nat.zero_le _)) (.inl (by omega))).trans hv, ownL_kept hown fun k hk hg => hu.block k hk (.inr (Nat.zero_le _)) (.inr (hlt k hg).1), hbw.trans (hu.below (by omega) (by omega)), by have := hu.size; omega⟩
  case hAx =>
    rintro x a' A A' rfl hu
    rfl
  case assign =>
    rintro l pre x A Kk ⟨v, hv, hown, hbw, hsz⟩ hsz2 hK
    gi_wp2
    exact hK _ _ (Ke.refl _ _ _) (Below.refl _ _) ⟨v, hv, hown, hbw, hsz⟩ rfl
  case body =>
    rintro l pre x a' A ⟨v, hv, hown, hbw, hsz⟩ rfl hpre hsz2
    have hpl : pre.length ≤ 1048576 := by have := hpre.length_le; simp at this; omega
    obtain ⟨av, cv, rfl, _⟩ := hown.slice
    have hcv := cell_of_row _ _ 0 _ _ _ hv
    simp at hcv
    have hfv := frozen5 hv 0
    have hlt := ownL_lt hown
    have hvs : ∀ w5 v5, GrP A w5 (.slice av pre.length cv) v5 → w5.heap[w.heap.size]? = some (.cells #[.slice av pre.length cv] 22 (0, 0)) := fun w5 v5 hg =>
      (hg.gr.block _ (by omega) (fun e => by have := (hlt _ e.symm).1; omega)).trans hv
    gi_wp2_with (gi_at_builtin; refine wpListIn_appI rfl _ _ rfl (W.heap.size + 2 + K) (.slice av pre.length cv) pre rfl hown x _ rfl rfl (by omega) (by omega) ?_; intro v5 w5 hown5 hg5; obtain ⟨a5, c5, rfl, _⟩ := hown5.slice; have hv5 := hvs _ _ hg5; have hcv5 := cell_of_row _ _ 0 _ _ _ hv5; simp at hcv5; have hfv5 := frozen5 hv5 0)
    have hs5 := hg5.gr.size
    have hlt5 := ownL_lt hown5
    have hbel : Below (W.heap.size + 2 + K) A w5 := hg5.below (fun g hg => (hlt g hg).1) hsz2
    have hrow : (w5.setCell ⟨w.heap.size, 0, none⟩ (.slice a5 (pre.length + 1) c5)).heap[w.heap.size]? = some (.cells #[.slice a5 (pre.length + 1) c5] 22 (0, 0)) := by
      simp only [World.setCell, Array.getElem?_modify, if_true]; rw [hv5]; rfl
    refine ⟨(Ke.ofBelow hbel (Nat.le_refl _)).trans fun k k1 k2 => Below.heap_setCell _ _ _ _ (by simp; omega), (hbel.mono (by omega)).setCell (p := ⟨w.heap.size, 0, none⟩) hn₀ _, _, hrow, ?_, ((hbw.trans (hbel.mono (by omega))).setCell (p := ⟨w.heap.size, 0, none⟩) (Nat.le_refl _) _), by simp [World.setCell]; omega⟩
    have hown6 := ownL_kept (w' := w5.setCell ⟨w.heap.size, 0, none⟩ (.slice a5 (pre.length + 1) c5)) hown5 fun k hk hg => Below.heap_setCell _ _ _ _ (by have := (hlt5 k hg).1; simp; omega)
    simpa using hown6
  case done =>
    rintro D A hD1 hD2 ⟨v, hv, hown, hbw, hsz⟩ hk
    obtain ⟨av, cv, rfl, _⟩ := hown.slice
    have hlt := ownL_lt hown
    have hcv := cell_of_row _ _ 0 _ _ _ hv
    simp at hcv
    gi_wp2
    refine ⟨by simp, .inl ⟨_, _, rfl, run_takeDeferred hk, ?_⟩⟩
    have hDA := (Array.getElem?_eq_some_iff.1 hk).1
    refine ⟨_, results_tmp rfl _ _ _, _, _, rfl, ownL_base (ownL_kept hown fun k hk hg => World.putObj_heap_other ?_) (by omega), hbw.trans ⟨rfl, rfl, rfl, by simp, fun k hk => World.putObj_heap_other (by omega)⟩⟩
    have := (hlt k hg).1
    omega
  case stop =>
    rintro D c pre A _ _ _ h _
    exact h.elim

theorem x_CollectI {xs : List Int} {gf : Nat} {lb : Array Value} {n₀ K : Nat} {w0 w : World} (eg : ∀ args w, (callFunc gf args).run Try.prog w = .ok (.enter gf args) w)
    (hseq : SeqO Try.prog gf lb (fun x : Int => #[.int .i64 x]) xs n₀ 0 0 K w0) (hn₀ : n₀ ≤ w.heap.size) (hb0 : Below n₀ w0 w) (hl : xs.length ≤ 1048576) :
    Calls Try.prog 149 #[.func (.func gf) #[] lb] w (NewL w xs) := by
  go_enter Try.func149, Try.ntmps149
  go_wp2_with fail
  refine (x_AppendSeqI eg hseq hn₀ hb0 hl).mono ?_
  rintro e w' ⟨av, cv, rfl, hown, hb⟩
  go_wp2
  go_ret
  exact ⟨_, _, rfl, hown, hb⟩

end

/- Plain facts of a sort by insertion. -/
/-- the first i + 1 numbers are in order but for the one at j, which is less than those behind it -/
def insJ (T : List Int) (i j : Nat) : Prop := (∀ p q x y, T[p]? = some x → T[q]? = some y → p < q → q ≤ i → p ≠ j → q ≠ j → x ≤ y) ∧ ∀ q x y, T[j]? = some x → T[q]? = some y → j < q → q ≤ i → x ≤ y
def insS (T : List Int) (i : Nat) : Prop := ∀ p q x y, T[p]? = some x → T[q]? = some y → p < q → q < i → x ≤ y
theorem insS_one (T : List Int) : insS T 1 := fun p q x y _ _ h1 h2 => by omega
theorem insS_zero (T : List Int) : insS T 0 := fun p q x y _ _ h1 h2 => by omega
theorem insJ_start {T : List Int} {i : Nat} (h : insS T i) : insJ T i i := ⟨fun p q x y hx hy h1 h2 h3 h4 => h p q x y hx hy h1 (by omega), fun q x y _ _ h1 h2 => by omega⟩
/-- two neighbours change places -/
def swJ (T : List Int) (j : Nat) (x y : Int) : List Int := (T.set (j + 1) x).set j y
theorem swJ_at {T : List Int} {j : Nat} {x y : Int} (hx : T[j]? = some x) (hy : T[j + 1]? = some y) (p : Nat) : (swJ T j x y)[p]? = if p = j then some y else if p = j + 1 then some x else T[p]? := by
  unfold swJ
  have h1 := (List.getElem?_eq_some_iff.1 hy).1
  by_cases h : p = j
  · subst h; rw [if_pos rfl, List.getElem?_set_self (by rw [List.length_set]; omega)]
  · rw [if_neg h, List.getElem?_set_ne (by omega)]
    by_cases h2 : p = j + 1
    · subst h2; rw [if_pos rfl, List.getElem?_set_self (by omega)]
    · rw [if_neg h2, List.getElem?_set_ne (by omega)]
theorem swJ_perm {T : List Int} {j : Nat} {x y : Int} (hx : T[j]? = some x) (hy : T[j + 1]? = some y) : (swJ T j x y).Perm T := by
  have e : T = T.take j ++ x :: y :: T.drop (j + 2) := by
    obtain ⟨h1, e1⟩ := List.getElem?_eq_some_iff.1 hx
    obtain ⟨h2, e2⟩ := List.getElem?_eq_some_iff.1 hy
    conv => lhs; rw [← List.take_append_drop j T, List.drop_eq_getElem_cons h1, List.drop_eq_getElem_cons h2, e1, e2]
  have e2 : swJ T j x y = T.take j ++ y :: x :: T.drop (j + 2) := by
    have hj : (T.take j).length = j := by rw [List.length_take]; have := (List.getElem?_eq_some_iff.1 hx).1; omega
    apply List.ext_getElem?
    intro p
    rw [swJ_at hx hy]
    by_cases h : p < j
    · rw [if_neg (by omega), if_neg (by omega), List.getElem?_append_left (by omega), List.getElem?_take_of_lt h]
    · rw [List.getElem?_append_right (by omega), hj]
      by_cases h0 : p = j
      · subst h0; simp
      · rw [if_neg h0]
        by_cases h1 : p = j + 1
        · subst h1; rw [if_pos rfl]; simp
        · rw [if_neg h1]
          obtain ⟨d, hd⟩ : ∃ d, p - j = d + 2 := ⟨p - j - 2, by omega⟩
          rw [hd, List.getElem?_cons_succ, List.getElem?_cons_succ, List.getElem?_drop]; congr 1; omega
  rw [e2]
  conv => rhs; rw [e]
  exact (List.Perm.swap x y _).append_left _
theorem insJ_step {T : List Int} {i j : Nat} {x y : Int} (h : insJ T i (j + 1)) (hx : T[j]? = some x) (hy : T[j + 1]? = some y) (hlt : y < x) (hj : j + 1 ≤ i) : insJ (swJ T j x y) i j := by
  refine ⟨fun p q u v hu hv h1 h2 h3 h4 => ?_, fun q u v hu hv h1 h2 => ?_⟩
  · rw [swJ_at hx hy, if_neg h3] at hu
    rw [swJ_at hx hy, if_neg h4] at hv
    by_cases hp : p = j + 1
    · rw [if_pos hp] at hu
      cases hu
      rw [if_neg (by omega)] at hv
      exact h.1 j q x v hx hv (by omega) h2 (by omega) (by omega)
    · rw [if_neg hp] at hu
      by_cases hq : q = j + 1
      · rw [if_pos hq] at hv
        cases hv
        exact h.1 p j u x hu hx (by omega) (by omega) hp (by omega)
      · rw [if_neg hq] at hv
        exact h.1 p q u v hu hv h1 h2 hp hq
  · rw [swJ_at hx hy, if_pos rfl] at hu
    cases hu
    rw [swJ_at hx hy, if_neg (by omega)] at hv
    by_cases hq : q = j + 1
    · rw [if_pos hq] at hv; cases hv; omega
    · rw [if_neg hq] at hv
      exact h.2 q y v hy hv (by omega) h2
theorem insJ_zero {T : List Int} {i : Nat} (h : insJ T i 0) : insS T (i + 1) := fun p q x y hx hy h1 h2 => by
  by_cases hp : p = 0
  · subst hp; exact h.2 q x y hx hy h1 (by omega)
  · exact h.1 p q x y hx hy h1 (by omega) hp (by omega)
theorem insJ_done {T : List Int} {i j : Nat} {x y : Int} (h : insJ T i (j + 1)) (hx : T[j]? = some x) (hy : T[j + 1]? = some y) (hle : x ≤ y) : insS T (i + 1) := fun p q u v hu hv h1 h2 => by
  by_cases hp : p = j + 1
  · subst hp; rw [hy] at hu; cases hu; exact h.2 q y v hy hv h1 (by omega)
  · by_cases hq : q = j + 1
    · subst hq
      rw [hy] at hv; cases hv
      by_cases hpj : p = j
      · subst hpj; rw [hx] at hu; cases hu; exact hle
      · have := h.1 p j u x hu hx (by omega) (by omega) hp (by omega); omega
    · exact h.1 p q u v hu hv h1 (by omega) hp hq
theorem insS_pair {T : List Int} (h : insS T T.length) : T.Pairwise (· ≤ ·) := by
  rw [List.pairwise_iff_getElem]
  intro i j hi hj hij
  exact h i j _ _ (List.getElem?_eq_getElem hi) (List.getElem?_eq_getElem hj) hij hj

/- Walks: slices.Sorted of few numbers. -/
open Go.RowKit

set_option maxHeartbeats 1000000 in
theorem x_isNaNI {x : Int} {w : World} : Calls Try.prog 196 #[.int .i64 x] w (RO w (.bool false)) := by
  have hx : (x != x) = false := by simp
  go_enter Try.func196, Try.ntmps196
  go_wp2
  go_ret
  exact ⟨rfl, Dr.refl _⟩
set_option maxHeartbeats 1000000 in
theorem x_LessI {x y : Int} {w : World} : Calls Try.prog 186 #[.int .i64 x, .int .i64 y] w (RO w (.bool (decide (x < y)))) := by
  cases hxy : decide (x < y)
  · go_enter Try.func186, Try.ntmps186
    go_wp2_with fail
    refine (x_isNaNI (x := x)).mono ?_
    rintro e w1 ⟨rfl, d1⟩
    go_wp2
    go_ret
    exact ⟨rfl, d1⟩
  · go_enter Try.func186, Try.ntmps186
    go_wp2_with fail
    refine (x_isNaNI (x := x)).mono ?_
    rintro e w1 ⟨rfl, d1⟩
    go_wp2
    go_ret
    exact ⟨rfl, d1⟩

def SoP (l : List Int) (b o lo hi : Nat) (w : World) (e : Ending) (w' : World) : Prop := ∃ S : List Int, e = .returned (.tuple #[]) ∧ S.Perm l ∧ S.Pairwise (· ≤ ·) ∧ OI w' lo hi (some ⟨b, o, none⟩) S ∧ Upd lo hi w w' ∧ w.heap.size = w'.heap.size

set_option maxRecDepth 100000 in
set_option maxHeartbeats 4000000 in
theorem x_insertI {l : List Int} {b o c lo hi : Nat} {w : World} (hm : OI w lo hi (some ⟨b, o, none⟩) l) (h0 : 0 < l.length) (hl : l.length ≤ 12) (hhi : hi ≤ w.heap.size) :
    Calls Try.prog 180 #[.slice (some ⟨b, o, none⟩) l.length c, .int .i64 0, .int .i64 (l.length : Int)] w (SoP l b o lo hi w) := by
  obtain ⟨M, hM⟩ : ∃ M, l.length = M := ⟨_, rfl⟩
  have HM := Lib.hid hM
  rw [hM] at hl h0 ⊢
  have hP0 : Hid (l.Perm l) := List.Perm.refl _
  have hS1 : Hid (insS l 1) := insS_one l
  clear hM
  go_enter Try.func180, Try.ntmps180
  go_wp2
  go_loopw [6, 7] (fun i _ wr => ∃ (k : Nat) (S : List Int), k ≤ M ∧ 1 ≤ k ∧ i = .int .i64 k ∧ Hid (S.Perm l) ∧ Hid (insS S k) ∧ OI wr lo hi (some ⟨b, o, none⟩) S ∧ Upd lo hi w wr ∧ w.heap.size = wr.heap.size) (fun i _ _ => M - (intOf i).toNat)
  case atStart => exact ⟨1, l, h0, Nat.le_refl _, rfl, hP0, hS1, hm, Upd.refl _ _ _, rfl⟩
  case round =>
    clear hm hP0 hS1
    obtain ⟨k, S, hk, hk1, rfl, HP, HS, ho, hu, hsz⟩ := hrel
    by_cases hlt : k < M
    · have hJ0 : Hid (insJ S k k) := insJ_start HS.out
      have HSZ := Lib.hid hsz
      clear hsz
      go_wp2
      go_loopw [7] (fun j wr => ∃ (q : Nat) (T : List Int), q ≤ k ∧ j = .int .i64 q ∧ Hid (T.Perm l) ∧ Hid (insJ T k q) ∧ OI wr lo hi (some ⟨b, o, none⟩) T ∧ Upd lo hi w wr ∧ Hid (w.heap.size = wr.heap.size)) (fun j _ => (intOf j).toNat)
      case atStart => exact ⟨k, S, Nat.le_refl _, rfl, HP, hJ0, ho, hu, HSZ⟩
      case round =>
        clear hJ0 ho hu HSZ HP HS
        obtain ⟨q, T, hq, rfl, HP, HJ, ho, hu, HSZ⟩ := hrel
        have hTl : Hid (T.length = M) := by show _ = _; rw [HP.out.length_eq]; exact HM.out
        by_cases hq0 : q = 0
        · subst hq0
          have hS2 : Hid (insS T (k + 1)) := insJ_zero HJ.out
          go_wp2_with fail
          go_quiet (fail)
          go_wp2
          go_roundw
          case rel => exact ⟨k + 1, T, by omega, by omega, by go_num, HP, hS2, ho, hu.trans ⟨rfl, rfl, rfl, Nat.le_refl _, fun _ _ _ => rfl⟩, HSZ.out⟩
          case measure => simp [intOf]; omega
        obtain ⟨p, rfl⟩ : ∃ p, q = p + 1 := ⟨q - 1, by omega⟩
        obtain ⟨b1, o1, e1, hb1, hb2, ⟨x, hx, hc1⟩, hf1⟩ := ho p (by have := hTl.out; omega)
        obtain ⟨b2, o2, e2, _, _, ⟨y, hy, hc2⟩, hf2⟩ := ho (p + 1) (by have := hTl.out; omega)
        obtain ⟨rfl, rfl⟩ : b = b1 ∧ o = o1 := by simpa using e1
        obtain ⟨rfl, rfl⟩ : b = b2 ∧ o = o2 := by simpa using e2
        have HX := Lib.hid hx
        have HY := Lib.hid hy
        have hpM : p + 1 < M := by omega
        have hi1 := idxI (a := some ⟨b, o, none⟩) rfl (show p < M by omega) c
        have hi2 := idxI (a := some ⟨b, o, none⟩) rfl hpM c
        have hw : IntKind.i64.wrap (((p + 1 : Nat) : Int) - 1) = (p : Int) := by rw [IntWalk.i64_in _ (by omega)]; omega
        have hgt : decide ((0 : Int) < ((p + 1 : Nat) : Int)) = true := decide_eq_true (by omega)
        have hgt2 : decide (0 < p + 1) = true := decide_eq_true (by omega)
        obtain ⟨Q, hQ⟩ : ∃ Q, p + 1 = Q := ⟨_, rfl⟩
        rw [hQ] at hc2 hf2 hi2 hw hgt hgt2
        have HQ := Lib.hid hQ
        have hQM : Q < M := by omega
        have hQk : Q ≤ k := by omega
        rw [hQ]
        clear e1 e2 hx hy hQ
        by_cases hxy : y < x
        · have hd : decide (y < x) = true := decide_eq_true hxy
          have hJ2 : Hid (insJ (swJ T p x y) k p) := insJ_step HJ.out HX.out HY.out hxy (by have := HQ.out; omega)
          have hP2 : Hid ((swJ T p x y).Perm l) := (swJ_perm HX.out HY.out).trans HP.out
          have hs1 := ho.set (show p + 1 < T.length by have := hTl.out; have := HQ.out; omega) x
          have hs2 := OI.set hs1 (show p < (T.set (p + 1) x).length by rw [List.length_set]; have := hTl.out; omega) y
          rw [HQ.out] at hs2
          have HS2 : Hid (OI ((wr.setCell ⟨b, o + Q, none⟩ (.int .i64 x)).setCell ⟨b, o + p, none⟩ (.int .i64 y)) lo hi (some ⟨b, o, none⟩) (swJ T p x y)) := by
            show OI _ _ _ _ _
            unfold swJ
            rw [HQ.out]; exact hs2
          have hne : o + Q ≠ o + p := by have := HQ.out; omega
          have HC := Lib.hid (fun nn => x_LessI (x := y) (y := x) (w := wr.drewN nn))
          rw [hd] at HC
          clear hs1 hs2 ho hxy
          go_wp2_with fail
          go_quiet (exact Calls.quiet_of (HC.out _))
          go_wp2_with fail
          go_region
          go_wp2
          go_roundw
          case rel => exact ⟨p, swJ T p x y, by omega, by go_num, hP2, hJ2, HS2.out.same fun _ _ _ => rfl, ((hu.setCell (p := ⟨b, o + Q, none⟩) hb1 hb2 _).setCell (p := ⟨b, o + p, none⟩) hb1 hb2 _).trans ⟨rfl, rfl, rfl, Nat.le_refl _, fun _ _ _ => rfl⟩, HSZ.out.trans (by show _ = ((wr.setCell _ _).setCell _ _).heap.size; simp [World.setCell])⟩
          case measure => have := HQ.out; simp [intOf]; omega
        · have hd : decide (y < x) = false := decide_eq_false hxy
          have hS2 : Hid (insS T (k + 1)) := insJ_done HJ.out HX.out HY.out (by omega)
          have HC := Lib.hid (fun nn => x_LessI (x := y) (y := x) (w := wr.drewN nn))
          rw [hd] at HC
          clear hxy
          go_wp2_with fail
          go_quiet (exact Calls.quiet_of (HC.out _))
          go_wp2
          go_roundw
          case rel => exact ⟨k + 1, T, by omega, by omega, by go_num, HP, hS2, ho, hu.trans ⟨rfl, rfl, rfl, Nat.le_refl _, fun _ _ _ => rfl⟩, HSZ.out⟩
          case measure => simp [intOf]; omega
    · have hkM : k = M := by omega
      have hfin : Hid (S.Pairwise (· ≤ ·)) := insS_pair (by have h := HS.out; rw [hkM] at h; rw [HP.out.length_eq, HM.out]; exact h)
      clear hkM
      go_wp2
      go_end0
      exact ⟨S, rfl, HP.out, hfin.out, ho, hu, hsz⟩

/- Walks: slices.Sorted of few numbers; the sort behind it. -/
open Go.RowKit

def SomeN (w : World) (e : Ending) (w' : World) : Prop := ∃ v : Int, e = .returned (.int .i64 v) ∧ w' = w
set_option maxRecDepth 100000 in
set_option maxHeartbeats 2000000 in
theorem x_Len64 {n : Nat} {w : World} (h : n = 1 ∨ n = 2 ∨ n = 3 ∨ n = 4 ∨ n = 5) : Calls Try.prog 190 #[.int .u64 (n : Int)] w (SomeN w) := by
  rcases h with rfl | rfl | rfl | rfl | rfl
  all_goals
    go_enter Try.func190, Try.ntmps190
    go_wp2
    go_ret
    exact ⟨_, rfl, rfl⟩
set_option maxRecDepth 100000 in
set_option maxHeartbeats 2000000 in
theorem x_Len {n : Nat} {w : World} (h : n = 1 ∨ n = 2 ∨ n = 3 ∨ n = 4 ∨ n = 5) : Calls Try.prog 175 #[.int .u64 (n : Int)] w (SomeN w) := by
  go_enter Try.func175, Try.ntmps175
  go_wp2_with fail
  refine (x_Len64 h).mono ?_
  rintro e w1 ⟨v, rfl, rfl⟩
  go_wp2
  go_ret
  exact ⟨v, rfl, rfl⟩

set_option maxRecDepth 100000 in
set_option maxHeartbeats 4000000 in
theorem x_pdqI {l : List Int} {b o c lo hi : Nat} {z : Int} {w : World} (hm : OI w lo hi (some ⟨b, o, none⟩) l) (h0 : 0 < l.length) (hl : l.length ≤ 12) (hhi : hi ≤ w.heap.size) :
    Calls Try.prog 174 #[.slice (some ⟨b, o, none⟩) l.length c, .int .i64 0, .int .i64 (l.length : Int), .int .i64 z] w (SoP l b o lo hi w) := by
  have hle : decide ((l.length : Int) ≤ 12) = true := decide_eq_true (by omega)
  go_enter Try.func174, Try.ntmps174
  go_wp2
  go_loopw [1, 2, 3, 8, 9, 10] (fun a1 b1 _ _ _ _ wr => a1 = .int .i64 0 ∧ b1 = .int .i64 (l.length : Int) ∧ wr = w) (fun _ _ _ _ _ _ _ => 0)
  case atStart => exact ⟨rfl, rfl, rfl⟩
  case round =>
    obtain ⟨rfl, rfl, rfl⟩ := hrel
    go_wp2_with fail
    refine (x_insertI hm h0 hl hhi).mono ?_
    rintro e w1 ⟨S, rfl, h1, h2, h3, h4, h5⟩
    go_wp2
    go_end0
    exact ⟨S, rfl, h1, h2, h3, h4, h5⟩

set_option maxRecDepth 100000 in
set_option maxHeartbeats 2000000 in
theorem x_SortI {l : List Int} {b o c lo hi : Nat} {w : World} (hm : OI w lo hi (some ⟨b, o, none⟩) l) (h0 : 0 < l.length) (hl : l.length ≤ 5) (hhi : hi ≤ w.heap.size) :
    Calls Try.prog 150 #[.slice (some ⟨b, o, none⟩) l.length c] w (SoP l b o lo hi w) := by
  go_enter Try.func150, Try.ntmps150
  go_wp2_with fail
  refine (x_Len (n := l.length) (by omega)).mono ?_
  rintro e w1 ⟨v, rfl, rfl⟩
  go_wp2_with fail
  refine (x_pdqI hm h0 (by omega) hhi).mono ?_
  rintro e w1 ⟨S, rfl, h1, h2, h3, h4, h5⟩
  go_wp2
  go_end0
  exact ⟨S, rfl, h1, h2, h3, h4, h5⟩

end Go.Proofs.Ytbdbfbobcdepgaa
