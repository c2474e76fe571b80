/- Walks: slices.Values of numbers, and slices.Collect of what it gives. -/
import Derived.Test.YtehoagbpgahopaaZg
import Derived.Test.YtehoagbpgahopaaOwnL
import Derived.Test.YtehoagbpgahopaaTc
import Derived.Test.YtehoagbpgahopaaWi
import Derived.Test.YtehoagbpgahopaaYl
namespace Go.Proofs.Ytehoagbpgahopaa
open Go.RowKit Go.Shelf

theorem ownL_lt {w : World} {B : Nat} {v : Value} {l : List Int} (h : OwnL w B v l) : ∀ g, v.ownBlock = some g → B ≤ g ∧ g < w.heap.size := World.ownsRow.lt h
theorem ownL_kept {w w' : World} {B : Nat} {v : Value} {l : List Int} (h : OwnL w B v l) (hb : ∀ k, k < w.heap.size → v.ownBlock = some k → w'.heap[k]? = w.heap[k]?) : OwnL w' B v l := by
  have hlt := ownL_lt h
  obtain ⟨h1, h2⟩ := h
  refine ⟨h1, ?_⟩
  rcases h2 with h2 | ⟨g, cap, cur, rfl, hB, hg, rest⟩
  · exact .inl h2
  · exact .inr ⟨g, cap, cur, rfl, hB, by rw [hb g (hlt g rfl).2 rfl]; exact hg, rest⟩
theorem ownL_base {w : World} {B B' : Nat} {v : Value} {l : List Int} (h : OwnL w B v l) (hB : B' ≤ B) : OwnL w B' v l := by
  refine ⟨h.1, ?_⟩
  rcases h.2 with h1 | ⟨g, cap, cur, e, h2, h3⟩
  · exact .inl h1
  · exact .inr ⟨g, cap, cur, e, by omega, h3⟩

theorem x_ValuesI {a : Option Addr} {n c : Nat} {w : World} :
    Calls Try.prog 159 #[.slice a n c] w (fun e w' => e = .returned (.func (.func 235) #[] #[.pointer (some ⟨w.heap.size, 0, none⟩)]) ∧ w' = w.alloc (.cells #[.slice a n c] 23)) := by
  go_enter Try.func159, Try.ntmps159
  go_wp2
  go_ret
  exact ⟨rfl, rfl⟩

set_option maxRecDepth 100000 in
set_option maxHeartbeats 2000000 in
theorem valuesI_seq {xs : List Int} {a : Option Addr} {c lo hi b n₀ : Nat} {w0 w : World} (ho : RI w0 lo hi a xs) (hhi : hi ≤ w0.heap.size) (hb0 : Below w0.heap.size w0 w) (hn0 : w0.heap.size ≤ n₀) (hl : xs.length ≤ 1048576) (hb : w.heap[b]? = some (.cells #[.slice a xs.length c] 23 (0, 0))) (hbn : b < n₀) (hn : n₀ ≤ w.heap.size) :
    SeqO Try.prog 235 #[.pointer (some ⟨b, 0, none⟩)] (fun x : Int => #[.int .i64 x]) xs n₀ 0 0 0 w := by
  intro n l J Jx W hW hJ hY h0
  obtain ⟨M, hM⟩ : ∃ M, xs.length = M := ⟨_, rfl⟩
  have HNN := Lib.hid hM
  have HO := Lib.hid ho
  have hMl : M ≤ 1048576 := by omega
  rw [hM] at hb
  have hws := hW.size
  have hcb : W.cell? ⟨b, 0, none⟩ = some (.slice a M c) := by
    rw [cell_of_row _ _ 0 _ _ _ ((hW.block b hbn).trans hb)]; rfl
  clear ho hM hl
  refine callsIn_of_wp Try.func235 rfl trivial ?_ rfl
  simp only [Try.ntmps235, List.size_toArray, List.length_cons, List.length_nil, Nat.reduceAdd, Nat.reduceSub, Array.replicate_succ, Array.replicate_zero, List.push_toArray, List.append_toArray, List.nil_append, List.cons_append]
  gi_wp2
  gi_loopw [7] (fun i wr => ∃ k : Nat, k ≤ M ∧ i = .int .i64 k ∧ J (xs.take k) wr ∧ Below n₀ w wr ∧ W.heap.size ≤ wr.heap.size) (fun i _ => M - (intOf i).toNat)
  case atStart => exact ⟨0, Nat.zero_le _, rfl, by simpa using h0, hW, Nat.le_refl _⟩
  case round =>
    obtain ⟨k, hk, rfl, hj, hbw, hsz⟩ := hrel
    by_cases hlt : k < M
    · have hbx : Below w0.heap.size w0 wr := hb0.trans (hbw.mono hn0)
      have hkx : k < xs.length := by have := HNN.out; omega
      obtain ⟨b1, o1, x, ha, _, _, hc, hx⟩ := (HO.out.below hbx hhi).at hkx
      have hidx := idxI ha hlt c
      obtain ⟨fn, tmps, assign, body, hy, hR⟩ := hY (xs.take k) x wr hj (by rw [← take_snoc hx.out]; exact List.take_prefix _ _) (by omega)
      rw [← take_snoc hx.out] at hR
      try dsimp only at hy
      clear ha hx
      gi_wp2
      refine hR.mono ?_
      rintro e W3 (⟨rfl, hj3, hk3, hb3⟩ | ⟨rfl, hx3⟩)
      · clear hR hy hc
        have hz3 := hb3.size
        have hbw3 := hbw.trans hb3
        gi_wp2
        go_roundw
        case rel => exact ⟨k + 1, by omega, by go_num, hj3, hbw3, by omega⟩
        case measure => simp [intOf]; omega
      · gi_wp2
        refine bodyPost_ret (results_none rfl _ _ _) rfl ?_
        exact ⟨⟨_, rfl⟩, .inr ⟨_, List.take_prefix _ _, hx3⟩⟩
    · gi_wp2
      go_end0
      rw [List.take_of_length_le (by have := HNN.out; omega)] at hj
      exact ⟨⟨_, rfl⟩, .inl hj⟩

theorem wpListIn_appI {F : Fence} {n : Nat} {wr : World} {ops : Array Oper} {rest : List Oper} {o : Oper} {a : Act} {Q : Exit → Act → World → Prop} (hgd : o.guard = none) (s t : Operand)
    (ho : o.op = .call { callee := .builtin .append, args := #[s, t], argTypes := #[23, 23] }) (B : Nat) (v : Value) (ps : List Int) (hs : a.eval s = v) (hown : OwnL wr B v ps) (x : Int)
    (nw : Nat) (hx : a.eval t = .slice (some ⟨nw, 0, none⟩) 1 1) (hnw : nw = wr.heap.size) (hl : ps.length ≤ 1099511627776) (hB : B ≤ wr.heap.size)
    (h : ∀ v' w', OwnL w' B v' (ps ++ [x]) → GrP wr w' v v' → wpListIn F n Try.prog ops Q rest (a.put o.dst v') w') : wpListIn F n Try.prog ops Q (o :: rest) a (wr.alloc (.cells #[.int .i64 x] 3)) := by
  subst hnw
  obtain ⟨i0, hi, hz0, hz1, hz2⟩ := info_parts infoInt
  have hlt := World.ownsRow.lt hown
  refine wpListIn_append_own_at _ hgd s t 23 ho B 3 i0 _ 1 8 undI hi hz0 hz1 hz2 rfl (by decide) v ps.length (ints ps) hs (World.ownsRow.alloc hown _) ⟨wr.heap.size, 0, none⟩ 1 1 [.int .i64 x] hx rfl (cell_one_new _ _ _) ?_ ?_ ?_ ?_ ?_
  · intro u hu; simp at hu; subst hu; rfl
  · unfold maxLen; omega
  · omega
  · simp; omega
  · intro v' w' h1 h2 h3 h4
    refine h v' w' ?_ ⟨(World.grownBy_alloc wr _ _).trans h2, ?_⟩
    · unfold OwnL; rw [List.length_append]; simpa [ints] using h1
    · rcases h4 with h4 | h4
      · exact .inl h4
      · refine .inr ⟨_, h4, by simp, ?_⟩
        exact ((World.ownsRow.lt h1) _ h4).2
section
attribute [local go_sem] Oper.semAt_some

def NewL (w : World) (l : List Int) (e : Ending) (w' : World) : Prop := ∃ a c, e = .returned (.slice a l.length c) ∧ OwnL w' w.heap.size (.slice a l.length c) l ∧ Below w.heap.size w w'

set_option maxRecDepth 100000 in
set_option maxHeartbeats 2000000 in
theorem x_AppendSeqI {xs : List Int} {gf : Nat} {lb : Array Value} {n₀ K : Nat} {w0 w : World} (eg : ∀ args w, (callFunc gf args).run Try.prog w = .ok (.enter gf args) w)
    (hseq : SeqO Try.prog gf lb (fun x : Int => #[.int .i64 x]) xs n₀ 0 0 K w0) (hn₀ : n₀ ≤ w.heap.size) (hb0 : Below n₀ w0 w) (hl : xs.length ≤ 1048576) :
    Calls Try.prog 250 #[.slice none 0 0, .func (.func gf) #[] lb] w (NewL w xs) := by
  refine (callsIn_wide (n := 3)).1 ?_
  refine callsIn_of_wp_marks Try.func250 rfl trivial ?_ rfl
  simp only [Try.ntmps250, List.size_toArray, List.length_cons, List.length_nil, Nat.reduceAdd, Nat.reduceSub, Array.replicate_succ, Array.replicate_zero, List.push_toArray, List.append_toArray, List.nil_append, List.cons_append]
  gi_wp2
  have hbox := heap_alloc_new w (.cells #[.slice none 0 0] 23)
  have hbW := (Below.refl w.heap.size w).alloc (Nat.le_refl _) (.cells #[.slice none 0 0] 23)
  have hbn : Below n₀ w0 (w.alloc (.cells #[.slice none 0 0] 23)) := hb0.trans (hbW.mono hn₀)
  obtain ⟨W, hW⟩ : ∃ W, w.alloc (.cells #[.slice none 0 0] 23) = W := ⟨_, rfl⟩
  have hWs : W.heap.size = w.heap.size + 1 := by rw [← hW]; simp
  rw [hW] at hbox hbW hbn ⊢
  clear hW
  refine wpIn_rangeO (gf := gf) (lb := lb) rfl eg hseq (by omega) (Nat.zero_le _) hbn (fun _ => rfl)
    (fun pre A => ∃ v, A.heap[w.heap.size]? = some (.cells #[v] 23 (0, 0)) ∧ OwnL A (W.heap.size + 2 + K) v pre ∧ Below w.heap.size w A ∧ W.heap.size ≤ A.heap.size) (fun _ _ _ => False)
    ?hI (fun _ _ _ _ h _ => h) ⟨_, hbox, OwnL.nil _ _, hbW, Nat.le_refl _⟩ 
    (fun x a' A => a' = { tmps := #[.slice none 0 0, .func (.func gf) #[] lb, .pointer (some ⟨w.heap.size, 0, none⟩), undef, .slice none 0 0, .int .i64 x, .func (.func gf) #[] lb, .int .i64 x, undef, undef, undef, undef, undef], defers := [] }) ?hAx ?assign ?body ?done ?stop
  case hI =>
    rintro pre A A' ⟨v, hv, hown, hbw, hsz⟩ hu
    have hlt := ownL_lt hown
    refine ⟨v, (hu.block _ (by omega) (.inr (Nat.zero_le _)) (.inl (by omega))).trans hv, ownL_kept hown fun k hk hg => hu.block k hk (.inr (Nat.zero_le _)) (.inr (hlt k hg).1), hbw.trans (hu.below (by omega) (by omega)), by have := hu.size; omega⟩
  case hAx =>
    rintro x a' A A' rfl hu
    rfl
  case assign =>
    rintro l pre x A Kk ⟨v, hv, hown, hbw, hsz⟩ hsz2 hK
    gi_wp2
    exact hK _ _ (Ke.refl _ _ _) (Below.refl _ _) ⟨v, hv, hown, hbw, hsz⟩ rfl
  case body =>
    rintro l pre x a' A ⟨v, hv, hown, hbw, hsz⟩ rfl hpre hsz2
    have hpl : pre.length ≤ 1048576 := by have := hpre.length_le; simp at this; omega
    obtain ⟨av, cv, rfl, _⟩ := hown.slice
    have hcv := cell_of_row _ _ 0 _ _ _ hv
    simp at hcv
    have hfv := frozen5 hv 0
    have hlt := ownL_lt hown
    have hvs : ∀ w5 v5, GrP A w5 (.slice av pre.length cv) v5 → w5.heap[w.heap.size]? = some (.cells #[.slice av pre.length cv] 23 (0, 0)) := fun w5 v5 hg =>
      (hg.gr.block _ (by omega) (fun e => by have := (hlt _ e.symm).1; omega)).trans hv
    gi_wp2_with (gi_at_builtin; refine wpListIn_appI rfl _ _ rfl (W.heap.size + 2 + K) (.slice av pre.length cv) pre rfl hown x _ rfl rfl (by omega) (by omega) ?_; intro v5 w5 hown5 hg5; obtain ⟨a5, c5, rfl, _⟩ := hown5.slice; have hv5 := hvs _ _ hg5; have hcv5 := cell_of_row _ _ 0 _ _ _ hv5; simp at hcv5; have hfv5 := frozen5 hv5 0)
    have hs5 := hg5.gr.size
    have hlt5 := ownL_lt hown5
    have hbel : Below (W.heap.size + 2 + K) A w5 := hg5.below (fun g hg => (hlt g hg).1) hsz2
    have hrow : (w5.setCell ⟨w.heap.size, 0, none⟩ (.slice a5 (pre.length + 1) c5)).heap[w.heap.size]? = some (.cells #[.slice a5 (pre.length + 1) c5] 23 (0, 0)) := by
      simp only [World.setCell, Array.getElem?_modify, if_true]; rw [hv5]; rfl
    refine ⟨(Ke.ofBelow hbel (Nat.le_refl _)).trans fun k k1 k2 => Below.heap_setCell _ _ _ _ (by simp; omega), (hbel.mono (by omega)).setCell (p := ⟨w.heap.size, 0, none⟩) hn₀ _, _, hrow, ?_, ((hbw.trans (hbel.mono (by omega))).setCell (p := ⟨w.heap.size, 0, none⟩) (Nat.le_refl _) _), by simp [World.setCell]; omega⟩
    have hown6 := ownL_kept (w' := w5.setCell ⟨w.heap.size, 0, none⟩ (.slice a5 (pre.length + 1) c5)) hown5 fun k hk hg => Below.heap_setCell _ _ _ _ (by have := (hlt5 k hg).1; simp; omega)
    simpa using hown6
  case done =>
    rintro D A hD1 hD2 ⟨v, hv, hown, hbw, hsz⟩ hk
    obtain ⟨av, cv, rfl, _⟩ := hown.slice
    have hlt := ownL_lt hown
    have hcv := cell_of_row _ _ 0 _ _ _ hv
    simp at hcv
    gi_wp2
    refine ⟨by simp, .inl ⟨_, _, rfl, run_takeDeferred hk, ?_⟩⟩
    have hDA := (Array.getElem?_eq_some_iff.1 hk).1
    refine ⟨_, results_tmp rfl _ _ _, _, _, rfl, ownL_base (ownL_kept hown fun k hk hg => World.putObj_heap_other ?_) (by omega), hbw.trans ⟨rfl, rfl, rfl, by simp, fun k hk => World.putObj_heap_other (by omega)⟩⟩
    have := (hlt k hg).1
    omega
  case stop =>
    rintro D c pre A _ _ _ h _
    exact h.elim

theorem x_CollectI {xs : List Int} {gf : Nat} {lb : Array Value} {n₀ K : Nat} {w0 w : World} (eg : ∀ args w, (callFunc gf args).run Try.prog w = .ok (.enter gf args) w)
    (hseq : SeqO Try.prog gf lb (fun x : Int => #[.int .i64 x]) xs n₀ 0 0 K w0) (hn₀ : n₀ ≤ w.heap.size) (hb0 : Below n₀ w0 w) (hl : xs.length ≤ 1048576) :
    Calls Try.prog 233 #[.func (.func gf) #[] lb] w (NewL w xs) := by
  go_enter Try.func233, Try.ntmps233
  go_wp2_with fail
  refine (x_AppendSeqI eg hseq hn₀ hb0 hl).mono ?_
  rintro e w' ⟨av, cv, rfl, hown, hb⟩
  go_wp2
  go_ret
  exact ⟨_, _, rfl, hown, hb⟩

end

/- Plain facts of a sort by insertion. -/
/-- the first i + 1 numbers are in order but for the one at j, which is less than those behind it -/
def insJ (T : List Int) (i j : Nat) : Prop := (∀ p q x y, T[p]? = some x → T[q]? = some y → p < q → q ≤ i → p ≠ j → q ≠ j → x ≤ y) ∧ ∀ q x y, T[j]? = some x → T[q]? = some y → j < q → q ≤ i → x ≤ y
def insS (T : List Int) (i : Nat) : Prop := ∀ p q x y, T[p]? = some x → T[q]? = some y → p < q → q < i → x ≤ y
theorem insS_one (T : List Int) : insS T 1 := fun p q x y _ _ h1 h2 => by omega
theorem insS_zero (T : List Int) : insS T 0 := fun p q x y _ _ h1 h2 => by omega
theorem insJ_start {T : List Int} {i : Nat} (h : insS T i) : insJ T i i := ⟨fun p q x y hx hy h1 h2 h3 h4 => h p q x y hx hy h1 (by omega), fun q x y _ _ h1 h2 => by omega⟩
/-- two neighbours change places -/
def swJ (T : List Int) (j : Nat) (x y : Int) : List Int := (T.set (j + 1) x).set j y
theorem swJ_at {T : List Int} {j : Nat} {x y : Int} (hx : T[j]? = some x) (hy : T[j + 1]? = some y) (p : Nat) : (swJ T j x y)[p]? = if p = j then some y else if p = j + 1 then some x else T[p]? := by
  unfold swJ
  have h1 := (List.getElem?_eq_some_iff.1 hy).1
  by_cases h : p = j
  · subst h; rw [if_pos rfl, List.getElem?_set_self (by rw [List.length_set]; omega)]
  · rw [if_neg h, List.getElem?_set_ne (by omega)]
    by_cases h2 : p = j + 1
    · subst h2; rw [if_pos rfl, List.getElem?_set_self (by omega)]
    · rw [if_neg h2, List.getElem?_set_ne (by omega)]
theorem swJ_perm {T : List Int} {j : Nat} {x y : Int} (hx : T[j]? = some x) (hy : T[j + 1]? = some y) : (swJ T j x y).Perm T := by
  have e : T = T.take j ++ x :: y :: T.drop (j + 2) := by
    obtain ⟨h1, e1⟩ := List.getElem?_eq_some_iff.1 hx
    obtain ⟨h2, e2⟩ := List.getElem?_eq_some_iff.1 hy
    conv => lhs; rw [← List.take_append_drop j T, List.drop_eq_getElem_cons h1, List.drop_eq_getElem_cons h2, e1, e2]
  have e2 : swJ T j x y = T.take j ++ y :: x :: T.drop (j + 2) := by
    have hj : (T.take j).length = j := by rw [List.length_take]; have := (List.getElem?_eq_some_iff.1 hx).1; omega
    apply List.ext_getElem?
    intro p
    rw [swJ_at hx hy]
    by_cases h : p < j
    · rw [if_neg (by omega), if_neg (by omega), List.getElem?_append_left (by omega), List.getElem?_take_of_lt h]
    · rw [List.getElem?_append_right (by omega), hj]
      by_cases h0 : p = j
      · subst h0; simp
      · rw [if_neg h0]
        by_cases h1 : p = j + 1
        · subst h1; rw [if_pos rfl]; simp
        · rw [if_neg h1]
          obtain ⟨d, hd⟩ : ∃ d, p - j = d + 2 := ⟨p - j - 2, by omega⟩
          rw [hd, List.getElem?_cons_succ, List.getElem?_cons_succ, List.getElem?_drop]; congr 1; omega
  rw [e2]
  conv => rhs; rw [e]
  exact (List.Perm.swap x y _).append_left _
theorem insJ_step {T : List Int} {i j : Nat} {x y : Int} (h : insJ T i (j + 1)) (hx : T[j]? = some x) (hy : T[j + 1]? = some y) (hlt : y < x) (hj : j + 1 ≤ i) : insJ (swJ T j x y) i j := by
  refine ⟨fun p q u v hu hv h1 h2 h3 h4 => ?_, fun q u v hu hv h1 h2 => ?_⟩
  · rw [swJ_at hx hy, if_neg h3] at hu
    rw [swJ_at hx hy, if_neg h4] at hv
    by_cases hp : p = j + 1
    · rw [if_pos hp] at hu
      cases hu
      rw [if_neg (by omega)] at hv
      exact h.1 j q x v hx hv (by omega) h2 (by omega) (by omega)
    · rw [if_neg hp] at hu
      by_cases hq : q = j + 1
      · rw [if_pos hq] at hv
        cases hv
        exact h.1 p j u x hu hx (by omega) (by omega) hp (by omega)
      · rw [if_neg hq] at hv
        exact h.1 p q u v hu hv h1 h2 hp hq
  · rw [swJ_at hx hy, if_pos rfl] at hu
    cases hu
    rw [swJ_at hx hy, if_neg (by omega)] at hv
    by_cases hq : q = j + 1
    · rw [if_pos hq] at hv; cases hv; omega
    · rw [if_neg hq] at hv
      exact h.2 q y v hy hv (by omega) h2
theorem insJ_zero {T : List Int} {i : Nat} (h : insJ T i 0) : insS T (i + 1) := fun p q x y hx hy h1 h2 => by
  by_cases hp : p = 0
  · subst hp; exact h.2 q x y hx hy h1 (by omega)
  · exact h.1 p q x y hx hy h1 (by omega) hp (by omega)
theorem insJ_done {T : List Int} {i j : Nat} {x y : Int} (h : insJ T i (j + 1)) (hx : T[j]? = some x) (hy : T[j + 1]? = some y) (hle : x ≤ y) : insS T (i + 1) := fun p q u v hu hv h1 h2 => by
  by_cases hp : p = j + 1
  · subst hp; rw [hy] at hu; cases hu; exact h.2 q y v hy hv h1 (by omega)
  · by_cases hq : q = j + 1
    · subst hq
      rw [hy] at hv; cases hv
      by_cases hpj : p = j
      · subst hpj; rw [hx] at hu; cases hu; exact hle
      · have := h.1 p j u x hu hx (by omega) (by omega) hp (by omega); omega
    · exact h.1 p q u v hu hv h1 (by omega) hp hq
theorem insS_pair {T : List Int} (h : insS T T.length) : T.Pairwise (· ≤ ·) := by
  rw [List.pairwise_iff_getElem]
  intro i j hi hj hij
  exact h i j _ _ (List.getElem?_eq_getElem hi) (List.getElem?_eq_getElem hj) hij hj

/- Walks: slices.Sorted of few numbers. -/
open Go.RowKit

set_option maxHeartbeats 1000000 in
theorem x_isNaNI {x : Int} {w : World} : Calls Try.prog 270 #[.int .i64 x] w (RO w (.bool false)) := by
  have hx : (x != x) = false := by simp
  go_enter Try.func270, Try.ntmps270
  go_wp2
  go_ret
  exact ⟨rfl, Dr.refl _⟩
set_option maxHeartbeats 1000000 in
theorem x_LessI {x y : Int} {w : World} : Calls Try.prog 260 #[.int .i64 x, .int .i64 y] w (RO w (.bool (decide (x < y)))) := by
  cases hxy : decide (x < y)
  · go_enter Try.func260, Try.ntmps260
    go_wp2_with fail
    refine (x_isNaNI (x := x)).mono ?_
    rintro e w1 ⟨rfl, d1⟩
    go_wp2
    go_ret
    exact ⟨rfl, d1⟩
  · go_enter Try.func260, Try.ntmps260
    go_wp2_with fail
    refine (x_isNaNI (x := x)).mono ?_
    rintro e w1 ⟨rfl, d1⟩
    go_wp2
    go_ret
    exact ⟨rfl, d1⟩

def SoP (l : List Int) (b o lo hi : Nat) (w : World) (e : Ending) (w' : World) : Prop := ∃ S : List Int, e = .returned (.tuple #[]) ∧ S.Perm l ∧ S.Pairwise (· ≤ ·) ∧ OI w' lo hi (some ⟨b, o, none⟩) S ∧ Upd lo hi w w' ∧ w.heap.size = w'.heap.size

set_option maxRecDepth 100000 in
set_option maxHeartbeats 4000000 in
theorem x_insertI {l : List Int} {b o c lo hi : Nat} {w : World} (hm : OI w lo hi (some ⟨b, o, none⟩) l) (h0 : 0 < l.length) (hl : l.length ≤ 12) (hhi : hi ≤ w.heap.size) :
    Calls Try.prog 254 #[.slice (some ⟨b, o, none⟩) l.length c, .int .i64 0, .int .i64 (l.length : Int)] w (SoP l b o lo hi w) := by
  obtain ⟨M, hM⟩ : ∃ M, l.length = M := ⟨_, rfl⟩
  have HM := Lib.hid hM
  rw [hM] at hl h0 ⊢
  have hP0 : Hid (l.Perm l) := List.Perm.refl _
  have hS1 : Hid (insS l 1) := insS_one l
  clear hM
  go_enter Try.func254, Try.ntmps254
  go_wp2
  go_loopw [6, 7] (fun i _ wr => ∃ (k : Nat) (S : List Int), k ≤ M ∧ 1 ≤ k ∧ i = .int .i64 k ∧ Hid (S.Perm l) ∧ Hid (insS S k) ∧ OI wr lo hi (some ⟨b, o, none⟩) S ∧ Upd lo hi w wr ∧ w.heap.size = wr.heap.size) (fun i _ _ => M - (intOf i).toNat)
  case atStart => exact ⟨1, l, h0, Nat.le_refl _, rfl, hP0, hS1, hm, Upd.refl _ _ _, rfl⟩
  case round =>
    clear hm hP0 hS1
    obtain ⟨k, S, hk, hk1, rfl, HP, HS, ho, hu, hsz⟩ := hrel
    by_cases hlt : k < M
    · have hJ0 : Hid (insJ S k k) := insJ_start HS.out
      have HSZ := Lib.hid hsz
      clear hsz
      go_wp2
      go_loopw [7] (fun j wr => ∃ (q : Nat) (T : List Int), q ≤ k ∧ j = .int .i64 q ∧ Hid (T.Perm l) ∧ Hid (insJ T k q) ∧ OI wr lo hi (some ⟨b, o, none⟩) T ∧ Upd lo hi w wr ∧ Hid (w.heap.size = wr.heap.size)) (fun j _ => (intOf j).toNat)
      case atStart => exact ⟨k, S, Nat.le_refl _, rfl, HP, hJ0, ho, hu, HSZ⟩
      case round =>
        clear hJ0 ho hu HSZ HP HS
        obtain ⟨q, T, hq, rfl, HP, HJ, ho, hu, HSZ⟩ := hrel
        have hTl : Hid (T.length = M) := by show _ = _; rw [HP.out.length_eq]; exact HM.out
        by_cases hq0 : q = 0
        · subst hq0
          have hS2 : Hid (insS T (k + 1)) := insJ_zero HJ.out
          go_wp2_with fail
          go_quiet (fail)
          go_wp2
          go_roundw
          case rel => exact ⟨k + 1, T, by omega, by omega, by go_num, HP, hS2, ho, hu.trans ⟨rfl, rfl, rfl, Nat.le_refl _, fun _ _ _ => rfl⟩, HSZ.out⟩
          case measure => simp [intOf]; omega
        obtain ⟨p, rfl⟩ : ∃ p, q = p + 1 := ⟨q - 1, by omega⟩
        obtain ⟨b1, o1, e1, hb1, hb2, ⟨x, hx, hc1⟩, hf1⟩ := ho p (by have := hTl.out; omega)
        obtain ⟨b2, o2, e2, _, _, ⟨y, hy, hc2⟩, hf2⟩ := ho (p + 1) (by have := hTl.out; omega)
        obtain ⟨rfl, rfl⟩ : b = b1 ∧ o = o1 := by simpa using e1
        obtain ⟨rfl, rfl⟩ : b = b2 ∧ o = o2 := by simpa using e2
        have HX := Lib.hid hx
        have HY := Lib.hid hy
        have hpM : p + 1 < M := by omega
        have hi1 := idxI (a := some ⟨b, o, none⟩) rfl (show p < M by omega) c
        have hi2 := idxI (a := some ⟨b, o, none⟩) rfl hpM c
        have hw : IntKind.i64.wrap (((p + 1 : Nat) : Int) - 1) = (p : Int) := by rw [IntWalk.i64_in _ (by omega)]; omega
        have hgt : decide ((0 : Int) < ((p + 1 : Nat) : Int)) = true := decide_eq_true (by omega)
        have hgt2 : decide (0 < p + 1) = true := decide_eq_true (by omega)
        obtain ⟨Q, hQ⟩ : ∃ Q, p + 1 = Q := ⟨_, rfl⟩
        rw [hQ] at hc2 hf2 hi2 hw hgt hgt2
        have HQ := Lib.hid hQ
        have hQM : Q < M := by omega
        have hQk : Q ≤ k := by omega
        rw [hQ]
        clear e1 e2 hx hy hQ
        by_cases hxy : y < x
        · have hd : decide (y < x) = true := decide_eq_true hxy
          have hJ2 : Hid (insJ (swJ T p x y) k p) := insJ_step HJ.out HX.out HY.out hxy (by have := HQ.out; omega)
          have hP2 : Hid ((swJ T p x y).Perm l) := (swJ_perm HX.out HY.out).trans HP.out
          have hs1 := ho.set (show p + 1 < T.length by have := hTl.out; have := HQ.out; omega) x
          have hs2 := OI.set hs1 (show p < (T.set (p + 1) x).length by rw [List.length_set]; have := hTl.out; omega) y
          rw [HQ.out] at hs2
          have HS2 : Hid (OI ((wr.setCell ⟨b, o + Q, none⟩ (.int .i64 x)).setCell ⟨b, o + p, none⟩ (.int .i64 y)) lo hi (some ⟨b, o, none⟩) (swJ T p x y)) := by
            show OI _ _ _ _ _
            unfold swJ
            rw [HQ.out]; exact hs2
          have hne : o + Q ≠ o + p := by have := HQ.out; omega
          have HC := Lib.hid (fun nn => x_LessI (x := y) (y := x) (w := wr.drewN nn))
          rw [hd] at HC
          clear hs1 hs2 ho hxy
          go_wp2_with fail
          go_quiet (exact Calls.quiet_of (HC.out _))
          go_wp2_with fail
          go_region
          go_wp2
          go_roundw
          case rel => exact ⟨p, swJ T p x y, by omega, by go_num, hP2, hJ2, HS2.out.same fun _ _ _ => rfl, ((hu.setCell (p := ⟨b, o + Q, none⟩) hb1 hb2 _).setCell (p := ⟨b, o + p, none⟩) hb1 hb2 _).trans ⟨rfl, rfl, rfl, Nat.le_refl _, fun _ _ _ => rfl⟩, HSZ.out.trans (by show _ = ((wr.setCell _ _).setCell _ _).heap.size; simp [World.setCell])⟩
          case measure => have := HQ.out; simp [intOf]; omega
        · have hd : decide (y < x) = false := decide_eq_false hxy
          have hS2 : Hid (insS T (k + 1)) := insJ_done HJ.out HX.out HY.out (by omega)
          have HC := Lib.hid (fun nn => x_LessI (x := y) (y := x) (w := wr.drewN nn))
          rw [hd] at HC
          clear hxy
          go_wp2_with fail
          go_quiet (exact Calls.quiet_of (HC.out _))
          go_wp2
          go_roundw
          case rel => exact ⟨k + 1, T, by omega, by omega, by go_num, HP, hS2, ho, hu.trans ⟨rfl, rfl, rfl, Nat.le_refl _, fun _ _ _ => rfl⟩, HSZ.out⟩
          case measure => simp [intOf]; omega
    · have hkM : k = M := by omega
      have hfin : Hid (S.Pairwise (· ≤ ·)) := insS_pair (by have h := HS.out; rw [hkM] at h; rw [HP.out.length_eq, HM.out]; exact h)
      clear hkM
      go_wp2
      go_end0
      exact ⟨S, rfl, HP.out, hfin.out, ho, hu, hsz⟩

/- Walks: slices.Sorted of few numbers; the sort behind it. -/
open Go.RowKit

def SomeN (w : World) (e : Ending) (w' : World) : Prop := ∃ v : Int, e = .returned (.int .i64 v) ∧ w' = w
set_option maxRecDepth 100000 in
set_option maxHeartbeats 2000000 in
theorem x_Len64 {n : Nat} {w : World} (h : n = 1 ∨ n = 2 ∨ n = 3 ∨ n = 4 ∨ n = 5) : Calls Try.prog 264 #[.int .u64 (n : Int)] w (SomeN w) := by
  rcases h with rfl | rfl | rfl | rfl | rfl
  all_goals
    go_enter Try.func264, Try.ntmps264
    go_wp2
    go_ret
    exact ⟨_, rfl, rfl⟩
set_option maxRecDepth 100000 in
set_option maxHeartbeats 2000000 in
theorem x_Len {n : Nat} {w : World} (h : n = 1 ∨ n = 2 ∨ n = 3 ∨ n = 4 ∨ n = 5) : Calls Try.prog 252 #[.int .u64 (n : Int)] w (SomeN w) := by
  go_enter Try.func252, Try.ntmps252
  go_wp2_with fail
  refine (x_Len64 h).mono ?_
  rintro e w1 ⟨v, rfl, rfl⟩
  go_wp2
  go_ret
  exact ⟨v, rfl, rfl⟩

set_option maxRecDepth 100000 in
set_option maxHeartbeats 4000000 in
theorem x_pdqI {l : List Int} {b o c lo hi : Nat} {z : Int} {w : World} (hm : OI w lo hi (some ⟨b, o, none⟩) l) (h0 : 0 < l.length) (hl : l.length ≤ 12) (hhi : hi ≤ w.heap.size) :
    Calls Try.prog 251 #[.slice (some ⟨b, o, none⟩) l.length c, .int .i64 0, .int .i64 (l.length : Int), .int .i64 z] w (SoP l b o lo hi w) := by
  have hle : decide ((l.length : Int) ≤ 12) = true := decide_eq_true (by omega)
  go_enter Try.func251, Try.ntmps251
  go_wp2
  go_loopw [1, 2, 3, 8, 9, 10] (fun a1 b1 _ _ _ _ wr => a1 = .int .i64 0 ∧ b1 = .int .i64 (l.length : Int) ∧ wr = w) (fun _ _ _ _ _ _ _ => 0)
  case atStart => exact ⟨rfl, rfl, rfl⟩
  case round =>
    obtain ⟨rfl, rfl, rfl⟩ := hrel
    go_wp2_with fail
    refine (x_insertI hm h0 hl hhi).mono ?_
    rintro e w1 ⟨S, rfl, h1, h2, h3, h4, h5⟩
    go_wp2
    go_end0
    exact ⟨S, rfl, h1, h2, h3, h4, h5⟩

set_option maxRecDepth 100000 in
set_option maxHeartbeats 2000000 in
theorem x_SortI {l : List Int} {b o c lo hi : Nat} {w : World} (hm : OI w lo hi (some ⟨b, o, none⟩) l) (h0 : 0 < l.length) (hl : l.length ≤ 5) (hhi : hi ≤ w.heap.size) :
    Calls Try.prog 234 #[.slice (some ⟨b, o, none⟩) l.length c] w (SoP l b o lo hi w) := by
  go_enter Try.func234, Try.ntmps234
  go_wp2_with fail
  refine (x_Len (n := l.length) (by omega)).mono ?_
  rintro e w1 ⟨v, rfl, rfl⟩
  go_wp2_with fail
  refine (x_pdqI hm h0 (by omega) hhi).mono ?_
  rintro e w1 ⟨S, rfl, h1, h2, h3, h4, h5⟩
  go_wp2
  go_end0
  exact ⟨S, rfl, h1, h2, h3, h4, h5⟩

/- Plain facts of LeastTests' loops. -/
def prF (l : List Int) : Int := l.foldl (fun a x => a * x) 1
theorem prF_cons (x : Int) (l : List Int) : prF (x :: l) = x * prF l := by
  unfold prF; rw [List.foldl_cons, foldl_mul1, Int.one_mul]
theorem prF_snoc (l : List Int) (x : Int) : prF (l ++ [x]) = prF l * x := by unfold prF; rw [List.foldl_append]; rfl
theorem prF_take {l : List Int} {k : Nat} {x : Int} (h : l[k]? = some x) : prF (l.take (k + 1)) = prF (l.take k) * x := by
  rw [← prF_snoc, List.take_add_one, h]; rfl
theorem mul_ge1 {a x : Int} (ha : 1 ≤ a) (hx : 1 ≤ x) : 1 ≤ a * x := by
  have := Int.mul_le_mul ha hx (by omega) (by omega)
  omega
theorem mul_le3 {a b x : Int} (h0 : 1 ≤ a) (ha : a ≤ b) (hx : x ≤ 3) : a * x ≤ b * 3 := by
  have h1 := Int.mul_le_mul_of_nonneg_left hx (show 0 ≤ a by omega)
  omega
theorem prF_le : ∀ (l : List Int), (∀ x ∈ l, 1 ≤ x ∧ x ≤ 3) → 1 ≤ prF l ∧ prF l ≤ 3 ^ l.length
  | [], _ => by simp [prF]
  | x :: l, h => by
    have ih := prF_le l fun y hy => h y (by simp [hy])
    have hx := h x (by simp)
    rw [prF_cons, Int.mul_comm]
    refine ⟨mul_ge1 ih.1 hx.1, ?_⟩
    rw [List.length_cons, Int.pow_succ]
    exact mul_le3 ih.1 ih.2 hx.2
theorem pow3_le {n k : Nat} (h : n ≤ k) (hk : k ≤ 5) : (3 : Int) ^ n ≤ 243 := by
  have h5 : n ≤ 5 := by omega
  have : n = 0 ∨ n = 1 ∨ n = 2 ∨ n = 3 ∨ n = 4 ∨ n = 5 := by omega
  rcases this with rfl | rfl | rfl | rfl | rfl | rfl <;> decide
theorem lt_sorted1 {m S : List Int} {tn : Nat} (hm : okM m = true) (ht : tn ≤ m.length) (hp : S.Perm m) (hs : S.Pairwise (· ≤ ·)) : ltV m tn = prF (S.drop (m.length - tn)) := by
  rw [lt_yes hm (by omega) (by omega), Int.toNat_natCast, lt_sorted tn m S 1 hp hs ht, hp.length_eq, Int.one_mul]; rfl
theorem prF_mid {S : List Int} {q k : Nat} (h : ∀ x ∈ S, 1 ≤ x ∧ x ≤ 3) (hl : S.length ≤ 5) : 1 ≤ prF ((S.drop q).take k) ∧ prF ((S.drop q).take k) ≤ 243 := by
  have h1 := prF_le ((S.drop q).take k) fun x hx => h x (List.mem_of_mem_drop (List.mem_of_mem_take hx))
  refine ⟨h1.1, Int.le_trans h1.2 (pow3_le (k := 5) ?_ (Nat.le_refl _))⟩
  simp; omega
theorem okM_lv {m : List Int} (h : okM m = true) : ∀ x ∈ m, 1 ≤ x ∧ x ≤ 3 := by
  intro x hx
  obtain ⟨k, hk⟩ := List.getElem?_of_mem hx
  exact okM_at h hk
theorem perm_lv {m S : List Int} (hp : S.Perm m) (h : ∀ x ∈ m, 1 ≤ x ∧ x ≤ 3) : ∀ x ∈ S, 1 ≤ x ∧ x ≤ 3 := fun x hx => h x (hp.mem_iff.1 hx)

/-- how far LeastTests is after k rounds -/
structure LtS (m : List Int) (tn k : Nat) (l : List Int) (out : Int) : Prop where
  len : l.length = m.length - k
  lv : ∀ x ∈ l, 1 ≤ x ∧ x ≤ 3
  lo : 1 ≤ out
  hi : out ≤ 3 ^ k
  val : ltG (tn - k) l out = ltG tn m 1
theorem LtS.start {m : List Int} {tn : Nat} (hm : okM m = true) : LtS m tn 0 m 1 := ⟨rfl, okM_lv hm, Int.le_refl _, by simp, rfl⟩
theorem LtS.best {m l : List Int} {tn k : Nat} {out : Int} (h : LtS m tn k l out) (hk : k < tn) (ht : tn ≤ m.length) : mxI l < l.length := mxK_lt l l.length (by have := h.len; omega)
theorem LtS.next {m l : List Int} {tn k : Nat} {out x : Int} (h : LtS m tn k l out) (hk : k < tn) (ht : tn ≤ m.length) (hx : l[mxI l]? = some x) : LtS m tn (k + 1) (l.eraseIdx (mxI l)) (out * x) := by
  have hb := h.best hk ht
  have hxm := h.lv x (List.mem_of_getElem? hx)
  have hg : l.getD (mxI l) 0 = x := by simp [List.getD, hx]
  refine ⟨?_, fun y hy => h.lv y (List.mem_of_mem_eraseIdx hy), mul_ge1 h.lo hxm.1, ?_, ?_⟩
  · rw [List.length_eraseIdx_of_lt hb]; have := h.len; omega
  · rw [Int.pow_succ]; exact mul_le3 h.lo h.hi hxm.2
  · rw [← h.val, show tn - k = (tn - (k + 1)) + 1 by omega, ltG_succ, hg]
theorem LtS.small {m l : List Int} {tn k : Nat} {out : Int} (h : LtS m tn k l out) (hk : k ≤ 5) : out ≤ 243 := Int.le_trans h.hi (pow3_le (Nat.le_refl _) hk)
theorem LtS.mul {m l : List Int} {tn k : Nat} {out x : Int} (h : LtS m tn k l out) (hk : k ≤ 5) (hx : x ∈ l) : 1 ≤ out * x ∧ out * x ≤ 729 := by
  have h1 := h.small hk
  have h2 := mul_le3 h.lo h1 (h.lv x hx).2
  have h3 := mul_ge1 h.lo (h.lv x hx).1
  omega
theorem LtS.fin {m l : List Int} {tn : Nat} {out : Int} (h : LtS m tn tn l out) (hm : okM m = true) (ht : tn ≤ m.length) : out = ltV m tn := by
  rw [lt_yes hm (by omega) (by omega), Int.toNat_natCast, ← h.val, Nat.sub_self]; rfl
theorem mxK_step {l : List Int} {j : Nat} {x y : Int} (hx : l[j]? = some x) (hy : l[mxK l j]? = some y) : mxK l (j + 1) = if y < x then j else mxK l j := by
  have h1 : l.getD j 0 = x := by simp [List.getD, hx]
  have h2 : l.getD (mxK l j) 0 = y := by simp [List.getD, hy]
  rw [mxK, h1, h2]

/- Walks: LeastTests, of both sides. -/
open Go.RowKit

def SoL (l : List Int) (w : World) (e : Ending) (w' : World) : Prop := ∃ (S : List Int) (b o c : Nat), e = .returned (.slice (some ⟨b, o, none⟩) S.length c) ∧ S.Perm l ∧ S.Pairwise (· ≤ ·) ∧ RI w' w.heap.size w'.heap.size (some ⟨b, o, none⟩) S ∧ S.length ≤ c ∧ Below w.heap.size w w'

set_option maxRecDepth 100000 in
set_option maxHeartbeats 2000000 in
theorem x_SortedI {l : List Int} {gf : Nat} {lb : Array Value} {n₀ K : Nat} {w0 w : World} (eg : ∀ args w, (callFunc gf args).run Try.prog w = .ok (.enter gf args) w)
    (hseq : SeqO Try.prog gf lb (fun x : Int => #[.int .i64 x]) l n₀ 0 0 K w0) (hn₀ : n₀ ≤ w.heap.size) (hb0 : Below n₀ w0 w) (h0 : 0 < l.length) (hl : l.length ≤ 5) :
    Calls Try.prog 158 #[.func (.func gf) #[] lb] w (SoL l w) := by
  go_enter Try.func158, Try.ntmps158
  go_wp2_with fail
  refine (x_CollectI eg hseq hn₀ hb0 (by omega)).mono ?_
  rintro e w1 ⟨av, cv, rfl, hown, hb⟩
  obtain ⟨a1, c1, e1, hoc⟩ := hown.slice
  obtain ⟨rfl, rfl⟩ : av = a1 ∧ cv = c1 := by simpa using e1
  obtain ⟨b, o, e2, _⟩ := hoc.oi 0 h0
  subst e2
  have hcap := hoc.cap
  go_wp2_with fail
  refine (x_SortI hoc.oi h0 hl (Nat.le_refl _)).mono ?_
  rintro e w2 ⟨S, rfl, h1, h2, h3, h4, h5⟩
  have hlen := h1.length_eq
  go_wp2
  go_ret
  rw [← hlen]
  exact ⟨S, b, o, cv, rfl, h1, h2, by rw [← h5]; exact h3.ri, by omega, hb.trans (Upd.below h4 |>.mono (by omega))⟩

set_option maxRecDepth 100000 in
set_option maxHeartbeats 2000000 in
theorem i_LeastTests {m : List Int} {a : Option Addr} {c lo hi : Nat} {w : World} {t : Int} (hm : RI w lo hi a m) (hlm : m.length ≤ 9223372036854775807) (_ht1 : -9223372036854775808 ≤ t) (_ht2 : t ≤ 9223372036854775807) (hhi : hi ≤ w.heap.size) :
    Calls Try.prog 49 #[.slice a m.length c, .int .i64 t] w (fun e w' => e = .returned (.int .i64 (ltV m t)) ∧ Below w.heap.size w w') := by
  cases hok : okM m
  · have HOK := Lib.hid hok; clear hok
    go_enter Try.func49, Try.ntmps49
    go_wp2_with fail
    refine (i_ValidModel hm hlm).mono ?_
    rintro e w1 ⟨rfl, d1⟩
    rw [HOK.out]
    go_wp2
    go_ret
    exact ⟨by rw [lt_no (by rw [HOK.out]; rfl)]; rfl, Dr.below d1 _⟩
  have HOK := Lib.hid hok; clear hok
  cases hin : inR t 0 m.length
  · have HIN := Lib.hid hin; clear hin
    go_enter Try.func49, Try.ntmps49
    go_wp2_with fail
    refine (i_ValidModel hm hlm).mono ?_
    rintro e w1 ⟨rfl, d1⟩
    rw [HOK.out]
    go_wp2_with fail
    refine (i_isStrength hlm).mono ?_
    rintro e w2 ⟨rfl, d2⟩
    rw [HIN.out]
    go_wp2
    go_ret
    exact ⟨by rw [lt_no (by rw [HIN.out]; simp)]; rfl, Dr.below (Dr.trans d1 d2) _⟩
  have HIN := Lib.hid hin
  have ht := inR_true.1 hin
  clear hin
  obtain ⟨tn, rfl⟩ : ∃ tn : Nat, t = (tn : Int) := ⟨t.toNat, by omega⟩
  have htn : tn ≤ m.length := by omega
  have hm5 := okM_len HOK.out
  clear ht
  go_enter Try.func49, Try.ntmps49
  go_wp2_with fail
  refine (i_ValidModel hm hlm).mono ?_
  rintro e w1 ⟨rfl, d1⟩
  rw [HOK.out]
  go_wp2_with fail
  refine (i_isStrength hlm).mono ?_
  rintro e w2 ⟨rfl, d2⟩
  rw [HIN.out]
  have D2 := Dr.trans d1 d2
  have Z2 := Dr.le D2
  clear d1 d2
  go_wp2_with fail
  refine x_ValuesI.mono ?_
  rintro e w3 ⟨rfl, rfl⟩
  have hm2 := hm.dr D2
  have hA := heap_alloc_new w2 (.cells #[.slice a m.length c] 23)
  have hbA := (Below.refl w2.heap.size w2).alloc (Nat.le_refl _) (.cells #[.slice a m.length c] 23)
  have hsq := valuesI_seq (n₀ := w2.heap.size + 1) hm2 (by omega) hbA (by omega) (by omega) hA (by omega) (by simp)
  go_wp2_with fail
  refine (x_SortedI (fun _ _ => rfl) hsq (by simp) (Below.refl _ _) (by omega) hm5.2).mono ?_
  rintro e w4 ⟨S, b, o, c4, rfl, hp, hs, hS, hc4, hb4⟩
  have hSl := hp.length_eq
  rw [hSl] at hc4
  rw [hSl]
  have HV := Lib.hid (lt_sorted1 HOK.out htn hp hs)
  have HL := Lib.hid (perm_lv hp (okM_lv HOK.out))
  have hS5 : S.length ≤ 5 := by omega
  have hBel := (Dr.below D2 w.heap.size).trans (((hbA.trans (hb4.mono (by simp))).mono Z2.2))
  obtain ⟨q, hq⟩ : ∃ q, m.length - tn = q := ⟨_, rfl⟩
  have hq2 : IntKind.i64.wrap ((m.length : Int) - (tn : Int)) = (q : Int) := by rw [IntWalk.i64_in _ (by omega)]; omega
  obtain ⟨o', ho', hfrom⟩ := cutFrom (b := b) (o := o) (n := m.length) (c := c4) (k := q) (z := (q : Int)) rfl (by omega) hc4
  have hD := hS.dropI (k := q) (o' := o') (by rw [hSl]; exact ho')
  have hDl : m.length - q = tn := by omega
  rw [hDl] at hfrom
  rw [hq] at HV
  have HDL : Hid ((S.drop q).length = tn) := by show _ = _; simp; omega
  have HM := Lib.hid (fun k => prF_mid (q := q) (k := k) HL.out hS5)
  obtain ⟨D, hDe⟩ : ∃ D, S.drop q = D := ⟨_, rfl⟩
  rw [hDe] at hD HV HDL HM
  have HLD : Hid (∀ x ∈ D, 1 ≤ x ∧ x ≤ 3) := by
    show ∀ x ∈ D, _
    intro x hx
    exact HL.out x (List.mem_of_mem_drop (by rw [hDe]; exact hx))
  have HD := Lib.hid hD
  clear hm2 hA hbA hsq hp hs hS hb4 hD hDe hm ho' HL D2 HIN hSl hq hDl
  go_wp2
  go_loopw [6, 8, 28] (fun p _ k wr => ∃ kn : Nat, kn ≤ tn ∧ k = .int .i64 kn ∧ p = .int .i64 (prF (D.take kn)) ∧ Dr w4 wr) (fun _ _ k _ => tn - (intOf k).toNat)
  case atStart => exact ⟨0, Nat.zero_le _, rfl, rfl, Dr.refl _⟩
  case round =>
    obtain ⟨kn, hk, rfl, rfl, D5⟩ := hrel
    by_cases hlt : kn < tn
    · have hkl : kn < D.length := by have := HDL.out; omega
      obtain ⟨b1, o1, x, ha1, _, _, hc1, hx1⟩ := (HD.out.dr D5).at hkl
      obtain ⟨rfl, rfl⟩ : b = b1 ∧ o' = o1 := by simpa using ha1
      have hidx := idxI (a := some ⟨b, o', none⟩) rfl hlt (c4 - q)
      have h1 := HM.out kn
      have h2 := HM.out (kn + 1)
      rw [prF_take hx1.out] at h2
      have HT := Lib.hid (prF_take hx1.out)
      have hw : IntKind.i64.wrap (prF (D.take kn) * x) = prF (D.take kn) * x := by rw [IntWalk.i64_in _ (by omega)]
      clear ha1 hx1 h1 h2
      go_wp2
      go_roundw
      case rel => exact ⟨kn + 1, by omega, by go_num, by rw [HT.out], D5⟩
      case measure => simp [intOf]; omega
    · have HE : Hid (prF (D.take kn) = ltV m tn) := by show _ = _; rw [HV.out, List.take_of_length_le (by have := HDL.out; omega)]
      go_wp2
      go_ret
      exact ⟨by first | rfl | (rw [HE.out]; rfl), hBel.trans (Dr.below D5 _)⟩

set_option maxRecDepth 100000 in
set_option maxHeartbeats 4000000 in
theorem s_LeastTests {m : List Int} {a : Option Addr} {c lo hi : Nat} {w : World} {t : Int} (hm : RI w lo hi a m) (hlm : m.length ≤ 9223372036854775807) (_ht1 : -9223372036854775808 ≤ t) (_ht2 : t ≤ 9223372036854775807) (hhi : hi ≤ w.heap.size) :
    Calls Try.prog 63 #[.slice a m.length c, .int .i64 t] w (fun e w' => e = .returned (.int .i64 (ltV m t)) ∧ Below w.heap.size w w') := by
  cases hok : okM m
  · have HOK := Lib.hid hok; clear hok
    go_enter Try.func63, Try.ntmps63
    go_wp2_with fail
    refine (s_validModel hm hlm).mono ?_
    rintro e w1 ⟨rfl, d1⟩
    rw [HOK.out]
    go_wp2
    go_ret
    exact ⟨by rw [lt_no (by rw [HOK.out]; rfl)]; rfl, Dr.below d1 _⟩
  have HOK := Lib.hid hok; clear hok
  cases hin : inR t 0 m.length
  · have HIN := Lib.hid hin; clear hin
    go_enter Try.func63, Try.ntmps63
    go_wp2_with fail
    refine (s_validModel hm hlm).mono ?_
    rintro e w1 ⟨rfl, d1⟩
    rw [HOK.out]
    go_wp2_with fail
    refine (s_inRange _ _ _ _).mono ?_
    rintro e w2 ⟨rfl, d2⟩
    rw [HIN.out]
    go_wp2
    go_ret
    exact ⟨by rw [lt_no (by rw [HIN.out]; simp)]; rfl, Dr.below (Dr.trans d1 d2) _⟩
  have HIN := Lib.hid hin
  have ht := inR_true.1 hin
  clear hin
  obtain ⟨tn, rfl⟩ : ∃ tn : Nat, t = (tn : Int) := ⟨t.toNat, by omega⟩
  have htn : tn ≤ m.length := by omega
  have hm5 := okM_len HOK.out
  obtain ⟨b0, o0, _, ha0, _, _, _, _⟩ := hm.at (show 0 < m.length by omega)
  subst ha0
  clear ht
  go_enter Try.func63, Try.ntmps63
  go_wp2_with fail
  refine (s_validModel hm hlm).mono ?_
  rintro e w1 ⟨rfl, d1⟩
  rw [HOK.out]
  go_wp2_with fail
  refine (s_inRange _ _ _ _).mono ?_
  rintro e w2 ⟨rfl, d2⟩
  rw [HIN.out]
  have D2 := Dr.trans d1 d2
  have Z2 := Dr.le D2
  have hB2 := Dr.below D2 w.heap.size
  clear d1 d2 D2
  have hstA : OwnL (w2.alloc (.cells #[] 3)) w.heap.size (.slice (some ⟨w2.heap.size, 0, none⟩) 0 0) [] := ownL_base (OwnL.made w2 w2.heap.size (Nat.le_refl _)) Z2.2
  have hbA := hB2.alloc Z2.2 (.cells #[] 3)
  have hwA : w.heap.size ≤ (w2.alloc (.cells #[] 3)).heap.size := by simp; omega
  have hrA := hm.below hbA hhi
  have HS0 := Lib.hid (LtS.start (tn := tn) HOK.out)
  go_wp2_with (at_builtin; refine wpList_appS rfl _ _ rfl w.heap.size _ [] rfl hstA m lo hi c _ rfl hrA (by simp) (by omega) hwA ?_; intro v5 w5 hown5 hb5; rw [List.nil_append] at hown5; obtain ⟨a5, c5, rfl, ho5⟩ := hown5.slice; have hb05 := hbA.trans hb5; clear hstA hrA hbA)
  go_loopw [5, 6, 7, 8, 9] (fun v out i _ _ wr => ∃ (k : Nat) (l : List Int) (ad : Option Addr) (cd : Nat) (o1 : Int), k ≤ tn ∧ v = .slice ad l.length cd ∧ out = .int .i64 o1 ∧ i = .int .i64 k ∧ OIc wr w.heap.size wr.heap.size ad cd l ∧ Hid (LtS m tn k l o1) ∧ Below w.heap.size w wr) (fun _ _ i _ _ _ => tn - (intOf i).toNat)
  case atStart => exact ⟨0, m, a5, c5, 1, Nat.zero_le _, rfl, rfl, rfl, ho5, HS0, hb05⟩
  case round =>
    clear ho5 hb05 hown5 hb5 HS0
    obtain ⟨k, l, ad, cd, o1, hk, rfl, rfl, rfl, hO, HS, hB⟩ := hrel
    by_cases hlt : k < tn
    · have hbest := HS.out.best hlt htn
      have hl5 : l.length ≤ 5 := by have := HS.out.len; omega
      have hl0 : 0 < l.length := by omega
      obtain ⟨b1, o2, _, ha1, _, _, _, _⟩ := hO.ri.at hl0
      subst ha1
      have hcap := hO.cap
      have HR := Lib.hid hO.ri
      have HX1 := Lib.hid (mxK_one l)
      clear hO
      obtain ⟨wo, hwo⟩ : ∃ wo, wo = wr := ⟨_, rfl⟩
      subst hwo
      go_wp2
      go_loopw [8, 9] (fun bs j wr => ∃ jn : Nat, 1 ≤ jn ∧ jn ≤ l.length ∧ j = .int .i64 jn ∧ bs = .int .i64 (mxK l jn : Nat) ∧ Dr wo wr) (fun _ j _ => l.length - (intOf j).toNat)
      case atStart => exact ⟨1, Nat.le_refl _, hl0, rfl, by rw [HX1.out]; rfl, Dr.refl _⟩
      case round =>
        obtain ⟨jn, hj1, hj, rfl, rfl, D6⟩ := hrel
        by_cases hjl : jn < l.length
        · have hml := mxK_lt l jn (by omega)
          obtain ⟨b2, o3, x, ha2, _, _, hc2, hx2⟩ := (HR.out.dr D6).at hjl
          obtain ⟨rfl, rfl⟩ : b1 = b2 ∧ o2 = o3 := by simpa using ha2
          obtain ⟨b3, o4, y, ha3, _, _, hc3, hy3⟩ := (HR.out.dr D6).at (show mxK l jn < l.length by omega)
          obtain ⟨rfl, rfl⟩ : b1 = b3 ∧ o2 = o4 := by simpa using ha3
          have HST := Lib.hid (mxK_step hx2.out hy3.out)
          obtain ⟨z, hz⟩ : ∃ z, mxK l jn = z := ⟨_, rfl⟩
          rw [hz] at hc3 HST hml ⊢
          have hi1 := idxI (a := some ⟨b1, o2, none⟩) rfl hjl cd
          have hi2 := idxI (a := some ⟨b1, o2, none⟩) rfl (show z < l.length by omega) cd
          clear ha2 ha3 hx2 hy3 hz
          by_cases hxy : y < x
          · have hd : decide (y < x) = true := decide_eq_true hxy
            have HX : Hid (jn = mxK l (jn + 1)) := by show _ = _; rw [HST.out, if_pos hxy]
            clear hxy
            go_wp2_with fail
            go_quiet (fail)
            go_wp2
            go_roundw
            case rel => exact ⟨jn + 1, by omega, by omega, by go_num, by rw [← HX.out], Dr.drewN D6 _⟩
            case measure => simp [intOf]; omega
          · have hd : decide (y < x) = false := decide_eq_false hxy
            have HX : Hid (z = mxK l (jn + 1)) := by show _ = _; rw [HST.out, if_neg hxy]
            clear hxy
            go_wp2_with fail
            go_quiet (fail)
            go_wp2
            go_roundw
            case rel => exact ⟨jn + 1, by omega, by omega, by go_num, by rw [← HX.out], Dr.drewN D6 _⟩
            case measure => simp [intOf]; omega
        · have hjL : jn = l.length := by omega
          subst hjL
          change mxI l < l.length at hbest
          obtain ⟨b2, o3, x, ha2, _, _, hc2, hx2⟩ := (HR.out.dr D6).at hbest
          obtain ⟨rfl, rfl⟩ : b1 = b2 ∧ o2 = o3 := by simpa using ha2
          have hmu := HS.out.mul (by omega) (List.mem_of_getElem? hx2.out)
          have HN := Lib.hid (HS.out.next hlt htn hx2.out)
          have hmw : IntKind.i64.wrap (o1 * x) = o1 * x := by rw [IntWalk.i64_in _ (by omega)]
          obtain ⟨z, hz⟩ : ∃ z, mxI l = z := ⟨_, rfl⟩
          have hz2 : mxK l l.length = z := hz
          rw [hz] at hc2 hbest HN
          rw [hz2]
          have hi2 := idxI (a := some ⟨b1, o2, none⟩) rfl hbest cd
          have hto := cutTo (b := b1) (o := o2) (n := l.length) (c := cd) (k := z) (z := (z : Int)) rfl (by omega)
          obtain ⟨o', ho', hfrom⟩ := cutFrom (b := b1) (o := o2) (n := l.length) (c := cd) (k := z + 1) (z := (z : Int) + 1) (by omega) (by omega) hcap
          have hw1 : IntKind.i64.wrap ((z : Int) + 1) = (z : Int) + 1 := by rw [IntWalk.i64_in _ (by omega)]
          have hZ6 := Dr.le D6
          have hB6 := hB.trans (Dr.below D6 w.heap.size)
          have hZw := hB.size
          have hbAA := ((Below.refl wr.heap.size wr).alloc (Nat.le_refl _) (.cells #[] 3)).drew
          have hbWA := hB6.trans (hbAA.mono (by omega))
          have hwAA : wr.heap.size ≤ (wr.alloc (.cells #[] 3)).drew.heap.size := by simp
          have hstA : OwnL (wr.alloc (.cells #[] 3)).drew wr.heap.size (.slice (some ⟨wr.heap.size, 0, none⟩) 0 0) [] := (OwnL.made wr wr.heap.size (Nat.le_refl _)).below ((Below.refl _ _).drew)
          have HR6 := Lib.hid (HR.out.dr D6)
          have hrAA := (HR6.out.below hbAA hZ6.2).takeI z
          have HTL : Hid (z = (l.take z).length) := by show _ = _; simp; omega
          have HDL : Hid (l.length - (z + 1) = (l.drop (z + 1)).length) := by show _ = _; simp
          have HO := Lib.hid ho'
          have h1 : (l.take z).length ≤ 1099511627776 := by simp; omega
          have h2 : (l.drop (z + 1)).length ≤ 1099511627776 := by simp; omega
          have hl00 : ([] : List Int).length ≤ 1099511627776 := by simp
          have HE : Hid (l.take z ++ l.drop (z + 1) = l.eraseIdx z) := by show _ = _; rw [List.eraseIdx_eq_take_drop_succ]
          have hww : w.heap.size ≤ wr.heap.size := by omega
          clear ha2 hx2 hz hz2 ho' hmu HR hB D6 HX1
          go_wp2_with fail
          go_region_held3 (fun _ => True) (trivial) ((first
            | (refine step_appSg (by rfl) _ _ (by rfl) wr.heap.size _ [] (by rfl) hstA (l.take z) w.heap.size wo.heap.size _ _ ⟨b1, o2, none⟩ HTL.out (by rfl) hrAA hl00 h1 hwAA ?_; intro v5 w5 hown5 hb5 _; rw [List.nil_append] at hown5; have hb05 := hbAA.trans hb5; have hz5 := hb05.size; have hri5 := (HR6.out.below hb05 hZ6.2).dropI HO.out; clear hstA hrAA)
            | (refine step_appSg (by rfl) _ _ (by rfl) wr.heap.size _ (l.take z) (by rfl) hown5 (l.drop (z + 1)) w.heap.size wo.heap.size _ _ ⟨b1, o', none⟩ HDL.out (by rfl) hri5 h1 h2 hz5 ?_; intro v6 w6 hown6 hb6 _)
            | fail))
          all_goals
            have hb06 := hb05.trans hb6
            rw [HE.out] at hown6
            obtain ⟨a7, c7, rfl, ho7⟩ := hown6.slice
            go_wp2
            go_roundw
            case rel => exact ⟨k + 1, l.eraseIdx z, a7, c7, o1 * x, by omega, rfl, rfl, by go_num, ho7.wide hww (by first | exact Nat.le_refl _ | simp), HN, hB6.trans (hb06.mono hww)⟩
            case measure => simp [intOf]; omega
    · have hkt : k = tn := by omega
      subst hkt
      have HF := Lib.hid (HS.out.fin HOK.out htn)
      go_wp2
      go_ret
      exact ⟨by first | rfl | (rw [HF.out]; rfl), hB⟩

end Go.Proofs.Ytehoagbpgahopaa
