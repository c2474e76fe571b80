/- Walks: the tests of an iterator collected in a slice. -/
import Derived.Maps.OwnIn
import Derived.Test.YtekkhadlchfjnaaZx
import Derived.Test.YtekkhadlchfjnaaYa
import Derived.Test.YtekkhadlchfjnaaWw
import Derived.Test.YtekkhadlchfjnaaWv
namespace Go.Proofs.Ytekkhadlchfjnaa
open Go.RowKit Go.Shelf

attribute [local go_sem] Oper.semAt_some

theorem wpListIn_appP {F : Fence} {n : Nat} {wr : World} {ops : Array Oper} {rest : List Oper} {o : Oper} {a : Act} {Q : Exit → Act → World → Prop} (hgd : o.guard = none) (s t : Operand)
    (ho : o.op = .call { callee := .builtin .append, args := #[s, t], argTypes := #[65, 65] }) (B : Nat) (v : Value) (ps : List (List Int)) (hs : a.eval s = v) (hown : OwnP wr B v ps) (l : List Int)
    (nw : Nat) (hx : a.eval t = .slice (some ⟨nw, 0, none⟩) 1 1) (hnw : nw = wr.heap.size) (hl : ps.length ≤ 1099511627776) (hB : B ≤ wr.heap.size)
    (h : ∀ v' w', OwnP w' B v' (ps ++ [l]) → GrP wr w' v v' → wpListIn F n Try.prog ops Q rest (a.put o.dst v') w') : wpListIn F n Try.prog ops Q (o :: rest) a (wr.alloc (.cells #[.int .i64 (at5 l 0), .int .i64 (at5 l 1), .int .i64 (at5 l 2), .int .i64 (at5 l 3), .int .i64 (at5 l 4)] 72)) := by
  subst hnw
  obtain ⟨i0, hi, hz0, hz1, hz2⟩ := info_parts infoPat
  have hlt := World.ownsRow.lt hown
  refine wpListIn_append_own_at _ hgd s t 65 ho B 72 i0 _ 5 40 undPs hi hz0 hz1 hz2 rfl (by decide) v ps.length (ps.flatMap cs5) hs (World.ownsRow.alloc hown _) ⟨wr.heap.size, 0, none⟩ 1 1 (cs5 l) hx rfl ?_ ?_ ?_ ?_ ?_ ?_
  · exact World.news_of_block (cs := #[.int .i64 (at5 l 0), .int .i64 (at5 l 1), .int .i64 (at5 l 2), .int .i64 (at5 l 3), .int .i64 (at5 l 4)]) (t := 72) (fr := (0, 0)) (heap_alloc_new wr _)
  · intro u hu; simp [cs5] at hu; rcases hu with rfl | rfl | rfl | rfl | rfl <;> rfl
  · unfold maxLen; omega
  · omega
  · simp; omega
  · intro v' w' h1 h2 h3 h4
    refine h v' w' ?_ ⟨(World.grownBy_alloc wr _ _).trans h2, ?_⟩
    · unfold OwnP; rw [List.flatMap_append, List.length_append]; simpa using h1
    · rcases h4 with h4 | h4
      · exact .inl h4
      · refine .inr ⟨_, h4, by simp, ?_⟩
        exact ((World.ownsRow.lt h1) _ h4).2

set_option maxRecDepth 100000 in
set_option maxHeartbeats 2000000 in
theorem x_AppendSeqP {xs : List (List Int)} {gf : Nat} {lb : Array Value} {n₀ K : Nat} {w0 w : World} (eg : ∀ args w, (callFunc gf args).run Try.prog w = .ok (.enter gf args) w)
    (hseq : SeqO Try.prog gf lb (fun x : List Int => #[.agg #[.int .i64 (at5 x 0), .int .i64 (at5 x 1), .int .i64 (at5 x 2), .int .i64 (at5 x 3), .int .i64 (at5 x 4)]]) xs n₀ 0 0 K w0) (hn₀ : n₀ ≤ w.heap.size) (hb0 : Below n₀ w0 w) (hl : xs.length ≤ 1048576) :
    Calls Try.prog 170 #[.slice none 0 0, .func (.func gf) #[] lb] w (NewP w xs) := by
  refine (callsIn_wide (n := 3)).1 ?_
  refine callsIn_of_wp_marks Try.func170 rfl trivial ?_ rfl
  simp only [Try.ntmps170, List.size_toArray, List.length_cons, List.length_nil, Nat.reduceAdd, Nat.reduceSub, Array.replicate_succ, Array.replicate_zero, List.push_toArray, List.append_toArray, List.nil_append, List.cons_append]
  gi_wp2
  have hbox := heap_alloc_new w (.cells #[.slice none 0 0] 65)
  have hbW := (Below.refl w.heap.size w).alloc (Nat.le_refl _) (.cells #[.slice none 0 0] 65)
  have hbn : Below n₀ w0 (w.alloc (.cells #[.slice none 0 0] 65)) := hb0.trans (hbW.mono hn₀)
  obtain ⟨W, hW⟩ : ∃ W, w.alloc (.cells #[.slice none 0 0] 65) = W := ⟨_, rfl⟩
  have hWs : W.heap.size = w.heap.size + 1 := by rw [← hW]; simp
  rw [hW] at hbox hbW hbn ⊢
  clear hW
  refine wpIn_rangeO (gf := gf) (lb := lb) rfl eg hseq (by omega) (Nat.zero_le _) hbn (fun _ => rfl)
    (fun pre A => ∃ v, A.heap[w.heap.size]? = some (.cells #[v] 65 (0, 0)) ∧ OwnP A (W.heap.size + 2 + K) v pre ∧ Below w.heap.size w A ∧ W.heap.size ≤ A.heap.size) (fun _ _ _ => False)
    ?hI (fun _ _ _ _ h _ => h) ⟨_, hbox, OwnP.nil _ _, hbW, Nat.le_refl _⟩ 
    (fun x a' A => ∃ Bx, W.heap.size + 2 + K ≤ Bx ∧ A.heap[Bx]? = some (.cells #[.int .i64 (at5 x 0), .int .i64 (at5 x 1), .int .i64 (at5 x 2), .int .i64 (at5 x 3), .int .i64 (at5 x 4)] 72 (0, 0)) ∧ a' = { tmps := #[.slice none 0 0, .func (.func gf) #[] lb, .pointer (some ⟨w.heap.size, 0, none⟩), undef, .slice none 0 0, .pointer (some ⟨Bx, 0, none⟩), .func (.func gf) #[] lb, .agg #[.int .i64 (at5 x 0), .int .i64 (at5 x 1), .int .i64 (at5 x 2), .int .i64 (at5 x 3), .int .i64 (at5 x 4)], undef, undef, undef, undef, undef], defers := [] }) ?hAx ?assign ?body ?done ?stop
  case hI =>
    rintro pre A A' ⟨v, hv, hown, hbw, hsz⟩ hu
    have hlt := hown.lt
    refine ⟨v, (hu.block _ (by omega) (.inr (Nat.zero_le _)) (.inl (by omega))).trans hv, hown.kept fun k hk hg => hu.block k hk (.inr (Nat.zero_le _)) (.inr (hlt k hg).1), hbw.trans (hu.below (by omega) (by omega)), by have := hu.size; omega⟩
  case hAx =>
    rintro x a' A A' ⟨Bx, hBx, hc, rfl⟩ hu
    exact ⟨Bx, hBx, (hu.block _ (Array.getElem?_eq_some_iff.1 hc).1 (.inr (Nat.zero_le _)) (.inr hBx)).trans hc, rfl⟩
  case assign =>
    rintro l pre x A Kk ⟨v, hv, hown, hbw, hsz⟩ hsz2 hK
    have hA := (Below.refl A.heap.size A).alloc (Nat.le_refl _) (.cells #[.int .i64 (at5 x 0), .int .i64 (at5 x 1), .int .i64 (at5 x 2), .int .i64 (at5 x 3), .int .i64 (at5 x 4)] 72)
    gi_wp2
    refine hK _ _ (Ke.ofBelow hA hsz2) (hA.mono (by omega)) ⟨v, (hA.block _ (by omega)).trans hv, hown.kept fun k hk _ => hA.block k hk, hbw.trans (hA.mono (by have := hbw.size; omega)), by simp; omega⟩ ⟨A.heap.size, hsz2, heap_alloc_new _ _, rfl⟩
  case body =>
    rintro l pre x a' A ⟨v, hv, hown, hbw, hsz⟩ ⟨Bx, hBx, hc, rfl⟩ hpre hsz2
    have hpl : pre.length ≤ 1048576 := by have := hpre.length_le; simp at this; omega
    obtain ⟨av, cv, rfl, _⟩ := hown.at
    have hcv := cell_of_row _ _ 0 _ _ _ hv
    simp at hcv
    have hfv := frozen5 hv 0
    obtain ⟨t0, t1, t2, t3, t4⟩ := cells5' hc
    have hlt := hown.lt
    have hvs : ∀ w5 v5, GrP A w5 (.slice av pre.length cv) v5 → w5.heap[w.heap.size]? = some (.cells #[.slice av pre.length cv] 65 (0, 0)) := fun w5 v5 hg =>
      (hg.gr.block _ (by omega) (fun e => by have := (hlt _ e.symm).1; omega)).trans hv
    gi_wp2_with (gi_at_builtin; refine wpListIn_appP rfl _ _ rfl (W.heap.size + 2 + K) (.slice av pre.length cv) pre rfl hown x _ rfl rfl (by omega) (by omega) ?_; intro v5 w5 hown5 hg5; obtain ⟨a5, c5, rfl, _⟩ := hown5.at; have hv5 := hvs _ _ hg5; have hcv5 := cell_of_row _ _ 0 _ _ _ hv5; simp at hcv5; have hfv5 := frozen5 hv5 0)
    have hs5 := hg5.gr.size
    have hlt5 := hown5.lt
    have hbel : Below (W.heap.size + 2 + K) A w5 := hg5.below (fun g hg => (hlt g hg).1) hsz2
    have hrow : (w5.setCell ⟨w.heap.size, 0, none⟩ (.slice a5 (pre.length + 1) c5)).heap[w.heap.size]? = some (.cells #[.slice a5 (pre.length + 1) c5] 65 (0, 0)) := by
      simp only [World.setCell, Array.getElem?_modify, if_true]; rw [hv5]; rfl
    refine ⟨(Ke.ofBelow hbel (Nat.le_refl _)).trans fun k k1 k2 => Below.heap_setCell _ _ _ _ (by simp; omega), (hbel.mono (by omega)).setCell (p := ⟨w.heap.size, 0, none⟩) hn₀ _, _, hrow, ?_, ((hbw.trans (hbel.mono (by omega))).setCell (p := ⟨w.heap.size, 0, none⟩) (Nat.le_refl _) _), by simp [World.setCell]; omega⟩
    have hown6 := hown5.kept (w' := w5.setCell ⟨w.heap.size, 0, none⟩ (.slice a5 (pre.length + 1) c5)) fun k hk hg => Below.heap_setCell _ _ _ _ (by have := (hlt5 k hg).1; simp; omega)
    simpa using hown6
  case done =>
    rintro D A hD1 hD2 ⟨v, hv, hown, hbw, hsz⟩ hk
    obtain ⟨av, cv, rfl, _⟩ := hown.at
    have hlt := hown.lt
    have hcv := cell_of_row _ _ 0 _ _ _ hv
    simp at hcv
    gi_wp2
    refine ⟨by simp, .inl ⟨_, _, rfl, run_takeDeferred hk, ?_⟩⟩
    have hDA := (Array.getElem?_eq_some_iff.1 hk).1
    refine ⟨_, results_tmp rfl _ _ _, _, rfl, (hown.kept fun k hk hg => World.putObj_heap_other ?_).mono (by omega), hbw.trans ⟨rfl, rfl, rfl, by simp, fun k hk => World.putObj_heap_other (by omega)⟩⟩
    have := (hlt k hg).1
    omega
  case stop =>
    rintro D c pre A _ _ _ h _
    exact h.elim

theorem x_CollectP {xs : List (List Int)} {gf : Nat} {lb : Array Value} {n₀ K : Nat} {w0 w : World} (eg : ∀ args w, (callFunc gf args).run Try.prog w = .ok (.enter gf args) w)
    (hseq : SeqO Try.prog gf lb (fun x : List Int => #[.agg #[.int .i64 (at5 x 0), .int .i64 (at5 x 1), .int .i64 (at5 x 2), .int .i64 (at5 x 3), .int .i64 (at5 x 4)]]) xs n₀ 0 0 K w0) (hn₀ : n₀ ≤ w.heap.size) (hb0 : Below n₀ w0 w) (hl : xs.length ≤ 1048576) :
    Calls Try.prog 151 #[.func (.func gf) #[] lb] w (NewP w xs) := by
  go_enter Try.func151, Try.ntmps151
  go_wp2_with fail
  refine (x_AppendSeqP eg hseq hn₀ hb0 hl).mono ?_
  rintro e w' ⟨v, rfl, hown, hb⟩
  obtain ⟨av, cv, rfl, _⟩ := hown.at
  go_wp2
  go_ret
  exact ⟨_, rfl, hown, hb⟩

end Go.Proofs.Ytekkhadlchfjnaa
