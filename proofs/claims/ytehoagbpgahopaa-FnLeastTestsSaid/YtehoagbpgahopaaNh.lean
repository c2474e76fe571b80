/- Walks: slices.Values of numbers, and slices.Collect of what it gives. -/
import Derived.Test.YtehoagbpgahopaaZg
import Derived.Test.YtehoagbpgahopaaOwnL
namespace Go.Proofs.Ytehoagbpgahopaa
open Go.RowKit Go.Shelf

theorem ownL_lt {w : World} {B : Nat} {v : Value} {l : List Int} (h : OwnL w B v l) : ∀ g, v.ownBlock = some g → B ≤ g ∧ g < w.heap.size := World.ownsRow.lt h
theorem ownL_kept {w w' : World} {B : Nat} {v : Value} {l : List Int} (h : OwnL w B v l) (hb : ∀ k, k < w.heap.size → v.ownBlock = some k → w'.heap[k]? = w.heap[k]?) : OwnL w' B v l := by
  have hlt := ownL_lt h
  obtain ⟨h1, h2⟩ := h
  refine ⟨h1, ?_⟩
  rcases h2 with h2 | ⟨g, cap, cur, rfl, hB, hg, rest⟩
  · exact .inl h2
  · exact .inr ⟨g, cap, cur, rfl, hB, by rw [hb g (hlt g rfl).2 rfl]; exact hg, rest⟩
theorem ownL_base {w : World} {B B' : Nat} {v : Value} {l : List Int} (h : OwnL w B v l) (hB : B' ≤ B) : OwnL w B' v l := by
  refine ⟨h.1, ?_⟩
  rcases h.2 with h1 | ⟨g, cap, cur, e, h2, h3⟩
  · exact .inl h1
  · exact .inr ⟨g, cap, cur, e, by omega, h3⟩

theorem x_ValuesI {a : Option Addr} {n c : Nat} {w : World} :
    Calls Try.prog 159 #[.slice a n c] w (fun e w' => e = .returned (.func (.func 235) #[] #[.pointer (some ⟨w.heap.size, 0, none⟩)]) ∧ w' = w.alloc (.cells #[.slice a n c] 23)) := by
  go_enter Try.func159, Try.ntmps159
  go_wp2
  go_ret
  exact ⟨rfl, rfl⟩

set_option maxRecDepth 100000 in
set_option maxHeartbeats 2000000 in
theorem valuesI_seq {xs : List Int} {a : Option Addr} {c lo hi b n₀ : Nat} {w0 w : World} (ho : RI w0 lo hi a xs) (hhi : hi ≤ w0.heap.size) (hb0 : Below w0.heap.size w0 w) (hn0 : w0.heap.size ≤ n₀) (hl : xs.length ≤ 1048576) (hb : w.heap[b]? = some (.cells #[.slice a xs.length c] 23 (0, 0))) (hbn : b < n₀) (hn : n₀ ≤ w.heap.size) :
    SeqO Try.prog 235 #[.pointer (some ⟨b, 0, none⟩)] (fun x : Int => #[.int .i64 x]) xs n₀ 0 0 0 w := by
  intro n l J Jx W hW hJ hY h0
  obtain ⟨M, hM⟩ : ∃ M, xs.length = M := ⟨_, rfl⟩
  have HNN := Lib.hid hM
  have HO := Lib.hid ho
  have hMl : M ≤ 1048576 := by omega
  rw [hM] at hb
  have hws := hW.size
  have hcb : W.cell? ⟨b, 0, none⟩ = some (.slice a M c) := by
    rw [cell_of_row _ _ 0 _ _ _ ((hW.block b hbn).trans hb)]; rfl
  clear ho hM hl
  refine callsIn_of_wp Try.func235 rfl trivial ?_ rfl
  simp only [Try.ntmps235, List.size_toArray, List.length_cons, List.length_nil, Nat.reduceAdd, Nat.reduceSub, Array.replicate_succ, Array.replicate_zero, List.push_toArray, List.append_toArray, List.nil_append, List.cons_append]
  gi_wp2
  gi_loopw [7] (fun i wr => ∃ k : Nat, k ≤ M ∧ i = .int .i64 k ∧ J (xs.take k) wr ∧ Below n₀ w wr ∧ W.heap.size ≤ wr.heap.size) (fun i _ => M - (intOf i).toNat)
  case atStart => exact ⟨0, Nat.zero_le _, rfl, by simpa using h0, hW, Nat.le_refl _⟩
  case round =>
    obtain ⟨k, hk, rfl, hj, hbw, hsz⟩ := hrel
    by_cases hlt : k < M
    · have hbx : Below w0.heap.size w0 wr := hb0.trans (hbw.mono hn0)
      have hkx : k < xs.length := by have := HNN.out; omega
      obtain ⟨b1, o1, x, ha, _, _, hc, hx⟩ := (HO.out.below hbx hhi).at hkx
      have hidx := idxI ha hlt c
      obtain ⟨fn, tmps, assign, body, hy, hR⟩ := hY (xs.take k) x wr hj (by rw [← take_snoc hx.out]; exact List.take_prefix _ _) (by omega)
      rw [← take_snoc hx.out] at hR
      try dsimp only at hy
      clear ha hx
      gi_wp2
      refine hR.mono ?_
      rintro e W3 (⟨rfl, hj3, hk3, hb3⟩ | ⟨rfl, hx3⟩)
      · clear hR hy hc
        have hz3 := hb3.size
        have hbw3 := hbw.trans hb3
        gi_wp2
        go_roundw
        case rel => exact ⟨k + 1, by omega, by go_num, hj3, hbw3, by omega⟩
        case measure => simp [intOf]; omega
      · gi_wp2
        refine bodyPost_ret (results_none rfl _ _ _) rfl ?_
        exact ⟨⟨_, rfl⟩, .inr ⟨_, List.take_prefix _ _, hx3⟩⟩
    · gi_wp2
      go_end0
      rw [List.take_of_length_le (by have := HNN.out; omega)] at hj
      exact ⟨⟨_, rfl⟩, .inl hj⟩

theorem wpListIn_appI {F : Fence} {n : Nat} {wr : World} {ops : Array Oper} {rest : List Oper} {o : Oper} {a : Act} {Q : Exit → Act → World → Prop} (hgd : o.guard = none) (s t : Operand)
    (ho : o.op = .call { callee := .builtin .append, args := #[s, t], argTypes := #[23, 23] }) (B : Nat) (v : Value) (ps : List Int) (hs : a.eval s = v) (hown : OwnL wr B v ps) (x : Int)
    (nw : Nat) (hx : a.eval t = .slice (some ⟨nw, 0, none⟩) 1 1) (hnw : nw = wr.heap.size) (hl : ps.length ≤ 1099511627776) (hB : B ≤ wr.heap.size)
    (h : ∀ v' w', OwnL w' B v' (ps ++ [x]) → GrP wr w' v v' → wpListIn F n Try.prog ops Q rest (a.put o.dst v') w') : wpListIn F n Try.prog ops Q (o :: rest) a (wr.alloc (.cells #[.int .i64 x] 3)) := by
  subst hnw
  obtain ⟨i0, hi, hz0, hz1, hz2⟩ := info_parts infoInt
  have hlt := World.ownsRow.lt hown
  refine wpListIn_append_own_at _ hgd s t 23 ho B 3 i0 _ 1 8 undI hi hz0 hz1 hz2 rfl (by decide) v ps.length (ints ps) hs (World.ownsRow.alloc hown _) ⟨wr.heap.size, 0, none⟩ 1 1 [.int .i64 x] hx rfl (cell_one_new _ _ _) ?_ ?_ ?_ ?_ ?_
  · intro u hu; simp at hu; subst hu; rfl
  · unfold maxLen; omega
  · omega
  · simp; omega
  · intro v' w' h1 h2 h3 h4
    refine h v' w' ?_ ⟨(World.grownBy_alloc wr _ _).trans h2, ?_⟩
    · unfold OwnL; rw [List.length_append]; simpa [ints] using h1
    · rcases h4 with h4 | h4
      · exact .inl h4
      · refine .inr ⟨_, h4, by simp, ?_⟩
        exact ((World.ownsRow.lt h1) _ h4).2
attribute [local go_sem] Oper.semAt_some

def NewL (w : World) (l : List Int) (e : Ending) (w' : World) : Prop := ∃ a c, e = .returned (.slice a l.length c) ∧ OwnL w' w.heap.size (.slice a l.length c) l ∧ Below w.heap.size w w'

set_option maxRecDepth 100000 in
set_option maxHeartbeats 2000000 in
theorem x_AppendSeqI {xs : List Int} {gf : Nat} {lb : Array Value} {n₀ K : Nat} {w0 w : World} (eg : ∀ args w, (callFunc gf args).run Try.prog w = .ok (.enter gf args) w)
    (hseq : SeqO Try.prog gf lb (fun x : Int => #[.int .i64 x]) xs n₀ 0 0 K w0) (hn₀ : n₀ ≤ w.heap.size) (hb0 : Below n₀ w0 w) (hl : xs.length ≤ 1048576) :
    Calls Try.prog 250 #[.slice none 0 0, .func (.func gf) #[] lb] w (NewL w xs) := by
  refine (callsIn_wide (n := 3)).1 ?_
  refine callsIn_of_wp_marks Try.func250 rfl trivial ?_ rfl
  simp only [Try.ntmps250, List.size_toArray, List.length_cons, List.length_nil, Nat.reduceAdd, Nat.reduceSub, Array.replicate_succ, Array.replicate_zero, List.push_toArray, List.append_toArray, List.nil_append, List.cons_append]
  gi_wp2
  have hbox := heap_alloc_new w (.cells #[.slice none 0 0] 23)
  have hbW := (Below.refl w.heap.size w).alloc (Nat.le_refl _) (.cells #[.slice none 0 0] 23)
  have hbn : Below n₀ w0 (w.alloc (.cells #[.slice none 0 0] 23)) := hb0.trans (hbW.mono hn₀)
  obtain ⟨W, hW⟩ : ∃ W, w.alloc (.cells #[.slice none 0 0] 23) = W := ⟨_, rfl⟩
  have hWs : W.heap.size = w.heap.size + 1 := by rw [← hW]; simp
  rw [hW] at hbox hbW hbn ⊢
  clear hW
  refine wpIn_rangeO (gf := gf) (lb := lb) rfl eg hseq (by omega) (Nat.zero_le _) hbn (fun _ => rfl)
    (fun pre A => ∃ v, A.heap[w.heap.size]? = some (.cells #[v] 23 (0, 0)) ∧ OwnL A (W.heap.size + 2 + K) v pre ∧ Below w.heap.size w A ∧ W.heap.size ≤ A.heap.size) (fun _ _ _ => False)
    ?hI (fun _ _ _ _ h _ => h) ⟨_, hbox, OwnL.nil _ _, hbW, Nat.le_refl _⟩ 
    (fun x a' A => a' = { tmps := #[.slice none 0 0, .func (.func gf) #[] lb, .pointer (some ⟨w.heap.size, 0, none⟩), undef, .slice none 0 0, .int .i64 x, .func (.func gf) #[] lb, .int .i64 x, undef, undef, undef, undef, undef], defers := [] }) ?hAx ?assign ?body ?done ?stop
  case hI =>
    rintro pre A A' ⟨v, hv, hown, hbw, hsz⟩ hu
    have hlt := ownL_lt hown
    refine ⟨v, (hu.block _ (by omega) (.inr (Nat.zero_le _)) (.inl (by omega))).trans hv, ownL_kept hown fun k hk hg => hu.block k hk (.inr (Nat.zero_le _)) (.inr (hlt k hg).1), hbw.trans (hu.below (by omega) (by omega)), by have := hu.size; omega⟩
  case hAx =>
    rintro x a' A A' rfl hu
    rfl
  case assign =>
    rintro l pre x A Kk ⟨v, hv, hown, hbw, hsz⟩ hsz2 hK
    gi_wp2
    exact hK _ _ (Ke.refl _ _ _) (Below.refl _ _) ⟨v, hv, hown, hbw, hsz⟩ rfl
  case body =>
    rintro l pre x a' A ⟨v, hv, hown, hbw, hsz⟩ rfl hpre hsz2
    have hpl : pre.length ≤ 1048576 := by have := hpre.length_le; simp at this; omega
    obtain ⟨av, cv, rfl, _⟩ := hown.slice
    have hcv := cell_of_row _ _ 0 _ _ _ hv
    simp at hcv
    have hfv := frozen5 hv 0
    have hlt := ownL_lt hown
    have hvs : ∀ w5 v5, GrP A w5 (.slice av pre.length cv) v5 → w5.heap[w.heap.size]? = some (.cells #[.slice av pre.length cv] 23 (0, 0)) := fun w5 v5 hg =>
      (hg.gr.block _ (by omega) (fun e => by have := (hlt _ e.symm).1; omega)).trans hv
    gi_wp2_with (gi_at_builtin; refine wpListIn_appI rfl _ _ rfl (W.heap.size + 2 + K) (.slice av pre.length cv) pre rfl hown x _ rfl rfl (by omega) (by omega) ?_; intro v5 w5 hown5 hg5; obtain ⟨a5, c5, rfl, _⟩ := hown5.slice; have hv5 := hvs _ _ hg5; have hcv5 := cell_of_row _ _ 0 _ _ _ hv5; simp at hcv5; have hfv5 := frozen5 hv5 0)
    have hs5 := hg5.gr.size
    have hlt5 := ownL_lt hown5
    have hbel : Below (W.heap.size + 2 + K) A w5 := hg5.below (fun g hg => (hlt g hg).1) hsz2
    have hrow : (w5.setCell ⟨w.heap.size, 0, none⟩ (.slice a5 (pre.length + 1) c5)).heap[w.heap.size]? = some (.cells #[.slice a5 (pre.length + 1) c5] 23 (0, 0)) := by
      simp only [World.setCell, Array.getElem?_modify, if_true]; rw [hv5]; rfl
    refine ⟨(Ke.ofBelow hbel (Nat.le_refl _)).trans fun k k1 k2 => Below.heap_setCell _ _ _ _ (by simp; omega), (hbel.mono (by omega)).setCell (p := ⟨w.heap.size, 0, none⟩) hn₀ _, _, hrow, ?_, ((hbw.trans (hbel.mono (by omega))).setCell (p := ⟨w.heap.size, 0, none⟩) (Nat.le_refl _) _), by simp [World.setCell]; omega⟩
    have hown6 := ownL_kept (w' := w5.setCell ⟨w.heap.size, 0, none⟩ (.slice a5 (pre.length + 1) c5)) hown5 fun k hk hg => Below.heap_setCell _ _ _ _ (by have := (hlt5 k hg).1; simp; omega)
    simpa using hown6
  case done =>
    rintro D A hD1 hD2 ⟨v, hv, hown, hbw, hsz⟩ hk
    obtain ⟨av, cv, rfl, _⟩ := hown.slice
    have hlt := ownL_lt hown
    have hcv := cell_of_row _ _ 0 _ _ _ hv
    simp at hcv
    gi_wp2
    refine ⟨by simp, .inl ⟨_, _, rfl, run_takeDeferred hk, ?_⟩⟩
    have hDA := (Array.getElem?_eq_some_iff.1 hk).1
    refine ⟨_, results_tmp rfl _ _ _, _, _, rfl, ownL_base (ownL_kept hown fun k hk hg => World.putObj_heap_other ?_) (by omega), hbw.trans ⟨rfl, rfl, rfl, by simp, fun k hk => World.putObj_heap_other (by omega)⟩⟩
    have := (hlt k hg).1
    omega
  case stop =>
    rintro D c pre A _ _ _ h _
    exact h.elim

theorem x_CollectI {xs : List Int} {gf : Nat} {lb : Array Value} {n₀ K : Nat} {w0 w : World} (eg : ∀ args w, (callFunc gf args).run Try.prog w = .ok (.enter gf args) w)
    (hseq : SeqO Try.prog gf lb (fun x : Int => #[.int .i64 x]) xs n₀ 0 0 K w0) (hn₀ : n₀ ≤ w.heap.size) (hb0 : Below n₀ w0 w) (hl : xs.length ≤ 1048576) :
    Calls Try.prog 233 #[.func (.func gf) #[] lb] w (NewL w xs) := by
  go_enter Try.func233, Try.ntmps233
  go_wp2_with fail
  refine (x_AppendSeqI eg hseq hn₀ hb0 hl).mono ?_
  rintro e w' ⟨av, cv, rfl, hown, hb⟩
  go_wp2
  go_ret
  exact ⟨_, _, rfl, hown, hb⟩

end Go.Proofs.Ytehoagbpgahopaa
