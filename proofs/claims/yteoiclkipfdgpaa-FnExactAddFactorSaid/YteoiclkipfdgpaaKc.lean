/- Walks: a test with each level for one more factor, as an iterator. -/
import Derived.Test.YteoiclkipfdgpaaZg
import Derived.Test.YteoiclkipfdgpaaTc
namespace Go.Proofs.Yteoiclkipfdgpaa
open Go.RowKit Go.Shelf

attribute [local go_sem] Oper.semAt_some

theorem i_withEachLevel {T : Nat → Int} {f n : Int} {w : World} :
    Calls Try.prog 35 #[.agg #[.int .i64 (T 0), .int .i64 (T 1), .int .i64 (T 2), .int .i64 (T 3), .int .i64 (T 4)], .int .i64 f, .int .i64 n] w (fun e w' => e = .returned (.func (.func 63) #[] #[.pointer (some ⟨w.heap.size + 2, 0, none⟩), .pointer (some ⟨w.heap.size, 0, none⟩), .pointer (some ⟨w.heap.size + 1, 0, none⟩)]) ∧ w' = ((w.alloc (.cells #[.int .i64 (T 0), .int .i64 (T 1), .int .i64 (T 2), .int .i64 (T 3), .int .i64 (T 4)] 50)).alloc (.cells #[.int .i64 f] 3)).alloc (.cells #[.int .i64 n] 3)) := by
  go_enter Try.func35, Try.ntmps35
  go_wp2
  go_ret
  exact ⟨by simp, rfl⟩

/-- the array of a test with a level put for the factor f -/
theorem wd_cel {r : List Int} {f k : Nat} {T : Nat → Int} (hr : r.length = f) (_hf : f < 5) (hT : ∀ i, i ≠ f → T i = at5 r i) : putT T f (k : Int) = at5 (r ++ [(k : Int)]) := by
  funext i
  unfold putT
  by_cases h : i = f
  · subst h; rw [if_pos rfl]; exact (at5_of (by rw [List.getElem?_append_right (by omega)]; simp [hr])).symm
  · rw [if_neg h, hT i h]
    unfold at5 List.getD
    by_cases hi : i < r.length
    · rw [List.getElem?_append_left hi]
    · rw [List.getElem?_eq_none (by omega), List.getElem?_eq_none (by simp; omega)]

set_option maxRecDepth 100000 in
set_option maxHeartbeats 2000000 in
theorem withEach1_seq {r : List Int} {f n bt bf bl n₀ : Nat} {w : World} (hr : r.length = f) (hf : f < 5) (hn : n ≤ 3)
    (ht : w.heap[bt]? = some (.cells #[.int .i64 (at5 r 0), .int .i64 (at5 r 1), .int .i64 (at5 r 2), .int .i64 (at5 r 3), .int .i64 (at5 r 4)] 50 (0, 0))) (hbf : w.heap[bf]? = some (.cells #[.int .i64 f] 3 (0, 0))) (hbl : w.heap[bl]? = some (.cells #[.int .i64 n] 3 (0, 0)))
    (h1 : bt < n₀) (h2 : bf < n₀) (h3 : bl < n₀) (d1 : bf ≠ bt) (_d2 : bl ≠ bt) (_hn₀ : n₀ ≤ w.heap.size) :
    SeqO Try.prog 63 #[.pointer (some ⟨bl, 0, none⟩), .pointer (some ⟨bt, 0, none⟩), .pointer (some ⟨bf, 0, none⟩)] (fun x : List Int => #[.agg #[.int .i64 (at5 x 0), .int .i64 (at5 x 1), .int .i64 (at5 x 2), .int .i64 (at5 x 3), .int .i64 (at5 x 4)]]) (wdC n r) n₀ bt (bt + 1) 0 w := by
  intro n' l J Jx W hW hJ hY h0
  have hws := hW.size
  have hcl : W.cell? ⟨bl, 0, none⟩ = some (.int .i64 n) := by rw [cell_of_row _ _ 0 _ _ _ ((hW.block bl h3).trans hbl)]; rfl
  have HT0 := Lib.hid ((hW.block bt h1).trans ht)
  have HF0 := Lib.hid ((hW.block bf h2).trans hbf)
  have HXS : Hid (∀ k, k < n → (wdC n r).take k ++ [r ++ [(k : Int)]] = (wdC n r).take (k + 1)) := fun k hk => by
    rw [take_snoc (m := wdC n r) (k := k) (x := r ++ [(k : Int)]) (by simp [wdC, hk])]
  refine callsIn_of_wp Try.func63 rfl trivial ?_ rfl
  simp only [Try.ntmps63, List.size_toArray, List.length_cons, List.length_nil, Nat.reduceAdd, Nat.reduceSub, Array.replicate_succ, Array.replicate_zero, List.push_toArray, List.append_toArray, List.nil_append, List.cons_append]
  gi_wp2
  gi_loopw [5, 7] (fun _ kv wr => ∃ (k : Nat) (T : Nat → Int), k ≤ n ∧ kv = .int .i64 k ∧ J ((wdC n r).take k) wr ∧ wr.heap[bt]? = some (.cells #[.int .i64 (T 0), .int .i64 (T 1), .int .i64 (T 2), .int .i64 (T 3), .int .i64 (T 4)] 50 (0, 0)) ∧ Hid (∀ i, i ≠ f → T i = at5 r i) ∧ wr.heap[bf]? = some (.cells #[.int .i64 f] 3 (0, 0)) ∧ W.heap.size ≤ wr.heap.size) (fun _ kv _ => n - (intOf kv).toNat)
  case atStart => exact ⟨0, at5 r, Nat.zero_le _, rfl, h0, HT0.out, fun _ _ => rfl, HF0.out, Nat.le_refl _⟩
  case round =>
    obtain ⟨k, T, hk, rfl, hj, hcT, HTT, hcF, hsz⟩ := hrel
    by_cases hlt : k < n
    · have hcf : wr.cell? ⟨bf, 0, none⟩ = some (.int .i64 f) := by rw [cell_of_row _ _ 0 _ _ _ hcF]; rfl
      have hfz := frozen5 hcT f
      have hidx := idxAt5 bt hf
      have hcc := cell5 hcT hf
      have hset := setQ hcT hf (k : Int)
      have hpt := wd_cel (k := k) hr hf HTT.out
      rw [hpt] at hset
      obtain ⟨t0, t1, t2, t3, t4⟩ := cells5' hset
      have hjn := hJ _ _ _ hj ((Up2.refl bt (bt + 1) W.heap.size (W.heap.size + 0) wr).set (p := ⟨bt, f, none⟩) (.int .i64 (k : Int)) (.inl ⟨Nat.le_refl _, Nat.lt_succ_self _⟩))
      obtain ⟨fn, tmps, assign, body, hy, hR⟩ := hY ((wdC n r).take k) (r ++ [(k : Int)]) (wr.setCell ⟨bt, f, none⟩ (.int .i64 (k : Int))) hjn (by rw [HXS.out k hlt]; exact List.take_prefix _ _) (by simp [World.setCell]; omega)
      rw [HXS.out k hlt] at hR
      try dsimp only at hy
      have hcF1 : (wr.setCell ⟨bt, f, none⟩ (.int .i64 (k : Int))).heap[bf]? = some (.cells #[.int .i64 f] 3 (0, 0)) := (Below.heap_setCell _ _ _ _ (by show bf ≠ bt; exact d1)).trans hcF
      have hszS : wr.heap.size ≤ (wr.setCell ⟨bt, f, none⟩ (.int .i64 (k : Int))).heap.size := by simp [World.setCell]
      have HSET := Lib.hid hset; have HCF1 := Lib.hid hcF1; have HPT := Lib.hid hpt
      clear hset hcF1 hpt hj hjn hcT hcF
      gi_wp2
      refine hR.mono ?_
      rintro e W3 (⟨rfl, hj3, hk3, hb3⟩ | ⟨rfl, hx3⟩)
      · have hcT3 := (hb3.block bt h1).trans HSET.out
        have hcF3 := (hb3.block bf h2).trans HCF1.out
        have hz3 := hb3.size
        have HT3 : Hid (∀ i, i ≠ f → at5 (r ++ [(k : Int)]) i = at5 r i) := fun i hi => by
          rw [← HPT.out]; unfold putT; rw [if_neg hi]; exact HTT.out i hi
        clear hR hy t0 t1 t2 t3 t4 hcc hfz hidx hcf hb3 hk3
        gi_wp2
        go_roundw
        case rel => exact ⟨k + 1, _, by omega, by go_num, hj3, hcT3, HT3, hcF3, by omega⟩
        case measure => simp [intOf]; omega
      · gi_wp2
        refine bodyPost_ret (results_none rfl _ _ _) rfl ?_
        exact ⟨⟨_, rfl⟩, .inr ⟨_, List.take_prefix _ _, hx3⟩⟩
    · have hlw : (wdC n r).length ≤ k := by rw [wdC_len]; omega
      rw [List.take_of_length_le hlw] at hj
      have hkn : k = n := by omega
      subst hkn
      gi_wp2
      go_end0
      exact ⟨⟨_, rfl⟩, .inl hj⟩

end Go.Proofs.Yteoiclkipfdgpaa
