/- Walks: the best one of the tests that an iterator gives. -/
import Derived.Test.YtekkhadlchfjnaaZy
namespace Go.Proofs.Ytekkhadlchfjnaa
open Go.RowKit Go.Shelf

attribute [local go_sem] Oper.semAt_some

theorem met5_step {ps : List (List Int)} {T : Nat → Int} {k : Nat} {r : List Int} (hx : ps[k]? = some r) : met5 (ps.take (k + 1)) T = met5 (ps.take k) T + if meet5 (at5 r) T then 1 else 0 := by
  unfold met5; rw [take_snoc hx, List.countP_append]; simp [List.countP_cons]
theorem met5_le (ps : List (List Int)) (T : Nat → Int) (k : Nat) : met5 (ps.take k) T ≤ k := Nat.le_trans List.countP_le_length (by simp; omega)
theorem met5_most (ps : List (List Int)) (T : Nat → Int) (k : Nat) : met5 ps T + k ≤ met5 (ps.take k) T + ps.length ∨ ps.length ≤ k := by
  by_cases h : ps.length ≤ k
  · exact .inr h
  · left
    unfold met5
    have e : ps = ps.take k ++ ps.drop k := (List.take_append_drop k ps).symm
    have h1 : ps.countP (fun p => meet5 (at5 p) T) = (ps.take k).countP (fun p => meet5 (at5 p) T) + (ps.drop k).countP (fun p => meet5 (at5 p) T) := by
      rw [← List.countP_append, List.take_append_drop]
    have h2 : (ps.drop k).countP (fun p => meet5 (at5 p) T) ≤ ps.length - k := by
      have := List.countP_le_length (p := fun p => meet5 (at5 p) T) (l := ps.drop k); simpa using this
    omega
/-- the most patterns that a test so far meets, or -1 -/
def moO (f : List Int → Nat) (pre : List (List Int)) : Int := if pre = [] then -1 else (f (bstL f pre) : Int)
theorem bsO_no {f : List Int → Nat} {pre : List (List Int)} {x : List Int} (h : (f x : Int) ≤ moO f pre) : bstL f (pre ++ [x]) = bstL f pre ∧ moO f (pre ++ [x]) = moO f pre := by
  have hne : pre ≠ [] := by
    intro e
    subst e
    unfold moO at h; rw [if_pos rfl] at h; omega
  have h2 := h
  unfold moO at h2; rw [if_neg hne] at h2
  have e : bstL f (pre ++ [x]) = bstL f pre := by rw [bstL_snoc f x hne, btr_no (by omega)]
  refine ⟨e, ?_⟩
  unfold moO
  rw [if_neg hne, if_neg (by simp), e]
theorem bsO_yes {f : List Int → Nat} {pre : List (List Int)} {x : List Int} (h : moO f pre < (f x : Int)) : bstL f (pre ++ [x]) = x ∧ moO f (pre ++ [x]) = f x := by
  have e : bstL f (pre ++ [x]) = x := by
    by_cases hne : pre = []
    · subst hne; rw [List.nil_append, bstL_one]
    · unfold moO at h; rw [if_neg hne] at h
      rw [bstL_snoc f x hne, btr_yes (by omega)]
  refine ⟨e, ?_⟩
  unfold moO
  rw [if_neg (by simp), e]
theorem moO_lo (f : List Int → Nat) (pre : List (List Int)) : -1 ≤ moO f pre := by
  unfold moO; split <;> omega
theorem moO_hi {ps : List (List Int)} (pre : List (List Int)) : moO (fun x => met5 ps (at5 x)) pre ≤ ps.length := by
  unfold moO
  split
  · omega
  · exact Int.ofNat_le.2 (Nat.le_trans List.countP_le_length (Nat.le_refl _))
theorem bstL_nil (f : List Int → Nat) : bstL f [] = [] := rfl

theorem al4 (w : World) (o0 o1 o2 o3 : Obj) : ((((w.alloc o0).alloc o1).alloc o2).alloc o3).heap[w.heap.size]? = some o0 ∧ ((((w.alloc o0).alloc o1).alloc o2).alloc o3).heap[w.heap.size + 1]? = some o1 ∧
    ((((w.alloc o0).alloc o1).alloc o2).alloc o3).heap[w.heap.size + 1 + 1]? = some o2 ∧ ((((w.alloc o0).alloc o1).alloc o2).alloc o3).heap[w.heap.size + 1 + 1 + 1]? = some o3 ∧ Below w.heap.size w ((((w.alloc o0).alloc o1).alloc o2).alloc o3) ∧
    ((((w.alloc o0).alloc o1).alloc o2).alloc o3).heap.size = w.heap.size + 4 := by
  have h0 := heap_alloc_new w o0
  have h1 := heap_alloc_new (w.alloc o0) o1
  have h2 := heap_alloc_new ((w.alloc o0).alloc o1) o2
  have h3 := heap_alloc_new (((w.alloc o0).alloc o1).alloc o2) o3
  simp only [World.size_alloc] at h1 h2 h3
  refine ⟨?_, ?_, ?_, h3, ((((Below.refl _ w).alloc (Nat.le_refl _) _).alloc (by simp) _).alloc (by simp <;> omega) _).alloc (by simp <;> omega) _, by simp⟩
  · rw [Below.heap_alloc _ _ _ (by simp <;> omega), Below.heap_alloc _ _ _ (by simp <;> omega), Below.heap_alloc _ _ _ (by simp)]; exact h0
  · rw [Below.heap_alloc _ _ _ (by simp <;> omega), Below.heap_alloc _ _ _ (by simp)]; exact h1
  · rw [Below.heap_alloc _ _ _ (by simp)]; exact h2
theorem set5q {w : World} {b t : Nat} {c : Array Value} (hc : c.size = 5) (h : w.heap[b]? = some (.cells c t (0, 0))) (v0 v1 v2 v3 v4 : Value) :
    (((((w.setCell ⟨b, 0, none⟩ v0).setCell ⟨b, 1, none⟩ v1).setCell ⟨b, 2, none⟩ v2).setCell ⟨b, 3, none⟩ v3).setCell ⟨b, 4, none⟩ v4).heap[b]? = some (.cells #[v0, v1, v2, v3, v4] t (0, 0)) := by
  obtain ⟨l⟩ := c
  match l, hc, h with
  | [x0, x1, x2, x3, x4], _, h =>
    simp only [World.setCell, Array.getElem?_modify, if_true]
    rw [h]; rfl
theorem set5w {w : World} {b t : Nat} {c : Array Value} (hc : c.size = 5) (h : w.heap[b]? = some (.cells c t (0, 0))) (v0 v1 v2 v3 v4 : Value) :
    ∃ W, W = (((((w.setCell ⟨b, 0, none⟩ v0).setCell ⟨b, 1, none⟩ v1).setCell ⟨b, 2, none⟩ v2).setCell ⟨b, 3, none⟩ v3).setCell ⟨b, 4, none⟩ v4) ∧ W.heap[b]? = some (.cells #[v0, v1, v2, v3, v4] t (0, 0)) ∧
      (∀ k, k ≠ b → W.heap[k]? = w.heap[k]?) ∧ W.heap.size = w.heap.size ∧ (W.os = w.os ∧ W.tape = w.tape ∧ W.output = w.output) := by
  refine ⟨_, rfl, set5q hc h v0 v1 v2 v3 v4, fun k hk => ?_, by simp only [World.setCell, Array.size_modify], by simp only [World.setCell], by simp only [World.setCell], by simp only [World.setCell]⟩
  simp only [World.setCell, Array.getElem?_modify, if_neg (Ne.symm hk)]
theorem set1w {w : World} {b t : Nat} {u : Value} (h : w.heap[b]? = some (.cells #[u] t (0, 0))) (v : Value) : (w.setCell ⟨b, 0, none⟩ v).heap[b]? = some (.cells #[v] t (0, 0)) := by
  simp only [World.setCell, Array.getElem?_modify, if_true]; rw [h]; rfl

theorem infoPatB : (Try.prog.info? 72).map (·.size) = some 5 := by kernel_rfl
/-- the four boxes of bestOf, B ahead of them -/
structure BoI (B : Nat) (w : World) (v : Value) (f : List Int → Nat) (lo hi : Nat) (pre : List (List Int)) (A : World) : Prop where
  h0 : A.heap[B]? = some (.cells #[v] 65 (0, 0))
  h1 : A.heap[B + 1]? = some (.cells #[.int .i64 ((fun _ => 0) 0), .int .i64 ((fun _ => 0) 1), .int .i64 ((fun _ => 0) 2), .int .i64 ((fun _ => 0) 3), .int .i64 ((fun _ => 0) 4)] 72 (0, 0))
  h2 : A.heap[B + 1 + 1]? = some (.cells #[.int .i64 (at5 (bstL f pre) 0), .int .i64 (at5 (bstL f pre) 1), .int .i64 (at5 (bstL f pre) 2), .int .i64 (at5 (bstL f pre) 3), .int .i64 (at5 (bstL f pre) 4)] 72 (0, 0))
  h3 : A.heap[B + 1 + 1 + 1]? = some (.cells #[.int .i64 (moO f pre)] 3 (0, 0))
  up : Upd lo hi w A
  sz : B + 4 ≤ A.heap.size
theorem BoI.turn {B : Nat} {w : World} {v : Value} {f : List Int → Nat} {lo hi : Nat} {pre : List (List Int)} {A A' : World} (h : BoI B w v f lo hi pre A) (hw : B = w.heap.size) (hos : A'.os = A.os) (ht : A'.tape = A.tape) (ho : A'.output = A.output) (hs : A.heap.size ≤ A'.heap.size)
    (hk : ∀ k, k < B + 4 → (k < lo ∨ hi ≤ k) → A'.heap[k]? = A.heap[k]?) (hhi : hi ≤ B) : BoI B w v f lo hi pre A' :=
  ⟨(hk _ (by omega) (.inr hhi)).trans h.h0, (hk _ (by omega) (.inr (by omega))).trans h.h1, (hk _ (by omega) (.inr (by omega))).trans h.h2, (hk _ (by omega) (.inr (by omega))).trans h.h3,
    ⟨hos.trans h.up.os, ht.trans h.up.tape, ho.trans h.up.output, Nat.le_trans h.up.size hs, fun k hk1 hk2 => (hk k (by omega) hk2).trans (h.up.block k hk1 hk2)⟩, by have := h.sz; omega⟩

set_option maxRecDepth 100000 in
set_option maxHeartbeats 4000000 in
theorem i_bestOf {ps xs : List (List Int)} {v : Value} {Bp : Nat} {wp : World} {gf : Nat} {lb : Array Value} {n₀ lo hi K : Nat} {w0 w : World} (eg : ∀ args w, (callFunc gf args).run Try.prog w = .ok (.enter gf args) w)
    (hseq : SeqO Try.prog gf lb (fun x : List Int => #[.agg #[.int .i64 (at5 x 0), .int .i64 (at5 x 1), .int .i64 (at5 x 2), .int .i64 (at5 x 3), .int .i64 (at5 x 4)]]) xs n₀ lo hi K w0) (hn₀ : n₀ ≤ w.heap.size) (hhi : hi ≤ w.heap.size) (hb0 : Below n₀ w0 w)
    (ho : OwnP wp Bp v ps) (hbp : Below wp.heap.size wp w) (hcap : ∀ k, Bp ≤ k → k < wp.heap.size → k < lo ∨ hi ≤ k) (hl : ps.length ≤ 1048576) :
    Calls Try.prog 107 #[.func (.func gf) #[] lb, v] w (fun e w' => e = .returned (.agg #[.int .i64 (at5 (bstL (fun x => met5 ps (at5 x)) xs) 0), .int .i64 (at5 (bstL (fun x => met5 ps (at5 x)) xs) 1), .int .i64 (at5 (bstL (fun x => met5 ps (at5 x)) xs) 2), .int .i64 (at5 (bstL (fun x => met5 ps (at5 x)) xs) 3), .int .i64 (at5 (bstL (fun x => met5 ps (at5 x)) xs) 4)]) ∧ Upd lo hi w w') := by
  obtain ⟨a, c, rfl, hat⟩ := ho.at
  have HAT := Lib.hid hat
  obtain ⟨M, hM⟩ : ∃ M, ps.length = M := ⟨_, rfl⟩
  have HNN := Lib.hid hM
  have hMl : M ≤ 1048576 := by omega
  have hs0 := hbp.size
  rw [hM]
  clear hat ho hM hl
  obtain ⟨f, hf⟩ : ∃ f : List Int → Nat, f = fun x => met5 ps (at5 x) := ⟨_, rfl⟩
  rw [← hf]
  have HF := Lib.hid hf
  have hmh : ∀ pre, -1 ≤ moO f pre ∧ moO f pre ≤ M := fun pre => ⟨moO_lo _ _, by rw [hf, ← HNN.out]; exact moO_hi pre⟩
  have HMH := Lib.hid hmh
  clear hf hmh
  obtain ⟨g0, g1, g2, g3, g4, g5⟩ := al4 w (.cells #[.slice a M c] 65) (.cells #[.int .i64 ((fun _ => 0) 0), .int .i64 ((fun _ => 0) 1), .int .i64 ((fun _ => 0) 2), .int .i64 ((fun _ => 0) 3), .int .i64 ((fun _ => 0) 4)] 72) (.cells #[.int .i64 ((fun _ => 0) 0), .int .i64 ((fun _ => 0) 1), .int .i64 ((fun _ => 0) 2), .int .i64 ((fun _ => 0) 3), .int .i64 ((fun _ => 0) 4)] 72) (.cells #[.int .i64 (-1)] 3)
  have hI0 : BoI w.heap.size w (.slice a M c) f lo hi [] ((((w.alloc (.cells #[.slice a M c] 65)).alloc (.cells #[.int .i64 ((fun _ => 0) 0), .int .i64 ((fun _ => 0) 1), .int .i64 ((fun _ => 0) 2), .int .i64 ((fun _ => 0) 3), .int .i64 ((fun _ => 0) 4)] 72)).alloc (.cells #[.int .i64 ((fun _ => 0) 0), .int .i64 ((fun _ => 0) 1), .int .i64 ((fun _ => 0) 2), .int .i64 ((fun _ => 0) 3), .int .i64 ((fun _ => 0) 4)] 72)).alloc (.cells #[.int .i64 (-1)] 3)) :=
    ⟨g0, g1, g2, g3, ⟨rfl, rfl, rfl, g4.size, fun k hk _ => g4.block k hk⟩, by omega⟩
  replace g4 := g4.mono hn₀
  clear g0 g1 g2 g3
  have HI0 := Lib.hid hI0; have HG4 := Lib.hid g4; have HG5 := Lib.hid g5
  clear hI0 g4 g5
  refine (callsIn_wide (n := 3)).1 ?_
  refine callsIn_of_wp_marks Try.func107 rfl trivial ?_ rfl
  simp only [Try.ntmps107, List.size_toArray, List.length_cons, List.length_nil, Nat.reduceAdd, Nat.reduceSub, Array.replicate_succ, Array.replicate_zero, List.push_toArray, List.append_toArray, List.nil_append, List.cons_append]
  refine wpIn_wide.2 ?_
  go_wp2
  go_step3
  go_wp2
  go_step3
  go_wp2
  have hI0 := HI0.out; have g4 := HG4.out; have g5 := HG5.out
  obtain ⟨W, hW⟩ : ∃ W, ((((w.alloc (.cells #[.slice a M c] 65)).alloc (.cells #[.int .i64 ((fun _ => 0) 0), .int .i64 ((fun _ => 0) 1), .int .i64 ((fun _ => 0) 2), .int .i64 ((fun _ => 0) 3), .int .i64 ((fun _ => 0) 4)] 72)).alloc (.cells #[.int .i64 ((fun _ => 0) 0), .int .i64 ((fun _ => 0) 1), .int .i64 ((fun _ => 0) 2), .int .i64 ((fun _ => 0) 3), .int .i64 ((fun _ => 0) 4)] 72)).alloc (.cells #[.int .i64 (-1)] 3)) = W := ⟨_, rfl⟩
  rw [hW] at hI0 g4 g5 ⊢
  clear hW HI0 HG4 HG5
  have hbW : Below n₀ w0 W := hb0.trans g4
  refine (wpIn_wide (n := 3)).1 ?_
  refine wpIn_rangeO (gf := gf) (lb := lb) rfl eg hseq (by omega) (by omega) hbW (fun _ => rfl)
    (BoI w.heap.size w (.slice a M c) f lo hi) (fun _ _ _ => False) ?hI (fun _ _ _ _ h _ => h) hI0
    (fun x a' A => ∃ Bx, W.heap.size + 2 + K ≤ Bx ∧ A.heap[Bx]? = some (.cells #[.int .i64 (at5 x 0), .int .i64 (at5 x 1), .int .i64 (at5 x 2), .int .i64 (at5 x 3), .int .i64 (at5 x 4)] 72 (0, 0)) ∧ a' = { tmps := #[.func (.func gf) #[] lb, .slice a M c, undef, .pointer (some ⟨w.heap.size, 0, none⟩), .pointer (some ⟨w.heap.size + 1, 0, none⟩), .pointer (some ⟨w.heap.size + 1 + 1, 0, none⟩), .pointer (some ⟨w.heap.size + 1 + 1 + 1, 0, none⟩), .pointer (some ⟨Bx, 0, none⟩), undef, undef, undef, .func (.func gf) #[] lb, .agg #[.int .i64 (at5 x 0), .int .i64 (at5 x 1), .int .i64 (at5 x 2), .int .i64 (at5 x 3), .int .i64 (at5 x 4)], undef, undef, undef, undef, undef, undef, undef, undef, undef, undef, undef, undef, undef, undef, undef, undef, undef, undef, undef, undef, undef, undef, undef, undef, undef, undef, undef], defers := [] }) ?hAx ?assign ?body ?done ?stop
  case hI =>
    intro pre A A' h hu
    exact h.turn rfl hu.os hu.tape hu.output hu.size (fun k hk hk2 => hu.block k (by have := h.sz; omega) hk2 (.inl (by omega))) (by omega)
  case hAx =>
    rintro x a' A A' ⟨Bx, hBx, hc, rfl⟩ hu
    exact ⟨Bx, hBx, (hu.block _ (Array.getElem?_eq_some_iff.1 hc).1 (.inr (Nat.zero_le _)) (.inr hBx)).trans hc, rfl⟩
  case assign =>
    intro l pre x A Kk h hsz2 hK
    have hA := (Below.refl A.heap.size A).alloc (Nat.le_refl _) (.cells #[.int .i64 (at5 x 0), .int .i64 (at5 x 1), .int .i64 (at5 x 2), .int .i64 (at5 x 3), .int .i64 (at5 x 4)] 72)
    gi_wp2
    refine hK _ _ (Ke.ofBelow hA hsz2) (hA.mono (by omega)) (h.turn rfl rfl rfl rfl (by simp) (fun k hk _ => hA.block k (by have := h.sz; omega)) (by omega)) ⟨A.heap.size, hsz2, heap_alloc_new _ _, rfl⟩
  case body =>
    rintro l pre x a' A h ⟨Bx, hBx, hc, rfl⟩ hpre hsz2
    obtain ⟨mo, hmo⟩ : ∃ mo, moO f pre = mo := ⟨_, rfl⟩
    have hmb := HMH.out pre
    rw [hmo] at hmb
    have HMO := Lib.hid hmo
    have h0 := cell_of_row _ _ 0 _ _ _ h.h0
    have h3 := cell_of_row _ _ 0 _ _ _ h.h3
    rw [hmo] at h3
    simp at h0 h3
    have hBxs := (Array.getElem?_eq_some_iff.1 hc).1
    have hcells : ∀ (k : Nat) (l : List Int), ps[k]? = some l → ∃ g, g < A.heap.size ∧ (∀ wx : World, (Instr.indexAt 65 (.slice a M c) (.int .i64 (k : Int))).run Try.prog wx = .ok (.pointer (some ⟨g, k * 5, none⟩)) wx) ∧ ∀ j : Nat, j < 5 → A.cell? ⟨g, k * 5 + j, none⟩ = some (.int .i64 (at5 l j)) := fun k l hx => by
      obtain ⟨g, hg1, hg2, hidx, hcs⟩ := HAT.out k l hx
      rw [HNN.out] at hidx
      have hup := h.up.size
      refine ⟨g, by omega, hidx, fun j hj => ?_⟩
      exact (World.cell?_of_block (w := wp) ((h.up.block g (by omega) (hcap g hg1 hg2)).trans (hbp.block g hg2))).trans (hcs j hj)
    have HC := Lib.hid hcells
    have HH := Lib.hid h
    have HX := Lib.hid hc
    have hBA : w.heap.size + 4 ≤ A.heap.size := h.sz
    clear hcells h hc hmo
    gi_wp2
    gi_loopw [8, 15] (fun met i wr => ∃ k q : Nat, k ≤ M ∧ i = .int .i64 k ∧ met = .int .i64 q ∧ q ≤ k ∧ Hid (q = met5 (ps.take k) (at5 x)) ∧ Below A.heap.size A wr) (fun _ i _ => M - (intOf i).toNat)
    case atStart => exact ⟨0, 0, Nat.zero_le _, rfl, rfl, Nat.le_refl _, by simp [Hid, met5], Below.refl _ _⟩
    case round =>
      obtain ⟨k, q, hk, rfl, rfl, hqk, hq, hbA⟩ := hrel
      have hzA := hbA.size
      by_cases hlt : k < M
      · obtain ⟨r, hx⟩ := at_of_lt (show k < ps.length by have := HNN.out; omega)
        obtain ⟨g, hg, hidx, hcs⟩ := HC.out k r hx
        have HR := Lib.hid hx
        have hc (j : Nat) (hj : j < 5) : wr.cell? ⟨g, k * 5 + j, none⟩ = some (.int .i64 (at5 r j)) := (hbA.cell (p := ⟨g, k * 5 + j, none⟩) hg).trans (hcs j hj)
        have hc0 := hc 0 (by omega)
        have hc1 := hc 1 (by omega)
        have hc2 := hc 2 (by omega)
        have hc3 := hc 3 (by omega)
        have hc4 := hc 4 (by omega)
        simp only [Nat.add_zero] at hc0
        have hbR := (Below.refl wr.heap.size wr).alloc (Nat.le_refl _) (.cells #[.int .i64 (at5 r 0), .int .i64 (at5 r 1), .int .i64 (at5 r 2), .int .i64 (at5 r 3), .int .i64 (at5 r 4)] 72)
        have hbAR : Below A.heap.size A (wr.alloc (.cells #[.int .i64 (at5 r 0), .int .i64 (at5 r 1), .int .i64 (at5 r 2), .int .i64 (at5 r 3), .int .i64 (at5 r 4)] 72)) := hbA.trans (hbR.mono hzA)
        have h0R := (hbAR.cell (p := ⟨w.heap.size, 0, none⟩) (by simp; omega)).trans h0
        have h3R := (hbAR.cell (p := ⟨w.heap.size + 1 + 1 + 1, 0, none⟩) (by simp; omega)).trans h3
        obtain ⟨t0, t1, t2, t3, t4⟩ := cells5' ((hbAR.block Bx (by omega)).trans HX.out)
        obtain ⟨p0, p1, p2, p3, p4⟩ := cells5' (heap_alloc_new wr (.cells #[.int .i64 (at5 r 0), .int .i64 (at5 r 1), .int .i64 (at5 r 2), .int .i64 (at5 r 3), .int .i64 (at5 r 4)] 72))
        have hst := met5_step (T := at5 x) hx
        have hms := met5_most ps (at5 x) k
        rw [HNN.out] at hms
        have HST := Lib.hid hst; have HMS := Lib.hid hms; have HBR := Lib.hid hbAR
        clear hc hcs hx hst hms hbR hbAR
        by_cases hle : (q : Int) + (M : Int) - (k : Int) ≤ mo
        · have hdec : decide ((q : Int) + (M : Int) - (k : Int) ≤ mo) = true := decide_eq_true hle
          have HLE : Hid ((f x : Int) ≤ moO f pre) := by
            show _ ≤ _
            rw [HMO.out, HF.out]
            have := HMS.out; have := hq.out
            show ((met5 ps (at5 x) : Nat) : Int) ≤ mo
            omega
          clear hle
          gi_wp2
          have e := bsO_no HLE.out
          have hB := HBR.out
          have hn := HH.out.turn rfl hB.os hB.tape hB.output hB.size (fun k hk _ => hB.block k (by omega)) (by omega)
          refine ⟨(Ke.ofBelow hB hsz2), hB.mono (by omega), ⟨hn.h0, hn.h1, ?_, ?_, hn.up, hn.sz⟩⟩
          · rw [e.1]; exact hn.h2
          · rw [e.2]; exact hn.h3
        · have hdec : decide ((q : Int) + (M : Int) - (k : Int) ≤ mo) = false := decide_eq_false hle
          clear hle
          gi_wp2_with fail
          refine ⟨trivial, (CallsIn.inRound l (callsIn_wide.2 (i_meets (at5 r) (at5 x) _))).mono ?_⟩
          rintro e w2 ⟨rfl, hb2⟩
          have hb3 := HBR.out.trans (hb2.mono (by have := HBR.out.size; exact this))
          cases hm : meet5 (at5 r) (at5 x)
          · have HM := Lib.hid hm; clear hm
            have HQ : Hid (q = met5 (ps.take (k + 1)) (at5 x)) := by show _ = _; rw [HST.out, HM.out, ← hq.out]; rfl
            gi_wp2
            go_roundw
            case rel => exact ⟨k + 1, q, by omega, by go_num, rfl, by omega, HQ, hb3⟩
            case measure => simp [intOf]; omega
          · have HM := Lib.hid hm; clear hm
            have HQ : Hid (q + 1 = met5 (ps.take (k + 1)) (at5 x)) := by show _ = _; rw [HST.out, HM.out, ← hq.out]; rfl
            gi_wp2
            go_roundw
            case rel => exact ⟨k + 1, q + 1, by omega, by go_num, by go_num, by omega, HQ, hb3⟩
            case measure => simp [intOf]; omega
      · have HQF : Hid (f x = q) := by
          show _ = _
          rw [HF.out, hq.out, List.take_of_length_le (by have := HNN.out; omega)]
        have hb := hbA
        have h3R := (hbA.cell (p := ⟨w.heap.size + 1 + 1 + 1, 0, none⟩) (by simp; omega)).trans h3
        obtain ⟨t0, t1, t2, t3, t4⟩ := cells5' ((hbA.block Bx (by omega)).trans HX.out)
        have hI := HH.out.turn rfl hbA.os hbA.tape hbA.output hbA.size (fun k hk _ => hbA.block k (by omega)) (by omega)
        have HI := Lib.hid hI
        have HB := Lib.hid hbA
        by_cases hgt : mo < (q : Int)
        · have hdec : decide (mo < (q : Int)) = true := decide_eq_true hgt
          have e := bsO_yes (f := f) (pre := pre) (x := x) (by rw [HMO.out, HQF.out]; exact hgt)
          have E := Lib.hid e
          have b0 := frozen5 hI.h2 0
          have b1 := frozen5 hI.h2 1
          have b2 := frozen5 hI.h2 2
          have b3 := frozen5 hI.h2 3
          have b4 := frozen5 hI.h2 4
          have m0 := frozen5 hI.h3 0
          have hc2 := cells5' hI.h2
          have hc3 := cell_of_row _ _ 0 _ _ _ hI.h3
          obtain ⟨d0, d1, d2, d3, d4⟩ := hc2
          clear e hgt hI hbA hb
          gi_wp2
          obtain ⟨W5, hW5, hw5, hk5, hs5, ho5⟩ := set5w (w := wr) (by rfl) HI.out.h2 (.int .i64 (at5 x 0)) (.int .i64 (at5 x 1)) (.int .i64 (at5 x 2)) (.int .i64 (at5 x 3)) (.int .i64 (at5 x 4))
          rw [← hW5]
          have hI := HI.out
          have hB := HB.out
          have hst : ∀ k, k ≠ w.heap.size + 1 + 1 → k ≠ w.heap.size + 1 + 1 + 1 → (W5.setCell ⟨w.heap.size + 1 + 1 + 1, 0, none⟩ (.int .i64 (q : Int))).heap[k]? = wr.heap[k]? := fun k h1 h2 =>
            (Below.heap_setCell _ _ _ _ h2).trans (hk5 k h1)
          have h2' : (W5.setCell ⟨w.heap.size + 1 + 1 + 1, 0, none⟩ (.int .i64 (q : Int))).heap[w.heap.size + 1 + 1]? = some (.cells #[.int .i64 (at5 x 0), .int .i64 (at5 x 1), .int .i64 (at5 x 2), .int .i64 (at5 x 3), .int .i64 (at5 x 4)] 72 (0, 0)) :=
            (Below.heap_setCell _ _ _ _ (by simp)).trans hw5
          have h3' := set1w (w := W5) ((hk5 (w.heap.size + 1 + 1 + 1) (by omega)).trans hI.h3) (.int .i64 (q : Int))
          have hsz : (W5.setCell ⟨w.heap.size + 1 + 1 + 1, 0, none⟩ (.int .i64 (q : Int))).heap.size = wr.heap.size := by simp only [World.setCell, Array.size_modify]; exact hs5
          refine ⟨(Ke.ofBelow hB hsz2).trans fun k k1 k2 => hst k (by omega) (by omega), (hB.mono (by omega)).trans ⟨ho5.1, ho5.2.1, ho5.2.2, by omega, fun k hk => hst k (by omega) (by omega)⟩, ⟨(hst _ (by omega) (by omega)).trans hI.h0, (hst _ (by omega) (by omega)).trans hI.h1, ?_, ?_, ⟨ho5.1.trans hI.up.os, ho5.2.1.trans hI.up.tape, ho5.2.2.trans hI.up.output, by have := hI.up.size; omega, fun k hk hk2 => (hst k (by omega) (by omega)).trans (hI.up.block k hk hk2)⟩, by have := hI.sz; omega⟩⟩
          · rw [E.out.1]; exact h2'
          · rw [E.out.2, HQF.out]; exact h3'
        · have hdec : decide (mo < (q : Int)) = false := decide_eq_false hgt
          have e := bsO_no (f := f) (pre := pre) (x := x) (by rw [HMO.out, HQF.out]; omega)
          have E := Lib.hid e
          clear e hgt hI hbA
          gi_wp2
          have hn := HI.out
          refine ⟨(Ke.ofBelow HB.out hsz2), HB.out.mono (by omega), ⟨hn.h0, hn.h1, ?_, ?_, hn.up, hn.sz⟩⟩
          · rw [E.out.1]; exact hn.h2
          · rw [E.out.2]; exact hn.h3
  case done =>
    rintro D A hD1 hD2 h hk
    have q0 := cells5' h.h2
    obtain ⟨d0, d1, d2, d3, d4⟩ := q0
    have b0 := frozen5 h.h1 0
    have b1 := frozen5 h.h1 1
    have b2 := frozen5 h.h1 2
    have b3 := frozen5 h.h1 3
    have b4 := frozen5 h.h1 4
    obtain ⟨r0, r1, r2, r3, r4⟩ := cells5' (P := fun _ => 0) h.h1
    have HH := Lib.hid h
    clear h
    go_wp2
    have h := HH.out
    obtain ⟨W5, hW5, hw5, hk5, hs5, ho5⟩ := set5w (w := A) (by rfl) h.h1 (.int .i64 (at5 (bstL f xs) 0)) (.int .i64 (at5 (bstL f xs) 1)) (.int .i64 (at5 (bstL f xs) 2)) (.int .i64 (at5 (bstL f xs) 3)) (.int .i64 (at5 (bstL f xs) 4))
    rw [← hW5, Exit.noGoto_ret]
    have hk5' : W5.heap[D]? = some (.deferred (some [])) := (hk5 D (by omega)).trans hk
    refine ⟨by simp, .inl ⟨_, _, rfl, run_takeDeferred hk5', ?_⟩⟩
    have hw6 : (W5.putObj D (.deferred none)).heap[w.heap.size + 1]? = some (.cells #[.int .i64 (at5 (bstL f xs) 0), .int .i64 (at5 (bstL f xs) 1), .int .i64 (at5 (bstL f xs) 2), .int .i64 (at5 (bstL f xs) 3), .int .i64 (at5 (bstL f xs) 4)] 72 (0, 0)) := (World.putObj_heap_other (by omega)).trans hw5
    refine ⟨_, results_cell_row Try.results107 _ _ _ _ _ (0, 0) (.array 5 3) rfl hw6 undPat rfl infoPatB, rfl, ⟨ho5.1.trans h.up.os, ho5.2.1.trans h.up.tape, ho5.2.2.trans h.up.output, ?_, fun k hk hk2 => ?_⟩⟩
    · have := h.up.size; simp; omega
    · exact (World.putObj_heap_other (by omega)).trans ((hk5 k (by omega)).trans (h.up.block k hk hk2))
  case stop =>
    rintro D c pre A _ _ _ h _
    exact h.elim

end Go.Proofs.Ytekkhadlchfjnaa
