/- A range over a function whose iterator keeps cells of its own: what such an iterator promises (SeqO), and the law for the loop, whose loop variable may be boxed. -/
import Derived.RangeFuncNested
import Derived.RangeFuncBound
import Derived.RangeFuncCalls
import Derived.RangeFuncLeaves
import Derived.Test.YtekkhadlchfjnaaMem
namespace Go.Proofs.Ytekkhadlchfjnaa
open Go Go.RowKit

/-- from a to w only blocks lo ≤ k < hi and B ≤ k < C have turned -/
structure Up2 (lo hi B C : Nat) (a w : World) : Prop where
  os : w.os = a.os
  tape : w.tape = a.tape
  output : w.output = a.output
  size : a.heap.size ≤ w.heap.size
  block : ∀ k, k < a.heap.size → (k < lo ∨ hi ≤ k) → (k < B ∨ C ≤ k) → w.heap[k]? = a.heap[k]?
theorem Up2.refl (lo hi B C : Nat) (w : World) : Up2 lo hi B C w w := ⟨rfl, rfl, rfl, Nat.le_refl _, fun _ _ _ _ => rfl⟩
theorem Up2.trans {lo hi B C : Nat} {a b c : World} (h : Up2 lo hi B C a b) (k : Up2 lo hi B C b c) : Up2 lo hi B C a c :=
  ⟨k.os.trans h.os, k.tape.trans h.tape, k.output.trans h.output, Nat.le_trans h.size k.size, fun i hi h1 h2 => (k.block i (Nat.lt_of_lt_of_le hi h.size) h1 h2).trans (h.block i hi h1 h2)⟩
theorem Up2.wide {lo hi B C B' C' : Nat} {a b : World} (h : Up2 lo hi B C a b) (h1 : B' ≤ B) (h2 : C ≤ C') : Up2 lo hi B' C' a b :=
  ⟨h.os, h.tape, h.output, h.size, fun i hi ho h3 => h.block i hi ho (by omega)⟩
theorem Up2.alloc {lo hi B C : Nat} {a w : World} (h : Up2 lo hi B C a w) (o : Obj) : Up2 lo hi B C a (w.alloc o) :=
  h.trans ⟨rfl, rfl, rfl, by simp, fun k hk _ _ => Below.heap_alloc w o k hk⟩
theorem Up2.putObj {lo hi B C : Nat} {a w : World} (h : Up2 lo hi B C a w) {l : Nat} (o : Obj) (h1 : B ≤ l) (h2 : l < C) : Up2 lo hi B C a (w.putObj l o) :=
  h.trans ⟨rfl, rfl, rfl, by simp, fun k _ _ ho => World.putObj_heap_other (by omega)⟩
theorem Up2.set {lo hi B C : Nat} {a w : World} (h : Up2 lo hi B C a w) {p : Addr} (v : Value) (hp : (lo ≤ p.block ∧ p.block < hi) ∨ (B ≤ p.block ∧ p.block < C)) : Up2 lo hi B C a (w.setCell p v) :=
  h.trans ⟨rfl, rfl, rfl, by simp [World.setCell], fun k _ h1 h2 => Below.heap_setCell _ _ _ _ (by omega)⟩
theorem Up2.dr {lo hi B C : Nat} {a w w' : World} (h : Up2 lo hi B C a w) (d : Dr w w') : Up2 lo hi B C a w' := by
  obtain ⟨n, rfl⟩ := d
  exact h.trans ⟨rfl, rfl, rfl, Nat.le_refl _, fun _ _ _ _ => rfl⟩
theorem Up2.below {B C n : Nat} {a w : World} (h : Up2 0 0 B C a w) (h1 : n ≤ a.heap.size) (h2 : n ≤ B) : Below n a w :=
  ⟨h.os, h.tape, h.output, h.size, fun k hk => h.block k (by omega) (.inr (Nat.zero_le _)) (.inl (by omega))⟩
theorem Up2.ofBelow {lo hi B C : Nat} {a w : World} (h : Below a.heap.size a w) : Up2 lo hi B C a w :=
  ⟨h.os, h.tape, h.output, h.size, fun k hk _ _ => h.block k hk⟩
/-- the blocks from lo to hi lie as they lay -/
def Ke (lo hi : Nat) (W W' : World) : Prop := ∀ k, lo ≤ k → k < hi → W'.heap[k]? = W.heap[k]?
theorem Ke.refl (lo hi : Nat) (W : World) : Ke lo hi W W := fun _ _ _ => rfl
theorem Ke.trans {lo hi : Nat} {A B C : World} (h : Ke lo hi A B) (k : Ke lo hi B C) : Ke lo hi A C := fun i h1 h2 => (k i h1 h2).trans (h i h1 h2)
theorem Ke.ofBelow {lo hi n : Nat} {A B : World} (h : Below n A B) (h1 : hi ≤ n) : Ke lo hi A B := fun k _ k2 => h.block k (by omega)
theorem Ke.less {lo hi lo' hi' : Nat} {A B : World} (h : Ke lo hi A B) (h1 : lo ≤ lo') (h2 : hi' ≤ hi) : Ke lo' hi' A B := fun k k1 k2 => h k (by omega) (by omega)

/-- The iterator gives xs, one after the other. It may write blocks lo ≤ k < hi that lay (what it has captured), and lays K of its own. What a round that goes on keeps: whatever lay below n₀, and these blocks. -/
def SeqO {α : Type} (P : Program) (gf : Nat) (lb : Array Value) (encs : α → Array Value) (xs : List α) (n₀ lo hi K : Nat) (w : World) : Prop :=
  ∀ (n l : Nat) (J Jx : List α → World → Prop) (W : World), Below n₀ w W →
    (∀ pre A A', J pre A → Up2 lo hi W.heap.size (W.heap.size + K) A A' → J pre A') →
    (∀ pre x W1, J pre W1 → pre ++ [x] <+: xs → W.heap.size + K ≤ W1.heap.size → YieldAt Fence.wide n P l (encs x) W1 fun e W' =>
      (e = .returned (.bool true) ∧ J (pre ++ [x]) W' ∧ Ke W.heap.size (W.heap.size + K) W1 W' ∧ Below n₀ W1 W') ∨ (e = .returned (.bool false) ∧ Jx (pre ++ [x]) W')) →
    J [] W →
    CallsIn Fence.wide (n + 1) P gf (#[.func (.yield l) #[] #[]] ++ lb) W fun e W' => (∃ v, e = .returned v) ∧ (J xs W' ∨ ∃ pre, pre <+: xs ∧ Jx pre W')
theorem SeqO.later {α : Type} {P : Program} {gf : Nat} {lb : Array Value} {encs : α → Array Value} {xs : List α} {n₀ lo hi K : Nat} {w w' : World} (h : SeqO P gf lb encs xs n₀ lo hi K w) (hb : Below n₀ w w') : SeqO P gf lb encs xs n₀ lo hi K w' :=
  fun n l J Jx W hW => h n l J Jx W (hb.trans hW)

/-- how the body of a round may be left -/
def ownPostO {α : Type} (lo hi n₀ : Nat) (I : List α → World → Prop) (Ix : Code → List α → World → Prop) (xs : List α) (W : World) : Exit → Act → World → Prop
  | .normal, _, W' => Ke lo hi W W' ∧ Below n₀ W W' ∧ I xs W'
  | .ret, _, W' => Ke lo hi W W' ∧ Ix .ret xs W'
  | .exit id, _, W' => Ke lo hi W W' ∧ Ix (.exit id) xs W'
  | .goto t, _, W' => Ke lo hi W W' ∧ Ix (.goto t) xs W'
  | .panic _, _, _ => False
  | .outgrown, _, _ => False

theorem wpIn_rangeO {α : Type} {n : Nat} {P : Program} {g : Operand} {ps : Array Tmp} {assign body : Code} {Q : Exit → Act → World → Prop} {a : Act} {w : World}
    {gf : Nat} {lb : Array Value} (hg : a.eval g = .func (.func gf) #[] lb) (eg : ∀ args w, (callFunc gf args).run P w = .ok (.enter gf args) w)
    {encs : α → Array Value} {xs : List α} {n₀ lo hi' K : Nat} {w0 : World} (hseq : SeqO P gf lb encs xs n₀ lo hi' K w0) (hn₀ : n₀ ≤ w.heap.size) (hhi : hi' ≤ w.heap.size) (hb0 : Below n₀ w0 w) (hps : ∀ x, (encs x).size = ps.size)
    (I : List α → World → Prop) (Ix : Code → List α → World → Prop) (hI : ∀ pre A A', I pre A → Up2 lo hi' w.heap.size (w.heap.size + 2 + K) A A' → I pre A') (hIx : ∀ c pre A A', Ix c pre A → Up2 lo hi' w.heap.size (w.heap.size + 2 + K) A A' → Ix c pre A') (h0 : I [] w)
    (Ax : α → Act → World → Prop) (hAx : ∀ x a' A A', Ax x a' A → Up2 0 0 w.heap.size (w.heap.size + 2 + K) A A' → Ax x a' A')
    (hassign : ∀ (l : Nat) (pre : List α) (x : α) (W : World) (Kk : Act → World → Prop), I pre W → w.heap.size + 2 + K ≤ W.heap.size →
      (∀ a' W', Ke w.heap.size (w.heap.size + 2 + K) W W' → Below n₀ W W' → I pre W' → Ax x a' W' → Kk a' W') →
      assign.wpIn (Fence.wide.inRound l) (n - 1 - 1) P (Exit.then Kk (fun _ _ _ => False)) { tmps := (ps.zip (encs x)).foldl (fun t (p, v) => t.setIfInBounds p v) a.tmps, defers := [] } W)
    (hbody : ∀ (l : Nat) (pre : List α) (x : α) (a' : Act) (W : World), I pre W → Ax x a' W → pre ++ [x] <+: xs → w.heap.size + 2 + K ≤ W.heap.size → body.wpIn (Fence.wide.inRound l) (n - 1 - 1) P (ownPostO w.heap.size (w.heap.size + 2 + K) n₀ I Ix (pre ++ [x]) W) a' W)
    (hdone : ∀ (D : Nat) (W : World), w.heap.size ≤ D → D < w.heap.size + 2 → I xs W → W.heap[D]? = some (.deferred (some [])) → Q .normal { a with defers := { target := .collected D, args := #[] } :: a.defers } W)
    (hstop : ∀ (D : Nat) (c : Code) (pre : List α) (W : World), w.heap.size ≤ D → D < w.heap.size + 2 → pre <+: xs → Ix c pre W → W.heap[D]? = some (.deferred (some [])) → c.wpIn Fence.wide n P Q { a with defers := { target := .collected D, args := #[] } :: a.defers } W) :
    (Code.rangeFunc g ps assign body).wpIn Fence.wide n P Q a w := by
  refine wpIn_rangeFunc ?_
  intro fn hfn
  obtain ⟨rec, hrec⟩ : ∃ rec : LoopState → Option Code → Loop, rec = fun st pe => { state := st, pending := pe, fn, tmps := a.tmps, params := ps, assign, body, defers := w.heap.size } := ⟨_, rfl⟩
  obtain ⟨W1, hW1⟩ : ∃ W1, (w.alloc (.deferred (some []))).alloc (.loop (rec .ready none)) = W1 := ⟨_, rfl⟩
  have hL1 : W1.heap[w.heap.size + 1]? = some (.loop (rec .ready none)) := by
    rw [← hW1]; have := World.alloc_heap_new (w.alloc (.deferred (some []))) (.loop (rec .ready none)); rwa [World.size_alloc] at this
  have hK1 : W1.heap[w.heap.size]? = some (.deferred (some [])) := by
    rw [← hW1]; exact (Below.heap_alloc _ _ _ (by simp)).trans (World.alloc_heap_new w _)
  have hS1 : W1.heap.size = w.heap.size + 2 := by rw [← hW1]; simp
  have hI1 : I [] W1 := by rw [← hW1]; exact hI _ _ _ h0 (((Up2.refl _ _ _ _ w).alloc _).alloc _)
  have hb1 : Below n₀ w0 W1 := by
    rw [← hW1]; exact hb0.trans (((Below.refl n₀ w).alloc hn₀ _).alloc (by simp; omega) _)
  refine ⟨w.heap.size + 1, [{ target := .collected w.heap.size, args := #[] }], W1, { target := .fn (.func gf) lb, args := #[.func (.yield (w.heap.size + 1)) #[] #[]] }, W1, gf,
    #[.func (.yield (w.heap.size + 1)) #[] #[]] ++ lb, W1, ?_, ?_, ?_, ?_, (fun h => by cases h), ?_⟩
  · rw [← hW1, hrec]; exact run_enterLoop_outer _ _ _ _ _
  · simp only [resolve, hg]
    simp [go_sem]
  · intro f' _; trivial
  · simp [invoke, go_sem, eg]
  · have keep : ∀ {A A' : World}, Up2 lo hi' W1.heap.size (W1.heap.size + K) A A' → ∀ {k : Nat} {o : Obj}, w.heap.size ≤ k → k < w.heap.size + 2 → A.heap[k]? = some o → A'.heap[k]? = some o := fun hu k o hk' hk ho =>
      (hu.block k (Array.getElem?_eq_some_iff.1 ho).1 (.inr (by omega)) (.inl (by omega))).trans ho
    have hcall := hseq (n - 1 - 1) (w.heap.size + 1)
      (fun pre W => I pre W ∧ W.heap[w.heap.size + 1]? = some (.loop (rec .ready none)) ∧ W.heap[w.heap.size]? = some (.deferred (some [])))
      (fun pre W => ∃ c, Ix c pre W ∧ W.heap[w.heap.size + 1]? = some (.loop (rec .done (some c))) ∧ W.heap[w.heap.size]? = some (.deferred (some [])))
      W1 hb1
      (fun pre A A' hs hu => ⟨hI pre A A' hs.1 (hu.wide (by omega) (by omega)), keep hu (by omega) (by omega) hs.2.1, keep hu (by omega) (by omega) hs.2.2⟩)
      ?_ ⟨hI1, hL1, hK1⟩
    · refine (callsIn_wide.2 (callsIn_wide.1 hcall)).mono ?_
      -- behind the iterator
      have up3 : ∀ (W3 : World) (o : Obj), Up2 lo hi' w.heap.size (w.heap.size + 2 + K) W3 (W3.putObj (w.heap.size + 1) o) := fun W3 o => (Up2.refl _ _ _ _ W3).putObj _ (by omega) (by omega)
      rintro e W2 ⟨⟨v, rfl⟩, (⟨hi, hl, hk⟩ | ⟨pre, hSp, c, hi, hl, hk⟩)⟩
      · exact ⟨none, _, by have := run_endLoop (P := P) hl (by rw [hrec]; simp); rw [hrec] at this; exact this, hdone _ _ (Nat.le_refl _) (by omega) (hI _ _ _ hi (up3 W2 _)) ((World.putObj_heap_other (by omega)).trans hk)⟩
      · exact ⟨some c, _, by have := run_endLoop (P := P) hl (by rw [hrec]; simp); rw [hrec] at this; exact this, hstop _ c pre _ (Nat.le_refl _) (by omega) hSp (hIx _ _ _ _ hi (up3 W2 _)) ((World.putObj_heap_other (by omega)).trans hk)⟩
    · -- one round
      rintro pre x W ⟨hi, hl, hk⟩ hpre hsz
      have hlt : w.heap.size + 1 < W.heap.size := (Array.getElem?_eq_some_iff.1 hl).1
      have hy := run_yield (P := P) (args := encs x) hl (by rw [hrec]; exact hps x)
      rw [hrec] at hy
      refine ⟨fn, _, assign, body, hy, roundIn_of_wpIn hfn (hassign _ pre x W _ hi (by omega) ?_)⟩
      clear hy
      intro a' Wa hkfa hkpa hia hax
      replace hl := (hkfa _ (by omega) (by omega)).trans hl
      replace hk := (hkfa _ (Nat.le_refl _) (by omega)).trans hk
      replace hlt : w.heap.size + 1 < Wa.heap.size := (Array.getElem?_eq_some_iff.1 hl).1
      have hsa := hkpa.size
      refine ⟨_, run_beginRound hl (by rw [hrec]), ?_⟩
      have hl2 : (Wa.putObj (w.heap.size + 1) (.loop { rec .ready none with state := .busy })).heap[w.heap.size + 1]? = some (.loop { rec .ready none with state := .busy }) := World.putObj_heap_same hlt
      have hk2 : (Wa.putObj (w.heap.size + 1) (.loop { rec .ready none with state := .busy })).heap[w.heap.size]? = some (.deferred (some [])) := (World.putObj_heap_other (by omega)).trans hk
      have hu2 : Up2 lo hi' w.heap.size (w.heap.size + 2 + K) Wa (Wa.putObj (w.heap.size + 1) (.loop { rec .ready none with state := .busy })) := (Up2.refl _ _ _ _ Wa).putObj _ (by omega) (by omega)
      have hu20 : Up2 0 0 w.heap.size (w.heap.size + 2 + K) Wa (Wa.putObj (w.heap.size + 1) (.loop { rec .ready none with state := .busy })) := (Up2.refl _ _ _ _ Wa).putObj _ (by omega) (by omega)
      refine wpIn_mono (hbody _ pre x a' _ (hI _ _ _ hia hu2) (hAx _ _ _ _ hax hu20) hpre (by simp; omega)) ?_
      have fin : ∀ (jump : Option Code) (W3 : World), Ke w.heap.size (w.heap.size + 2 + K) (Wa.putObj (w.heap.size + 1) (.loop { rec .ready none with state := .busy })) W3 →
          (Instr.endRound (w.heap.size + 1) jump).run P W3 = .ok (.bool jump.isNone) (W3.putObj (w.heap.size + 1) (.loop (rec (if jump.isNone then .ready else .done) jump))) ∧
          W3.heap[w.heap.size + 1]? = some (.loop { rec .ready none with state := .busy }) ∧
          (W3.putObj (w.heap.size + 1) (.loop (rec (if jump.isNone then .ready else .done) jump))).heap[w.heap.size + 1]? = some (.loop (rec (if jump.isNone then .ready else .done) jump)) ∧
          (W3.putObj (w.heap.size + 1) (.loop (rec (if jump.isNone then .ready else .done) jump))).heap[w.heap.size]? = some (.deferred (some [])) := fun jump W3 hk3 => by
        have hl3 := (hk3 (w.heap.size + 1) (by omega) (by omega)).trans hl2
        have := run_endRound (P := P) jump hl3
        rw [hrec] at this ⊢
        exact ⟨this, by rw [hrec] at hl3; exact hl3, World.putObj_heap_same (Array.getElem?_eq_some_iff.1 hl3).1, (World.putObj_heap_other (by omega)).trans ((hk3 w.heap.size (by omega) (by omega)).trans hk2)⟩
      have up3 : ∀ (W3 : World) (o : Obj), Up2 lo hi' w.heap.size (w.heap.size + 2 + K) W3 (W3.putObj (w.heap.size + 1) o) := fun W3 o => (Up2.refl _ _ _ _ W3).putObj _ (by omega) (by omega)
      have belP : ∀ (W3 : World) (o : Obj), Below n₀ W3 (W3.putObj (w.heap.size + 1) o) := fun W3 o => ⟨rfl, rfl, rfl, by simp, fun k hk => World.putObj_heap_other (show k ≠ w.heap.size + 1 by omega)⟩
      rintro e a3 W3 hp
      cases e with
      | normal =>
        obtain ⟨hk3, hkp3, hi3⟩ := hp
        obtain ⟨hr, hl3, hl4, hk4⟩ := fin none W3 hk3
        refine ⟨_, _, hr, .inl ⟨rfl, ⟨hI _ _ _ hi3 (up3 W3 _), hl4, hk4⟩, ?_, ?_⟩⟩
        · intro k k1 k2
          exact (World.putObj_heap_other (by omega)).trans ((hk3 k (by omega) (by omega)).trans ((World.putObj_heap_other (by omega)).trans (hkfa k (by omega) (by omega))))
        · exact ((hkpa.trans (belP Wa _)).trans hkp3).trans (belP W3 _)
      | ret =>
        obtain ⟨hk3, hi3⟩ := hp
        obtain ⟨hr, hl3, hl4, hk4⟩ := fin (some .ret) W3 hk3
        exact ⟨_, _, hr, .inr ⟨rfl, .ret, hIx _ _ _ _ hi3 (up3 W3 _), hl4, hk4⟩⟩
      | exit id =>
        obtain ⟨hk3, hi3⟩ := hp
        obtain ⟨hr, hl3, hl4, hk4⟩ := fin (some (.exit id)) W3 hk3
        exact ⟨_, _, hr, .inr ⟨rfl, .exit id, hIx _ _ _ _ hi3 (up3 W3 _), hl4, hk4⟩⟩
      | goto t =>
        obtain ⟨hk3, hi3⟩ := hp
        obtain ⟨hr, hl3, hl4, hk4⟩ := fin (some (.goto t)) W3 hk3
        exact ⟨_, _, hr, .inr ⟨rfl, .goto t, hIx _ _ _ _ hi3 (up3 W3 _), hl4, hk4⟩⟩
      | panic ch => exact hp.elim
      | outgrown => exact hp.elim

end Go.Proofs.Ytekkhadlchfjnaa
