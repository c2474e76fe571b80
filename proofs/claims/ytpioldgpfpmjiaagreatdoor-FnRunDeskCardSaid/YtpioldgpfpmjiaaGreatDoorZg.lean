/- A range over a function whose iterator keeps cells of its own: what such an iterator promises (SeqO), and the law for the loop, whose loop variable may be boxed. -/
import Derived.RangeFuncNested
import Derived.RangeFuncBound
import Derived.RangeFuncCalls
import Derived.RangeFuncLeaves
import Derived.Test.YtpioldgpfpmjiaaGreatDoorMem
import Derived.Test.YtpioldgpfpmjiaaGreatDoorZm
import Derived.Shelf.Abstract
import Derived.Shelf.RegionOpen
import Derived.OwnWalkIn
import Derived.TacticsInMore
import Derived.LoopNIn
import Derived.LoopIn
import Derived.Test.YtpioldgpfpmjiaaGreatDoorWu
import Derived.Test.YtpioldgpfpmjiaaGreatDoorWc
import Derived.Maps.OwnIn
import Derived.Test.YtpioldgpfpmjiaaGreatDoorYa
import Derived.Test.YtpioldgpfpmjiaaGreatDoorWv
namespace Go.Proofs.YtpioldgpfpmjiaaGreatDoor
open Go Go.RowKit

/-- from a to w only blocks lo ≤ k < hi and B ≤ k < C have turned -/
structure Up2 (lo hi B C : Nat) (a w : World) : Prop where
  os : w.os = a.os
  tape : w.tape = a.tape
  output : w.output = a.output
  size : a.heap.size ≤ w.heap.size
  block : ∀ k, k < a.heap.size → (k < lo ∨ hi ≤ k) → (k < B ∨ C ≤ k) → w.heap[k]? = a.heap[k]?
theorem Up2.refl (lo hi B C : Nat) (w : World) : Up2 lo hi B C w w := ⟨rfl, rfl, rfl, Nat.le_refl _, fun _ _ _ _ => rfl⟩
theorem Up2.trans {lo hi B C : Nat} {a b c : World} (h : Up2 lo hi B C a b) (k : Up2 lo hi B C b c) : Up2 lo hi B C a c :=
  ⟨k.os.trans h.os, k.tape.trans h.tape, k.output.trans h.output, Nat.le_trans h.size k.size, fun i hi h1 h2 => (k.block i (Nat.lt_of_lt_of_le hi h.size) h1 h2).trans (h.block i hi h1 h2)⟩
theorem Up2.wide {lo hi B C B' C' : Nat} {a b : World} (h : Up2 lo hi B C a b) (h1 : B' ≤ B) (h2 : C ≤ C') : Up2 lo hi B' C' a b :=
  ⟨h.os, h.tape, h.output, h.size, fun i hi ho h3 => h.block i hi ho (by omega)⟩
theorem Up2.alloc {lo hi B C : Nat} {a w : World} (h : Up2 lo hi B C a w) (o : Obj) : Up2 lo hi B C a (w.alloc o) :=
  h.trans ⟨rfl, rfl, rfl, by simp, fun k hk _ _ => Below.heap_alloc w o k hk⟩
theorem Up2.putObj {lo hi B C : Nat} {a w : World} (h : Up2 lo hi B C a w) {l : Nat} (o : Obj) (h1 : B ≤ l) (h2 : l < C) : Up2 lo hi B C a (w.putObj l o) :=
  h.trans ⟨rfl, rfl, rfl, by simp, fun k _ _ ho => World.putObj_heap_other (by omega)⟩
theorem Up2.set {lo hi B C : Nat} {a w : World} (h : Up2 lo hi B C a w) {p : Addr} (v : Value) (hp : (lo ≤ p.block ∧ p.block < hi) ∨ (B ≤ p.block ∧ p.block < C)) : Up2 lo hi B C a (w.setCell p v) :=
  h.trans ⟨rfl, rfl, rfl, by simp [World.setCell], fun k _ h1 h2 => Below.heap_setCell _ _ _ _ (by omega)⟩
theorem Up2.dr {lo hi B C : Nat} {a w w' : World} (h : Up2 lo hi B C a w) (d : Dr w w') : Up2 lo hi B C a w' := by
  obtain ⟨n, rfl⟩ := d
  exact h.trans ⟨rfl, rfl, rfl, Nat.le_refl _, fun _ _ _ _ => rfl⟩
theorem Up2.below {B C n : Nat} {a w : World} (h : Up2 0 0 B C a w) (h1 : n ≤ a.heap.size) (h2 : n ≤ B) : Below n a w :=
  ⟨h.os, h.tape, h.output, h.size, fun k hk => h.block k (by omega) (.inr (Nat.zero_le _)) (.inl (by omega))⟩
theorem Up2.ofBelow {lo hi B C : Nat} {a w : World} (h : Below a.heap.size a w) : Up2 lo hi B C a w :=
  ⟨h.os, h.tape, h.output, h.size, fun k hk _ _ => h.block k hk⟩
/-- the blocks from lo to hi lie as they lay -/
def Ke (lo hi : Nat) (W W' : World) : Prop := ∀ k, lo ≤ k → k < hi → W'.heap[k]? = W.heap[k]?
theorem Ke.refl (lo hi : Nat) (W : World) : Ke lo hi W W := fun _ _ _ => rfl
theorem Ke.trans {lo hi : Nat} {A B C : World} (h : Ke lo hi A B) (k : Ke lo hi B C) : Ke lo hi A C := fun i h1 h2 => (k i h1 h2).trans (h i h1 h2)
theorem Ke.ofBelow {lo hi n : Nat} {A B : World} (h : Below n A B) (h1 : hi ≤ n) : Ke lo hi A B := fun k _ k2 => h.block k (by omega)
theorem Ke.less {lo hi lo' hi' : Nat} {A B : World} (h : Ke lo hi A B) (h1 : lo ≤ lo') (h2 : hi' ≤ hi) : Ke lo' hi' A B := fun k k1 k2 => h k (by omega) (by omega)

/-- The iterator gives xs, one after the other. It may write blocks lo ≤ k < hi that lay (what it has captured), and lays K of its own. What a round that goes on keeps: whatever lay below n₀, and these blocks. -/
def SeqO {α : Type} (P : Program) (gf : Nat) (lb : Array Value) (encs : α → Array Value) (xs : List α) (n₀ lo hi K : Nat) (w : World) : Prop :=
  ∀ (n l : Nat) (J Jx : List α → World → Prop) (W : World), Below n₀ w W →
    (∀ pre A A', J pre A → Up2 lo hi W.heap.size (W.heap.size + K) A A' → J pre A') →
    (∀ pre x W1, J pre W1 → pre ++ [x] <+: xs → W.heap.size + K ≤ W1.heap.size → YieldAt Fence.wide n P l (encs x) W1 fun e W' =>
      (e = .returned (.bool true) ∧ J (pre ++ [x]) W' ∧ Ke W.heap.size (W.heap.size + K) W1 W' ∧ Below n₀ W1 W') ∨ (e = .returned (.bool false) ∧ Jx (pre ++ [x]) W')) →
    J [] W →
    CallsIn Fence.wide (n + 1) P gf (#[.func (.yield l) #[] #[]] ++ lb) W fun e W' => (∃ v, e = .returned v) ∧ (J xs W' ∨ ∃ pre, pre <+: xs ∧ Jx pre W')
theorem SeqO.later {α : Type} {P : Program} {gf : Nat} {lb : Array Value} {encs : α → Array Value} {xs : List α} {n₀ lo hi K : Nat} {w w' : World} (h : SeqO P gf lb encs xs n₀ lo hi K w) (hb : Below n₀ w w') : SeqO P gf lb encs xs n₀ lo hi K w' :=
  fun n l J Jx W hW => h n l J Jx W (hb.trans hW)

/-- how the body of a round may be left -/
def ownPostO {α : Type} (lo hi n₀ : Nat) (I : List α → World → Prop) (Ix : Code → List α → World → Prop) (xs : List α) (W : World) : Exit → Act → World → Prop
  | .normal, _, W' => Ke lo hi W W' ∧ Below n₀ W W' ∧ I xs W'
  | .ret, _, W' => Ke lo hi W W' ∧ Ix .ret xs W'
  | .exit id, _, W' => Ke lo hi W W' ∧ Ix (.exit id) xs W'
  | .goto t, _, W' => Ke lo hi W W' ∧ Ix (.goto t) xs W'
  | .panic _, _, _ => False
  | .outgrown, _, _ => False

theorem wpIn_rangeO {α : Type} {n : Nat} {P : Program} {g : Operand} {ps : Array Tmp} {assign body : Code} {Q : Exit → Act → World → Prop} {a : Act} {w : World}
    {gf : Nat} {lb : Array Value} (hg : a.eval g = .func (.func gf) #[] lb) (eg : ∀ args w, (callFunc gf args).run P w = .ok (.enter gf args) w)
    {encs : α → Array Value} {xs : List α} {n₀ lo hi' K : Nat} {w0 : World} (hseq : SeqO P gf lb encs xs n₀ lo hi' K w0) (hn₀ : n₀ ≤ w.heap.size) (hhi : hi' ≤ w.heap.size) (hb0 : Below n₀ w0 w) (hps : ∀ x, (encs x).size = ps.size)
    (I : List α → World → Prop) (Ix : Code → List α → World → Prop) (hI : ∀ pre A A', I pre A → Up2 lo hi' w.heap.size (w.heap.size + 2 + K) A A' → I pre A') (hIx : ∀ c pre A A', Ix c pre A → Up2 lo hi' w.heap.size (w.heap.size + 2 + K) A A' → Ix c pre A') (h0 : I [] w)
    (Ax : α → Act → World → Prop) (hAx : ∀ x a' A A', Ax x a' A → Up2 0 0 w.heap.size (w.heap.size + 2 + K) A A' → Ax x a' A')
    (hassign : ∀ (l : Nat) (pre : List α) (x : α) (W : World) (Kk : Act → World → Prop), I pre W → w.heap.size + 2 + K ≤ W.heap.size →
      (∀ a' W', Ke w.heap.size (w.heap.size + 2 + K) W W' → Below n₀ W W' → I pre W' → Ax x a' W' → Kk a' W') →
      assign.wpIn (Fence.wide.inRound l) (n - 1 - 1) P (Exit.then Kk (fun _ _ _ => False)) { tmps := (ps.zip (encs x)).foldl (fun t (p, v) => t.setIfInBounds p v) a.tmps, defers := [] } W)
    (hbody : ∀ (l : Nat) (pre : List α) (x : α) (a' : Act) (W : World), I pre W → Ax x a' W → pre ++ [x] <+: xs → w.heap.size + 2 + K ≤ W.heap.size → body.wpIn (Fence.wide.inRound l) (n - 1 - 1) P (ownPostO w.heap.size (w.heap.size + 2 + K) n₀ I Ix (pre ++ [x]) W) a' W)
    (hdone : ∀ (D : Nat) (W : World), w.heap.size ≤ D → D < w.heap.size + 2 → I xs W → W.heap[D]? = some (.deferred (some [])) → Q .normal { a with defers := { target := .collected D, args := #[] } :: a.defers } W)
    (hstop : ∀ (D : Nat) (c : Code) (pre : List α) (W : World), w.heap.size ≤ D → D < w.heap.size + 2 → pre <+: xs → Ix c pre W → W.heap[D]? = some (.deferred (some [])) → c.wpIn Fence.wide n P Q { a with defers := { target := .collected D, args := #[] } :: a.defers } W) :
    (Code.rangeFunc g ps assign body).wpIn Fence.wide n P Q a w := by
  refine wpIn_rangeFunc ?_
  intro fn hfn
  obtain ⟨rec, hrec⟩ : ∃ rec : LoopState → Option Code → Loop, rec = fun st pe => { state := st, pending := pe, fn, tmps := a.tmps, params := ps, assign, body, defers := w.heap.size } := ⟨_, rfl⟩
  obtain ⟨W1, hW1⟩ : ∃ W1, (w.alloc (.deferred (some []))).alloc (.loop (rec .ready none)) = W1 := ⟨_, rfl⟩
  have hL1 : W1.heap[w.heap.size + 1]? = some (.loop (rec .ready none)) := by
    rw [← hW1]; have := World.alloc_heap_new (w.alloc (.deferred (some []))) (.loop (rec .ready none)); rwa [World.size_alloc] at this
  have hK1 : W1.heap[w.heap.size]? = some (.deferred (some [])) := by
    rw [← hW1]; exact (Below.heap_alloc _ _ _ (by simp)).trans (World.alloc_heap_new w _)
  have hS1 : W1.heap.size = w.heap.size + 2 := by rw [← hW1]; simp
  have hI1 : I [] W1 := by rw [← hW1]; exact hI _ _ _ h0 (((Up2.refl _ _ _ _ w).alloc _).alloc _)
  have hb1 : Below n₀ w0 W1 := by
    rw [← hW1]; exact hb0.trans (((Below.refl n₀ w).alloc hn₀ _).alloc (by simp; omega) _)
  refine ⟨w.heap.size + 1, [{ target := .collected w.heap.size, args := #[] }], W1, { target := .fn (.func gf) lb, args := #[.func (.yield (w.heap.size + 1)) #[] #[]] }, W1, gf,
    #[.func (.yield (w.heap.size + 1)) #[] #[]] ++ lb, W1, ?_, ?_, ?_, ?_, (fun h => by cases h), ?_⟩
  · rw [← hW1, hrec]; exact run_enterLoop_outer _ _ _ _ _
  · simp only [resolve, hg]
    simp [go_sem]
  · intro f' _; trivial
  · simp [invoke, go_sem, eg]
  · have keep : ∀ {A A' : World}, Up2 lo hi' W1.heap.size (W1.heap.size + K) A A' → ∀ {k : Nat} {o : Obj}, w.heap.size ≤ k → k < w.heap.size + 2 → A.heap[k]? = some o → A'.heap[k]? = some o := fun hu k o hk' hk ho =>
      (hu.block k (Array.getElem?_eq_some_iff.1 ho).1 (.inr (by omega)) (.inl (by omega))).trans ho
    have hcall := hseq (n - 1 - 1) (w.heap.size + 1)
      (fun pre W => I pre W ∧ W.heap[w.heap.size + 1]? = some (.loop (rec .ready none)) ∧ W.heap[w.heap.size]? = some (.deferred (some [])))
      (fun pre W => ∃ c, Ix c pre W ∧ W.heap[w.heap.size + 1]? = some (.loop (rec .done (some c))) ∧ W.heap[w.heap.size]? = some (.deferred (some [])))
      W1 hb1
      (fun pre A A' hs hu => ⟨hI pre A A' hs.1 (hu.wide (by omega) (by omega)), keep hu (by omega) (by omega) hs.2.1, keep hu (by omega) (by omega) hs.2.2⟩)
      ?_ ⟨hI1, hL1, hK1⟩
    · refine (callsIn_wide.2 (callsIn_wide.1 hcall)).mono ?_
      -- behind the iterator
      have up3 : ∀ (W3 : World) (o : Obj), Up2 lo hi' w.heap.size (w.heap.size + 2 + K) W3 (W3.putObj (w.heap.size + 1) o) := fun W3 o => (Up2.refl _ _ _ _ W3).putObj _ (by omega) (by omega)
      rintro e W2 ⟨⟨v, rfl⟩, (⟨hi, hl, hk⟩ | ⟨pre, hSp, c, hi, hl, hk⟩)⟩
      · exact ⟨none, _, by have := run_endLoop (P := P) hl (by rw [hrec]; simp); rw [hrec] at this; exact this, hdone _ _ (Nat.le_refl _) (by omega) (hI _ _ _ hi (up3 W2 _)) ((World.putObj_heap_other (by omega)).trans hk)⟩
      · exact ⟨some c, _, by have := run_endLoop (P := P) hl (by rw [hrec]; simp); rw [hrec] at this; exact this, hstop _ c pre _ (Nat.le_refl _) (by omega) hSp (hIx _ _ _ _ hi (up3 W2 _)) ((World.putObj_heap_other (by omega)).trans hk)⟩
    · -- one round
      rintro pre x W ⟨hi, hl, hk⟩ hpre hsz
      have hlt : w.heap.size + 1 < W.heap.size := (Array.getElem?_eq_some_iff.1 hl).1
      have hy := run_yield (P := P) (args := encs x) hl (by rw [hrec]; exact hps x)
      rw [hrec] at hy
      refine ⟨fn, _, assign, body, hy, roundIn_of_wpIn hfn (hassign _ pre x W _ hi (by omega) ?_)⟩
      clear hy
      intro a' Wa hkfa hkpa hia hax
      replace hl := (hkfa _ (by omega) (by omega)).trans hl
      replace hk := (hkfa _ (Nat.le_refl _) (by omega)).trans hk
      replace hlt : w.heap.size + 1 < Wa.heap.size := (Array.getElem?_eq_some_iff.1 hl).1
      have hsa := hkpa.size
      refine ⟨_, run_beginRound hl (by rw [hrec]), ?_⟩
      have hl2 : (Wa.putObj (w.heap.size + 1) (.loop { rec .ready none with state := .busy })).heap[w.heap.size + 1]? = some (.loop { rec .ready none with state := .busy }) := World.putObj_heap_same hlt
      have hk2 : (Wa.putObj (w.heap.size + 1) (.loop { rec .ready none with state := .busy })).heap[w.heap.size]? = some (.deferred (some [])) := (World.putObj_heap_other (by omega)).trans hk
      have hu2 : Up2 lo hi' w.heap.size (w.heap.size + 2 + K) Wa (Wa.putObj (w.heap.size + 1) (.loop { rec .ready none with state := .busy })) := (Up2.refl _ _ _ _ Wa).putObj _ (by omega) (by omega)
      have hu20 : Up2 0 0 w.heap.size (w.heap.size + 2 + K) Wa (Wa.putObj (w.heap.size + 1) (.loop { rec .ready none with state := .busy })) := (Up2.refl _ _ _ _ Wa).putObj _ (by omega) (by omega)
      refine wpIn_mono (hbody _ pre x a' _ (hI _ _ _ hia hu2) (hAx _ _ _ _ hax hu20) hpre (by simp; omega)) ?_
      have fin : ∀ (jump : Option Code) (W3 : World), Ke w.heap.size (w.heap.size + 2 + K) (Wa.putObj (w.heap.size + 1) (.loop { rec .ready none with state := .busy })) W3 →
          (Instr.endRound (w.heap.size + 1) jump).run P W3 = .ok (.bool jump.isNone) (W3.putObj (w.heap.size + 1) (.loop (rec (if jump.isNone then .ready else .done) jump))) ∧
          W3.heap[w.heap.size + 1]? = some (.loop { rec .ready none with state := .busy }) ∧
          (W3.putObj (w.heap.size + 1) (.loop (rec (if jump.isNone then .ready else .done) jump))).heap[w.heap.size + 1]? = some (.loop (rec (if jump.isNone then .ready else .done) jump)) ∧
          (W3.putObj (w.heap.size + 1) (.loop (rec (if jump.isNone then .ready else .done) jump))).heap[w.heap.size]? = some (.deferred (some [])) := fun jump W3 hk3 => by
        have hl3 := (hk3 (w.heap.size + 1) (by omega) (by omega)).trans hl2
        have := run_endRound (P := P) jump hl3
        rw [hrec] at this ⊢
        exact ⟨this, by rw [hrec] at hl3; exact hl3, World.putObj_heap_same (Array.getElem?_eq_some_iff.1 hl3).1, (World.putObj_heap_other (by omega)).trans ((hk3 w.heap.size (by omega) (by omega)).trans hk2)⟩
      have up3 : ∀ (W3 : World) (o : Obj), Up2 lo hi' w.heap.size (w.heap.size + 2 + K) W3 (W3.putObj (w.heap.size + 1) o) := fun W3 o => (Up2.refl _ _ _ _ W3).putObj _ (by omega) (by omega)
      have belP : ∀ (W3 : World) (o : Obj), Below n₀ W3 (W3.putObj (w.heap.size + 1) o) := fun W3 o => ⟨rfl, rfl, rfl, by simp, fun k hk => World.putObj_heap_other (show k ≠ w.heap.size + 1 by omega)⟩
      rintro e a3 W3 hp
      cases e with
      | normal =>
        obtain ⟨hk3, hkp3, hi3⟩ := hp
        obtain ⟨hr, hl3, hl4, hk4⟩ := fin none W3 hk3
        refine ⟨_, _, hr, .inl ⟨rfl, ⟨hI _ _ _ hi3 (up3 W3 _), hl4, hk4⟩, ?_, ?_⟩⟩
        · intro k k1 k2
          exact (World.putObj_heap_other (by omega)).trans ((hk3 k (by omega) (by omega)).trans ((World.putObj_heap_other (by omega)).trans (hkfa k (by omega) (by omega))))
        · exact ((hkpa.trans (belP Wa _)).trans hkp3).trans (belP W3 _)
      | ret =>
        obtain ⟨hk3, hi3⟩ := hp
        obtain ⟨hr, hl3, hl4, hk4⟩ := fin (some .ret) W3 hk3
        exact ⟨_, _, hr, .inr ⟨rfl, .ret, hIx _ _ _ _ hi3 (up3 W3 _), hl4, hk4⟩⟩
      | exit id =>
        obtain ⟨hk3, hi3⟩ := hp
        obtain ⟨hr, hl3, hl4, hk4⟩ := fin (some (.exit id)) W3 hk3
        exact ⟨_, _, hr, .inr ⟨rfl, .exit id, hIx _ _ _ _ hi3 (up3 W3 _), hl4, hk4⟩⟩
      | goto t =>
        obtain ⟨hk3, hi3⟩ := hp
        obtain ⟨hr, hl3, hl4, hk4⟩ := fin (some (.goto t)) W3 hk3
        exact ⟨_, _, hr, .inr ⟨rfl, .goto t, hIx _ _ _ _ hi3 (up3 W3 _), hl4, hk4⟩⟩
      | panic ch => exact hp.elim
      | outgrown => exact hp.elim

/- Plain facts on the tests of a model one after the other: which one follows a test. -/
/-- the test behind a test -/
def sucL : List Int → List Int → Option (List Int)
  | y :: ms, x :: xs => match sucL ms xs with
    | some r => some (x :: r)
    | none => if x + 1 < y then some ((x + 1) :: List.replicate ms.length 0) else none
  | _, _ => none
/-- each one of a list is followed by the next one, the last one by c -/
def Chc (f : List Int → Option (List Int)) : List (List Int) → Option (List Int) → Prop
  | [], _ => True
  | [a], c => f a = c
  | a :: b :: r, c => f a = some b ∧ Chc f (b :: r) c
theorem Chc.app {f : List Int → Option (List Int)} {c : Option (List Int)} {h : List Int} {l2 : List (List Int)} : ∀ {l1 : List (List Int)}, Chc f l1 (some h) → Chc f (h :: l2) c → Chc f (l1 ++ h :: l2) c
  | [], _, h2 => h2
  | [_], h1, h2 => ⟨h1, h2⟩
  | _ :: b :: r, h1, h2 => ⟨h1.1, Chc.app (l1 := b :: r) h1.2 h2⟩
theorem Chc.cons {ms : List Int} {y x : Int} : ∀ {l : List (List Int)}, Chc (sucL ms) l none → Chc (sucL (y :: ms)) (l.map (x :: ·)) (if x + 1 < y then some ((x + 1) :: List.replicate ms.length 0) else none)
  | [], _ => True.intro
  | [a], h => by
    have h' : sucL ms a = none := h
    show sucL (y :: ms) (x :: a) = _
    simp only [sucL, h']
  | a :: b :: r, h => by
    refine ⟨?_, Chc.cons (l := b :: r) h.2⟩
    have h' : sucL ms a = some b := h.1
    simp only [sucL, h']
theorem ch_full : ∀ {ms : List Int} {t : Int}, (∀ y ∈ ms, 1 ≤ y) → t = ms.length → Chc (sucL ms) (patsR ms t) none ∧ ∃ r, patsR ms t = List.replicate ms.length 0 :: r
  | [], t, _, h => by
    subst h
    exact ⟨rfl, [], by simp [patsR]⟩
  | y :: ms, t, hy, h => by
    subst h
    rw [patsR_cons (by simp; omega) (by simp), patsR_out (t := (((y :: ms).length : Nat) : Int)) (.inr (by simp; omega)), List.map_nil, List.append_nil]
    obtain ⟨i1, r, i2⟩ := ch_full (ms := ms) (t := (((y :: ms).length : Nat) : Int) - 1) (fun z hz => hy z (by simp [hz])) (by simp)
    have hy1 := hy y (by simp)
    rw [i2] at i1 ⊢
    have key : ∀ n : Nat, 1 ≤ n → (n : Int) ≤ y → Chc (sucL (y :: ms)) ((List.range n).flatMap fun (x : Nat) => (List.replicate ms.length 0 :: r).map ((x : Int) :: ·)) (if (n : Int) < y then some ((n : Int) :: List.replicate ms.length 0) else none) ∧
        ∃ q, ((List.range n).flatMap fun (x : Nat) => (List.replicate ms.length 0 :: r).map ((x : Int) :: ·)) = (0 :: List.replicate ms.length 0) :: q := by
      intro n
      induction n with
      | zero => intro h; omega
      | succ n ih =>
        intro _ hn
        rw [List.range_succ, List.flatMap_append]
        simp only [List.flatMap_cons, List.flatMap_nil, List.append_nil]
        have hc := Chc.cons (y := y) (x := (n : Int)) i1
        rw [show ((n + 1 : Nat) : Int) = (n : Int) + 1 by omega]
        by_cases h0 : n = 0
        · subst h0
          simp only [List.range_zero, List.flatMap_nil, List.nil_append]
          exact ⟨hc, _, rfl⟩
        · obtain ⟨k1, q, k2⟩ := ih (by omega) (by omega)
          rw [if_pos (by omega)] at k1
          refine ⟨Chc.app k1 hc, ?_⟩
          rw [k2]
          exact ⟨_, rfl⟩
    obtain ⟨k1, q, k2⟩ := key y.toNat (by omega) (by omega)
    rw [if_neg (by omega)] at k1
    refine ⟨k1, q, ?_⟩
    rw [k2]; simp [List.replicate_succ]
theorem ext_ch {m : List Int} (h : okM m = true) : Chc (sucL m) (extS m []) none ∧ ∃ r, extS m [] = List.replicate m.length 0 :: r := by
  have := ch_full (ms := m) (t := m.length) (fun y hy => by
    obtain ⟨k, hk⟩ := List.getElem?_of_mem hy
    exact (okM_at h hk).1) rfl
  unfold extS patS
  simp only [List.length_nil, List.drop_zero, List.nil_append, List.map_id']
  simpa using this
theorem Chc.at {f : List Int → Option (List Int)} : ∀ {l : List (List Int)} {k : Nat} {a : List Int}, Chc f l none → l[k]? = some a → f a = l[k + 1]?
  | [], _, _, _, h => by simp at h
  | [b], 0, a, h, e => by
    obtain rfl : b = a := by simpa using e
    exact h
  | [b], k + 1, a, _, e => by simp at e
  | b :: c :: r, 0, a, h, e => by
    obtain rfl : b = a := by simpa using e
    exact h.1
  | b :: c :: r, k + 1, a, h, e => by
    have := Chc.at (l := c :: r) (k := k) h.2 (by simpa using e)
    rw [this]; simp
/-- the search of the place that is raised -/
theorem suc_none : ∀ {ms t : List Int}, t.length = ms.length → (∀ g, g < ms.length → at5 t g = at5 ms g - 1) → sucL ms t = none
  | [], [], _, _ => rfl
  | [], _ :: _, h, _ => by simp at h
  | _ :: _, [], h, _ => by simp at h
  | y :: ms, x :: xs, hl, h => by
    have h1 := suc_none (ms := ms) (t := xs) (by simpa using hl) fun g hg => h (g + 1) (by simp; omega)
    have h2 : x = y - 1 := h 0 (by simp)
    simp only [sucL, h1]
    rw [if_neg (by omega)]
theorem suc_some : ∀ {ms t : List Int} {f : Nat}, t.length = ms.length → f < ms.length → (∀ g, f < g → g < ms.length → at5 t g = at5 ms g - 1) → at5 t f + 1 < at5 ms f →
    ∃ r, sucL ms t = some r ∧ r.length = ms.length ∧ ∀ g, at5 r g = if g = f then at5 t f + 1 else if f < g then 0 else at5 t g
  | [], _, _, _, h, _, _ => by simp at h
  | _ :: _, [], _, h, _, _, _ => by simp at h
  | y :: ms, x :: xs, 0, hl, _, h, hlt => by
    have h1 := suc_none (ms := ms) (t := xs) (by simpa using hl) fun g hg => h (g + 1) (by omega) (by simp; omega)
    have h2 : x + 1 < y := hlt
    refine ⟨(x + 1) :: List.replicate ms.length 0, ?_, by simp, fun g => ?_⟩
    · simp only [sucL, h1]; rw [if_pos h2]
    · cases g with
      | zero => rfl
      | succ g =>
        rw [if_neg (by omega), if_pos (by omega), at5_cons_succ]
        unfold at5 List.getD
        rw [List.getElem?_replicate]
        split <;> rfl
  | y :: ms, x :: xs, f + 1, hl, hf, h, hlt => by
    obtain ⟨r, h1, h2, h3⟩ := suc_some (ms := ms) (t := xs) (f := f) (by simpa using hl) (by simpa using hf) (fun g hg hgm => h (g + 1) (by omega) (by simp; omega)) hlt
    refine ⟨x :: r, ?_, by simp [h2], fun g => ?_⟩
    · simp only [sucL, h1]
    · cases g with
      | zero => simp [at5_cons_zero]
      | succ g =>
        rw [at5_cons_succ, h3 g]
        by_cases e : g = f
        · subst e; simp [at5_cons_succ]
        · rw [if_neg e, if_neg (show ¬ g + 1 = f + 1 by omega)]
          by_cases e2 : f < g
          · rw [if_pos e2, if_pos (show f + 1 < g + 1 by omega)]
          · rw [if_neg e2, if_neg (show ¬ f + 1 < g + 1 by omega), at5_cons_succ]

/- Walks: all tests of a model, one after the other, by an iterator. -/
open Go.RowKit Go.Shelf

attribute [local go_sem] Oper.semAt_some

/-- the least number of which something holds -/
noncomputable def lst (P : Nat → Prop) : Nat := by
  classical
  exact if h : ∃ n, P n ∧ ∀ m, m < n → ¬ P m then Classical.choose h else 0
theorem lst_ex {P : Nat → Prop} {n : Nat} (h : P n) : ∃ n, P n ∧ ∀ m, m < n → ¬ P m := by
  induction n using Nat.strongRecOn with
  | ind n ih =>
    by_cases hx : ∃ m, m < n ∧ P m
    · obtain ⟨m, h1, h2⟩ := hx
      exact ih m h1 h2
    · exact ⟨n, h, fun m h1 h2 => hx ⟨m, h1, h2⟩⟩
theorem lst_spec {P : Nat → Prop} {n : Nat} (h : P n) : P (lst P) := by
  unfold lst; rw [dif_pos (lst_ex h)]; exact (Classical.choose_spec (lst_ex h)).1
theorem lst_le {P : Nat → Prop} {n : Nat} (h : P n) : lst P ≤ n := by
  have hx := lst_ex h
  have h2 : ¬ n < lst P := by
    unfold lst; rw [dif_pos hx]
    intro hl
    exact (Classical.choose_spec hx).2 n hl h
  omega

theorem i_testsOf {m : List Int} {a : Option Addr} {c : Nat} {w : World} :
    Calls Tryz.prog 85 #[.slice a m.length c] w (fun e w' => e = .returned (.func (.func 104) #[] #[.pointer (some ⟨w.heap.size, 0, none⟩)]) ∧ w' = w.alloc (.cells #[.slice a m.length c] 45)) := by
  go_enter Tryz.func85, Tryz.ntmps85
  go_wp2
  go_ret
  exact ⟨rfl, rfl⟩

/-- the cells of the test between two rounds, and while the next one is sought -/
def TsB (m : List Int) (xs : List (List Int)) (J : List (List Int) → World → Prop) (B n₀ : Nat) (w : World) (q : Nat) (wr : World) : Prop :=
  ∃ (k : Nat) (x : List Int), q = xs.length - k ∧ Hid (xs[k]? = some x) ∧ J (xs.take k) wr ∧ wr.heap[B]? = some (.cells #[.int .i64 (at5 x 0), .int .i64 (at5 x 1), .int .i64 (at5 x 2), .int .i64 (at5 x 3), .int .i64 (at5 x 4)] 130 (0, 0)) ∧ Below n₀ w wr

/-- zeros from k on -/
def zerT (x : List Int) (k : Nat) (i : Nat) : Int := if k ≤ i then 0 else at5 x i
/-- one place of an array written -/
def putT (T : Nat → Int) (f : Nat) (v : Int) (i : Nat) : Int := if i = f then v else T i
theorem setQ {w : World} {b t : Nat} {T : Nat → Int} (h : w.heap[b]? = some (.cells #[.int .i64 (T 0), .int .i64 (T 1), .int .i64 (T 2), .int .i64 (T 3), .int .i64 (T 4)] t (0, 0))) {f : Nat} (hf : f < 5) (v : Int) :
    (w.setCell ⟨b, f, none⟩ (.int .i64 v)).heap[b]? = some (.cells #[.int .i64 (putT T f v 0), .int .i64 (putT T f v 1), .int .i64 (putT T f v 2), .int .i64 (putT T f v 3), .int .i64 (putT T f v 4)] t (0, 0)) := by
  simp only [World.setCell, Array.getElem?_modify, if_true]
  rw [h]
  match f, hf with
  | 0, _ => rfl
  | 1, _ => rfl
  | 2, _ => rfl
  | 3, _ => rfl
  | 4, _ => rfl
theorem zer_put (x : List Int) (q : Nat) (i : Nat) : putT (zerT x (q + 1)) q 0 i = zerT x q i := by
  unfold putT zerT
  by_cases h1 : i = q
  · subst h1; rw [if_pos rfl, if_pos (Nat.le_refl _)]
  · rw [if_neg h1]
    by_cases h2 : q ≤ i
    · rw [if_pos (by omega), if_pos h2]
    · rw [if_neg (by omega), if_neg h2]
theorem zer_all {x : List Int} {n : Nat} (h : x.length = n) (i : Nat) : zerT x n i = at5 x i := by
  unfold zerT
  split
  · rw [at5_out (by omega)]
  · rfl
theorem rep5 (n : Nat) (i : Nat) : at5 (List.replicate n 0) i = 0 := by
  unfold at5 List.getD
  rw [List.getElem?_replicate]
  split <;> rfl
/-- the next test, as the array has it -/
theorem suc_put {m x : List Int} {xs : List (List Int)} {k q : Nat} (hch : Chc (sucL m) xs none) (hx : xs[k]? = some x) (hl : x.length = m.length) (hq : q < m.length) (hA : ∀ g, q + 1 ≤ g → g < m.length → at5 x g = at5 m g - 1) (hlt : at5 x q + 1 < at5 m q) :
    ∃ r, xs[k + 1]? = some r ∧ ∀ i, putT (zerT x (q + 1)) q (at5 x q + 1) i = at5 r i := by
  obtain ⟨r, h1, _, h3⟩ := suc_some (ms := m) (t := x) (f := q) hl hq (fun g h1 h2 => hA g h1 h2) hlt
  refine ⟨r, (Chc.at hch hx).symm.trans h1, fun i => ?_⟩
  rw [h3 i]
  unfold putT zerT
  by_cases h1 : i = q
  · rw [if_pos h1, if_pos h1]
  · rw [if_neg h1, if_neg h1]
    by_cases h2 : q < i
    · rw [if_pos (by omega), if_pos h2]
    · rw [if_neg (by omega), if_neg h2]
theorem suc_end {m x : List Int} {xs : List (List Int)} {k : Nat} (hch : Chc (sucL m) xs none) (hx : xs[k]? = some x) (hl : x.length = m.length) (hA : ∀ g, 0 ≤ g → g < m.length → at5 x g = at5 m g - 1) : xs.take (k + 1) = xs := by
  have h1 := (Chc.at hch hx).symm.trans (suc_none (ms := m) (t := x) hl fun g hg => hA g (Nat.zero_le _) hg)
  rw [List.getElem?_eq_none_iff] at h1
  exact List.take_of_length_le (by omega)

set_option maxRecDepth 100000 in
set_option maxHeartbeats 2000000 in
theorem testsOf1_seq {m : List Int} {a : Option Addr} {c lo hi b n₀ : Nat} {w : World} (hok : okM m = true) (hm : RI w lo hi a m) (hB : hi ≤ n₀) (hb : w.heap[b]? = some (.cells #[.slice a m.length c] 45 (0, 0))) (hbn : b < n₀) (hn : n₀ ≤ w.heap.size) :
    SeqO Tryz.prog 104 #[.pointer (some ⟨b, 0, none⟩)] (fun x : List Int => #[.agg #[.int .i64 (at5 x 0), .int .i64 (at5 x 1), .int .i64 (at5 x 2), .int .i64 (at5 x 3), .int .i64 (at5 x 4)]]) (extS m []) n₀ 0 0 1 w := by
  intro n l J Jx W hW hJ hY h0
  have hxr : ∀ x ∈ extS m [], okT m x = true := fun x hx => (ext_mem hok).1 hx
  obtain ⟨xs, hxs⟩ : ∃ xs, extS m [] = xs := ⟨_, rfl⟩
  rw [hxs] at hY hxr ⊢
  obtain ⟨hch, r0, hr0⟩ := ext_ch hok
  rw [hxs] at hch hr0
  have hm5 := okM_len hok
  have HCH := Lib.hid hch
  have HR0 := Lib.hid hr0
  have HOK := Lib.hid hok
  have HXR := Lib.hid hxr
  clear hch hr0 hxs hok hxr
  have hws := hW.size
  have hwl : IntKind.i64.wrap ((m.length : Int) - 1) = (m.length : Int) - 1 := IntWalk.i64_in _ (by omega)
  refine callsIn_of_wp Tryz.func104 rfl trivial ?_ rfl
  simp only [Tryz.ntmps104, List.size_toArray, List.length_cons, List.length_nil, Nat.reduceAdd, Nat.reduceSub, Array.replicate_succ, Array.replicate_zero, List.push_toArray, List.append_toArray, List.nil_append, List.cons_append]
  gi_wp2
  gi_loopw [] (fun wr => ∃ q, TsB m xs J W.heap.size n₀ w q wr) (fun wr => lst (fun q => TsB m xs J W.heap.size n₀ w q wr))
  case atStart =>
    refine ⟨_, 0, List.replicate m.length 0, rfl, ?_, ?_, ?_, ?_⟩
    · show _ = _; rw [HR0.out]; rfl
    · exact hJ _ _ _ h0 ((Up2.refl _ _ _ _ W).alloc _)
    · simp only [rep5]; exact heap_alloc_new _ _
    · exact hW.trans ((Below.refl n₀ W).alloc (by omega) _)
  case round =>
    obtain ⟨q0, hq0⟩ := hrel
    have hq := lst_spec (P := fun q => TsB m xs J W.heap.size n₀ w q wr) hq0
    obtain ⟨q, hqq⟩ : ∃ q, lst (fun q => TsB m xs J W.heap.size n₀ w q wr) = q := ⟨_, rfl⟩
    rw [hqq] at hq
    clear hq0
    obtain ⟨k, x, hqk, hx, hj, hcl, hbw⟩ := hq
    have HQ := Lib.hid hqq
    have hkl := lt_of_at hx.out
    have hxT := HXR.out x (List.mem_of_getElem? hx.out)
    have hxl : x.length = m.length := okW_len hxT
    obtain ⟨t0, t1, t2, t3, t4⟩ := cells5' hcl
    have hBs : W.heap.size < wr.heap.size := (Array.getElem?_eq_some_iff.1 hcl).1
    obtain ⟨fn, tmps, assign, body, hy, hR⟩ := hY (xs.take k) x wr hj (by rw [← take_snoc hx.out]; exact List.take_prefix _ _) (by omega)
    rw [← take_snoc hx.out] at hR
    try dsimp only at hy
    have HCL := Lib.hid hcl
    have HXT := Lib.hid hxT
    have HXL := Lib.hid hxl
    have HQK := Lib.hid hqk
    clear hcl hqq hxT hxl hqk
    gi_wp2
    refine hR.mono ?_
    rintro e W3 (⟨rfl, hj3, hk3, hb3⟩ | ⟨rfl, hx3⟩)
    · clear hR hy t0 t1 t2 t3 t4
      have hcl3 := (hk3 W.heap.size (Nat.le_refl _) (by omega)).trans HCL.out
      have hbw3 := hbw.trans hb3
      have hcb : W3.cell? ⟨b, 0, none⟩ = some (.slice a m.length c) := by
        rw [cell_of_row _ _ 0 _ _ _ ((hbw3.block b hbn).trans hb)]; rfl
      have HC3 := Lib.hid hcl3
      clear hcl3 hk3 hb3 hj
      gi_wp2
      obtain ⟨wo, rfl⟩ : ∃ x : World, x = wr := ⟨_, rfl⟩
      refine wpIn_wide.2 ?_
      go_loopw [4] (fun f wr => ∃ k1 : Nat, k1 ≤ m.length ∧ ((k1 = 0 ∧ f = .int .i64 (-1)) ∨ ∃ q : Nat, k1 = q + 1 ∧ f = .int .i64 (q : Int)) ∧
        wr.heap[W.heap.size]? = some (.cells #[.int .i64 (zerT x k1 0), .int .i64 (zerT x k1 1), .int .i64 (zerT x k1 2), .int .i64 (zerT x k1 3), .int .i64 (zerT x k1 4)] 130 (0, 0)) ∧ J (xs.take (k + 1)) wr ∧ Below n₀ w wr ∧
        Hid (∀ g, k1 ≤ g → g < m.length → at5 x g = at5 m g - 1)) (fun f _ => (intOf f + 1).toNat)
      case atStart =>
        refine ⟨m.length, Nat.le_refl _, .inr ⟨m.length - 1, by omega, by go_num⟩, ?_, hj3, hbw3, fun g h1 h2 => by omega⟩
        simp only [zer_all HXL.out]; exact HC3.out
      case round =>
        clear hj3 hbw3 hcb
        obtain ⟨k1, hk1, hf, e3, hj1, hB1, hA⟩ := hrel
        have hcb : wr.cell? ⟨b, 0, none⟩ = some (.slice a m.length c) := by
          rw [cell_of_row _ _ 0 _ _ _ ((hB1.block b hbn).trans hb)]; rfl
        have hBr : W.heap.size < wr.heap.size := (Array.getElem?_eq_some_iff.1 e3).1
        rcases hf with ⟨hk0, rfl⟩ | ⟨f, hkq, rfl⟩
        · have E3 := Lib.hid e3
          have hfin : Hid (xs.take (k + 1) = xs) := suc_end HCH.out hx.out HXL.out (fun g _ hg => hA.out g (by omega) hg)
          clear e3
          have hneg : decide ((0 : Int) ≤ -1) = false := by decide
          have hneg2 : decide ((-1 : Int) < 0) = true := by decide
          go_wp2_with fail
          go_quiet (fail)
          go_wp2
          gi_wp2
          refine bodyPost_ret (results_none rfl _ _ _) rfl ?_
          refine ⟨⟨_, rfl⟩, .inl ?_⟩
          rw [hfin.out] at hj1
          exact hJ _ _ _ hj1 ((Up2.refl _ _ _ _ wr).dr (Dr.drewN (Dr.refl wr) _))
        · have hqm : f < m.length := by omega
          have hq5 : f < 5 := by omega
          have hi3 := idxAt5 W.heap.size hq5
          have hcT : wr.cell? ⟨W.heap.size, f, none⟩ = some (.int .i64 (at5 x f)) := by
            rw [cell5 e3 hq5]; unfold zerT; rw [if_neg (by omega)]
          have hfT := frozen5 e3 f
          obtain ⟨bm, om, hma, _, _, y, hy, hym⟩ := (hm.below hB1 hB) f hqm
          have hym : wr.cell? ⟨bm, om + f, none⟩ = some (.int .i64 y) := hym
          have hidm := idxI hma hqm c
          have hyv : at5 m f = y := at5_of hy
          have hyb := okM_at HOK.out hy
          have hxb := okW_at5 HXT.out hqm
          rw [hyv] at hxb
          have hwy := wrap_pred hyb.1 hyb.2
          have hpos : decide ((0 : Int) ≤ (f : Int)) = true := by simp
          have hneg2 : decide ((f : Int) < 0) = false := decide_eq_false (by omega)
          have E3 := Lib.hid e3; have HYV := Lib.hid hyv; have HKQ := Lib.hid hkq
          clear e3 hma hm hy hyv
          by_cases hlt : at5 x f = y - 1
          · have hcc : (at5 x f == y - 1) = true := by rw [hlt]; exact beq_self_eq_true _
            have HLT := Lib.hid hlt
            clear hlt
            go_wp2_with fail
            go_quiet (fail)
            go_wp2
            go_roundw
            case rel =>
              have e3 : ∀ N, (wr.drewN N).heap[W.heap.size]? = some (.cells #[.int .i64 (zerT x (f + 1) 0), .int .i64 (zerT x (f + 1) 1), .int .i64 (zerT x (f + 1) 2), .int .i64 (zerT x (f + 1) 3), .int .i64 (zerT x (f + 1) 4)] 130 (0, 0)) := fun N => by have := E3.out; rw [HKQ.out] at this; exact this
              have hz : ∀ N, ((wr.drewN N).setCell ⟨W.heap.size, f, none⟩ (.int .i64 0)).heap[W.heap.size]? = some (.cells #[.int .i64 (zerT x f 0), .int .i64 (zerT x f 1), .int .i64 (zerT x f 2), .int .i64 (zerT x f 3), .int .i64 (zerT x f 4)] 130 (0, 0)) := fun N => by
                have := setQ (e3 N) hq5 0
                simp only [zer_put] at this
                exact this
              refine ⟨f, by omega, ?_, ?_, ?_, ?_, fun g h1 h2 => ?_⟩
              · cases f with
                | zero => exact .inl ⟨rfl, by go_num⟩
                | succ f => exact .inr ⟨f, rfl, by go_num⟩
              · exact hz _
              · exact hJ _ _ _ hj1 (((Up2.refl _ _ _ _ wr).dr (Dr.drewN (Dr.refl wr) _)).set _ (.inr ⟨Nat.le_refl _, Nat.lt_succ_self _⟩))
              · exact (hB1.trans (Dr.below (Dr.drewN (Dr.refl wr) _) _)).setCell (by simp; omega) _
              · by_cases h4 : g = f
                · subst h4; rw [HYV.out]; exact HLT.out
                · exact hA.out g (by omega) h2
            case measure => simp [intOf]
          · have hcc : (at5 x f == y - 1) = false := beq_eq_false_iff_ne.2 hlt
            have HLT : Hid (at5 x f + 1 < at5 m f) := by show _ < _; rw [HYV.out]; omega
            clear hlt
            obtain ⟨r, hr1, hr2⟩ := suc_put HCH.out hx.out HXL.out hqm (fun g h1 h2 => hA.out g (by omega) h2) HLT.out
            have HR1 := Lib.hid hr1
            have HR2 := Lib.hid hr2
            have hrl := lt_of_at hr1
            have hwx : IntKind.i64.wrap (at5 x f + 1) = at5 x f + 1 := IntWalk.i64_in _ (by omega)
            clear hr1 hr2
            go_wp2_with fail
            go_quiet (fail)
            go_wp2
            gi_wp2
            have hnew : ∀ N, TsB m xs J W.heap.size n₀ w (xs.length - (k + 1)) ((wr.drewN N).setCell ⟨W.heap.size, f, none⟩ (.int .i64 (at5 x f + 1))) := fun N => by
              have e3 : (wr.drewN N).heap[W.heap.size]? = some (.cells #[.int .i64 (zerT x (f + 1) 0), .int .i64 (zerT x (f + 1) 1), .int .i64 (zerT x (f + 1) 2), .int .i64 (zerT x (f + 1) 3), .int .i64 (zerT x (f + 1) 4)] 130 (0, 0)) := by have := E3.out; rw [HKQ.out] at this; exact this
              refine ⟨k + 1, r, rfl, HR1.out, ?_, ?_, ?_⟩
              · exact hJ _ _ _ hj1 (((Up2.refl _ _ _ _ wr).dr (Dr.drewN (Dr.refl wr) _)).set _ (.inr ⟨Nat.le_refl _, Nat.lt_succ_self _⟩))
              · have := setQ e3 hq5 (at5 x f + 1)
                simp only [HR2.out] at this
                exact this
              · exact (hB1.trans (Dr.below (Dr.drewN (Dr.refl wr) _) _)).setCell (by simp; omega) _
            go_roundw
            case rel => exact ⟨_, hnew _⟩
            case measure =>
              rw [HQ.out, HQK.out]
              exact Nat.lt_of_le_of_lt (lst_le (hnew _)) (by omega)
    · gi_wp2
      go_end0
      exact ⟨⟨_, rfl⟩, .inr ⟨_, List.take_prefix _ _, hx3⟩⟩

/- Walks: the tests of an iterator collected in a slice. -/
open Go.RowKit Go.Shelf

attribute [local go_sem] Oper.semAt_some

theorem wpListIn_appP {F : Fence} {n : Nat} {wr : World} {ops : Array Oper} {rest : List Oper} {o : Oper} {a : Act} {Q : Exit → Act → World → Prop} (hgd : o.guard = none) (s t : Operand)
    (ho : o.op = .call { callee := .builtin .append, args := #[s, t], argTypes := #[117, 117] }) (B : Nat) (v : Value) (ps : List (List Int)) (hs : a.eval s = v) (hown : OwnP wr B v ps) (l : List Int)
    (nw : Nat) (hx : a.eval t = .slice (some ⟨nw, 0, none⟩) 1 1) (hnw : nw = wr.heap.size) (hl : ps.length ≤ 1099511627776) (hB : B ≤ wr.heap.size)
    (h : ∀ v' w', OwnP w' B v' (ps ++ [l]) → GrP wr w' v v' → wpListIn F n Tryz.prog ops Q rest (a.put o.dst v') w') : wpListIn F n Tryz.prog ops Q (o :: rest) a (wr.alloc (.cells #[.int .i64 (at5 l 0), .int .i64 (at5 l 1), .int .i64 (at5 l 2), .int .i64 (at5 l 3), .int .i64 (at5 l 4)] 130)) := by
  subst hnw
  obtain ⟨i0, hi, hz0, hz1, hz2⟩ := info_parts infoPat
  have hlt := World.ownsRow.lt hown
  refine wpListIn_append_own_at _ hgd s t 117 ho B 130 i0 _ 5 40 undPs hi hz0 hz1 hz2 rfl (by decide) v ps.length (ps.flatMap cs5) hs (World.ownsRow.alloc hown _) ⟨wr.heap.size, 0, none⟩ 1 1 (cs5 l) hx rfl ?_ ?_ ?_ ?_ ?_ ?_
  · exact World.news_of_block (cs := #[.int .i64 (at5 l 0), .int .i64 (at5 l 1), .int .i64 (at5 l 2), .int .i64 (at5 l 3), .int .i64 (at5 l 4)]) (t := 130) (fr := (0, 0)) (heap_alloc_new wr _)
  · intro u hu; simp [cs5] at hu; rcases hu with rfl | rfl | rfl | rfl | rfl <;> rfl
  · unfold maxLen; omega
  · omega
  · simp; omega
  · intro v' w' h1 h2 h3 h4
    refine h v' w' ?_ ⟨(World.grownBy_alloc wr _ _).trans h2, ?_⟩
    · unfold OwnP; rw [List.flatMap_append, List.length_append]; simpa using h1
    · rcases h4 with h4 | h4
      · exact .inl h4
      · refine .inr ⟨_, h4, by simp, ?_⟩
        exact ((World.ownsRow.lt h1) _ h4).2

/- Walks: the best one of the tests that an iterator gives. -/
open Go.RowKit Go.Shelf

attribute [local go_sem] Oper.semAt_some

theorem met5_step {ps : List (List Int)} {T : Nat → Int} {k : Nat} {r : List Int} (hx : ps[k]? = some r) : met5 (ps.take (k + 1)) T = met5 (ps.take k) T + if meet5 (at5 r) T then 1 else 0 := by
  unfold met5; rw [take_snoc hx, List.countP_append]; simp [List.countP_cons]
theorem met5_le (ps : List (List Int)) (T : Nat → Int) (k : Nat) : met5 (ps.take k) T ≤ k := Nat.le_trans List.countP_le_length (by simp; omega)
theorem met5_most (ps : List (List Int)) (T : Nat → Int) (k : Nat) : met5 ps T + k ≤ met5 (ps.take k) T + ps.length ∨ ps.length ≤ k := by
  by_cases h : ps.length ≤ k
  · exact .inr h
  · left
    unfold met5
    have e : ps = ps.take k ++ ps.drop k := (List.take_append_drop k ps).symm
    have h1 : ps.countP (fun p => meet5 (at5 p) T) = (ps.take k).countP (fun p => meet5 (at5 p) T) + (ps.drop k).countP (fun p => meet5 (at5 p) T) := by
      rw [← List.countP_append, List.take_append_drop]
    have h2 : (ps.drop k).countP (fun p => meet5 (at5 p) T) ≤ ps.length - k := by
      have := List.countP_le_length (p := fun p => meet5 (at5 p) T) (l := ps.drop k); simpa using this
    omega
/-- the most patterns that a test so far meets, or -1 -/
def moO (f : List Int → Nat) (pre : List (List Int)) : Int := if pre = [] then -1 else (f (bstL f pre) : Int)
theorem bsO_no {f : List Int → Nat} {pre : List (List Int)} {x : List Int} (h : (f x : Int) ≤ moO f pre) : bstL f (pre ++ [x]) = bstL f pre ∧ moO f (pre ++ [x]) = moO f pre := by
  have hne : pre ≠ [] := by
    intro e
    subst e
    unfold moO at h; rw [if_pos rfl] at h; omega
  have h2 := h
  unfold moO at h2; rw [if_neg hne] at h2
  have e : bstL f (pre ++ [x]) = bstL f pre := by rw [bstL_snoc f x hne, btr_no (by omega)]
  refine ⟨e, ?_⟩
  unfold moO
  rw [if_neg hne, if_neg (by simp), e]
theorem bsO_yes {f : List Int → Nat} {pre : List (List Int)} {x : List Int} (h : moO f pre < (f x : Int)) : bstL f (pre ++ [x]) = x ∧ moO f (pre ++ [x]) = f x := by
  have e : bstL f (pre ++ [x]) = x := by
    by_cases hne : pre = []
    · subst hne; rw [List.nil_append, bstL_one]
    · unfold moO at h; rw [if_neg hne] at h
      rw [bstL_snoc f x hne, btr_yes (by omega)]
  refine ⟨e, ?_⟩
  unfold moO
  rw [if_neg (by simp), e]
theorem moO_lo (f : List Int → Nat) (pre : List (List Int)) : -1 ≤ moO f pre := by
  unfold moO; split <;> omega
theorem moO_hi {ps : List (List Int)} (pre : List (List Int)) : moO (fun x => met5 ps (at5 x)) pre ≤ ps.length := by
  unfold moO
  split
  · omega
  · exact Int.ofNat_le.2 (Nat.le_trans List.countP_le_length (Nat.le_refl _))
theorem bstL_nil (f : List Int → Nat) : bstL f [] = [] := rfl

theorem alq4 (w : World) (o0 o1 o2 o3 : Obj) : ((((w.alloc o0).alloc o1).alloc o2).alloc o3).heap[w.heap.size]? = some o0 ∧ ((((w.alloc o0).alloc o1).alloc o2).alloc o3).heap[w.heap.size + 1]? = some o1 ∧
    ((((w.alloc o0).alloc o1).alloc o2).alloc o3).heap[w.heap.size + 1 + 1]? = some o2 ∧ ((((w.alloc o0).alloc o1).alloc o2).alloc o3).heap[w.heap.size + 1 + 1 + 1]? = some o3 ∧ Below w.heap.size w ((((w.alloc o0).alloc o1).alloc o2).alloc o3) ∧
    ((((w.alloc o0).alloc o1).alloc o2).alloc o3).heap.size = w.heap.size + 4 := by
  have h0 := heap_alloc_new w o0
  have h1 := heap_alloc_new (w.alloc o0) o1
  have h2 := heap_alloc_new ((w.alloc o0).alloc o1) o2
  have h3 := heap_alloc_new (((w.alloc o0).alloc o1).alloc o2) o3
  simp only [World.size_alloc] at h1 h2 h3
  refine ⟨?_, ?_, ?_, h3, ((((Below.refl _ w).alloc (Nat.le_refl _) _).alloc (by simp) _).alloc (by simp <;> omega) _).alloc (by simp <;> omega) _, by simp⟩
  · rw [Below.heap_alloc _ _ _ (by simp <;> omega), Below.heap_alloc _ _ _ (by simp <;> omega), Below.heap_alloc _ _ _ (by simp)]; exact h0
  · rw [Below.heap_alloc _ _ _ (by simp <;> omega), Below.heap_alloc _ _ _ (by simp)]; exact h1
  · rw [Below.heap_alloc _ _ _ (by simp)]; exact h2
theorem set5q {w : World} {b t : Nat} {c : Array Value} (hc : c.size = 5) (h : w.heap[b]? = some (.cells c t (0, 0))) (v0 v1 v2 v3 v4 : Value) :
    (((((w.setCell ⟨b, 0, none⟩ v0).setCell ⟨b, 1, none⟩ v1).setCell ⟨b, 2, none⟩ v2).setCell ⟨b, 3, none⟩ v3).setCell ⟨b, 4, none⟩ v4).heap[b]? = some (.cells #[v0, v1, v2, v3, v4] t (0, 0)) := by
  obtain ⟨l⟩ := c
  match l, hc, h with
  | [x0, x1, x2, x3, x4], _, h =>
    simp only [World.setCell, Array.getElem?_modify, if_true]
    rw [h]; rfl
theorem set5w {w : World} {b t : Nat} {c : Array Value} (hc : c.size = 5) (h : w.heap[b]? = some (.cells c t (0, 0))) (v0 v1 v2 v3 v4 : Value) :
    ∃ W, W = (((((w.setCell ⟨b, 0, none⟩ v0).setCell ⟨b, 1, none⟩ v1).setCell ⟨b, 2, none⟩ v2).setCell ⟨b, 3, none⟩ v3).setCell ⟨b, 4, none⟩ v4) ∧ W.heap[b]? = some (.cells #[v0, v1, v2, v3, v4] t (0, 0)) ∧
      (∀ k, k ≠ b → W.heap[k]? = w.heap[k]?) ∧ W.heap.size = w.heap.size ∧ (W.os = w.os ∧ W.tape = w.tape ∧ W.output = w.output) := by
  refine ⟨_, rfl, set5q hc h v0 v1 v2 v3 v4, fun k hk => ?_, by simp only [World.setCell, Array.size_modify], by simp only [World.setCell], by simp only [World.setCell], by simp only [World.setCell]⟩
  simp only [World.setCell, Array.getElem?_modify, if_neg (Ne.symm hk)]
theorem set1w {w : World} {b t : Nat} {u : Value} (h : w.heap[b]? = some (.cells #[u] t (0, 0))) (v : Value) : (w.setCell ⟨b, 0, none⟩ v).heap[b]? = some (.cells #[v] t (0, 0)) := by
  simp only [World.setCell, Array.getElem?_modify, if_true]; rw [h]; rfl

theorem infoPatB : (Tryz.prog.info? 130).map (·.size) = some 5 := by kernel_rfl
/-- the four boxes of bestOf, B ahead of them -/
structure BoI (B : Nat) (w : World) (v : Value) (f : List Int → Nat) (lo hi : Nat) (pre : List (List Int)) (A : World) : Prop where
  h0 : A.heap[B]? = some (.cells #[v] 117 (0, 0))
  h1 : A.heap[B + 1]? = some (.cells #[.int .i64 ((fun _ => 0) 0), .int .i64 ((fun _ => 0) 1), .int .i64 ((fun _ => 0) 2), .int .i64 ((fun _ => 0) 3), .int .i64 ((fun _ => 0) 4)] 130 (0, 0))
  h2 : A.heap[B + 1 + 1]? = some (.cells #[.int .i64 (at5 (bstL f pre) 0), .int .i64 (at5 (bstL f pre) 1), .int .i64 (at5 (bstL f pre) 2), .int .i64 (at5 (bstL f pre) 3), .int .i64 (at5 (bstL f pre) 4)] 130 (0, 0))
  h3 : A.heap[B + 1 + 1 + 1]? = some (.cells #[.int .i64 (moO f pre)] 3 (0, 0))
  up : Upd lo hi w A
  sz : B + 4 ≤ A.heap.size
theorem BoI.turn {B : Nat} {w : World} {v : Value} {f : List Int → Nat} {lo hi : Nat} {pre : List (List Int)} {A A' : World} (h : BoI B w v f lo hi pre A) (hw : B = w.heap.size) (hos : A'.os = A.os) (ht : A'.tape = A.tape) (ho : A'.output = A.output) (hs : A.heap.size ≤ A'.heap.size)
    (hk : ∀ k, k < B + 4 → (k < lo ∨ hi ≤ k) → A'.heap[k]? = A.heap[k]?) (hhi : hi ≤ B) : BoI B w v f lo hi pre A' :=
  ⟨(hk _ (by omega) (.inr hhi)).trans h.h0, (hk _ (by omega) (.inr (by omega))).trans h.h1, (hk _ (by omega) (.inr (by omega))).trans h.h2, (hk _ (by omega) (.inr (by omega))).trans h.h3,
    ⟨hos.trans h.up.os, ht.trans h.up.tape, ho.trans h.up.output, Nat.le_trans h.up.size hs, fun k hk1 hk2 => (hk k (by omega) hk2).trans (h.up.block k hk1 hk2)⟩, by have := h.sz; omega⟩

set_option maxRecDepth 100000 in
set_option maxHeartbeats 4000000 in
theorem i_bestOf {ps xs : List (List Int)} {v : Value} {Bp : Nat} {wp : World} {gf : Nat} {lb : Array Value} {n₀ lo hi K : Nat} {w0 w : World} (eg : ∀ args w, (callFunc gf args).run Tryz.prog w = .ok (.enter gf args) w)
    (hseq : SeqO Tryz.prog gf lb (fun x : List Int => #[.agg #[.int .i64 (at5 x 0), .int .i64 (at5 x 1), .int .i64 (at5 x 2), .int .i64 (at5 x 3), .int .i64 (at5 x 4)]]) xs n₀ lo hi K w0) (hn₀ : n₀ ≤ w.heap.size) (hhi : hi ≤ w.heap.size) (hb0 : Below n₀ w0 w)
    (ho : OwnP wp Bp v ps) (hbp : Below wp.heap.size wp w) (hcap : ∀ k, Bp ≤ k → k < wp.heap.size → k < lo ∨ hi ≤ k) (hl : ps.length ≤ 1048576) :
    Calls Tryz.prog 101 #[.func (.func gf) #[] lb, v] w (fun e w' => e = .returned (.agg #[.int .i64 (at5 (bstL (fun x => met5 ps (at5 x)) xs) 0), .int .i64 (at5 (bstL (fun x => met5 ps (at5 x)) xs) 1), .int .i64 (at5 (bstL (fun x => met5 ps (at5 x)) xs) 2), .int .i64 (at5 (bstL (fun x => met5 ps (at5 x)) xs) 3), .int .i64 (at5 (bstL (fun x => met5 ps (at5 x)) xs) 4)]) ∧ Upd lo hi w w') := by
  obtain ⟨a, c, rfl, hat⟩ := ho.at
  have HAT := Lib.hid hat
  obtain ⟨M, hM⟩ : ∃ M, ps.length = M := ⟨_, rfl⟩
  have HNN := Lib.hid hM
  have hMl : M ≤ 1048576 := by omega
  have hs0 := hbp.size
  rw [hM]
  clear hat ho hM hl
  obtain ⟨f, hf⟩ : ∃ f : List Int → Nat, f = fun x => met5 ps (at5 x) := ⟨_, rfl⟩
  rw [← hf]
  have HF := Lib.hid hf
  have hmh : ∀ pre, -1 ≤ moO f pre ∧ moO f pre ≤ M := fun pre => ⟨moO_lo _ _, by rw [hf, ← HNN.out]; exact moO_hi pre⟩
  have HMH := Lib.hid hmh
  clear hf hmh
  obtain ⟨g0, g1, g2, g3, g4, g5⟩ := alq4 w (.cells #[.slice a M c] 117) (.cells #[.int .i64 ((fun _ => 0) 0), .int .i64 ((fun _ => 0) 1), .int .i64 ((fun _ => 0) 2), .int .i64 ((fun _ => 0) 3), .int .i64 ((fun _ => 0) 4)] 130) (.cells #[.int .i64 ((fun _ => 0) 0), .int .i64 ((fun _ => 0) 1), .int .i64 ((fun _ => 0) 2), .int .i64 ((fun _ => 0) 3), .int .i64 ((fun _ => 0) 4)] 130) (.cells #[.int .i64 (-1)] 3)
  have hI0 : BoI w.heap.size w (.slice a M c) f lo hi [] ((((w.alloc (.cells #[.slice a M c] 117)).alloc (.cells #[.int .i64 ((fun _ => 0) 0), .int .i64 ((fun _ => 0) 1), .int .i64 ((fun _ => 0) 2), .int .i64 ((fun _ => 0) 3), .int .i64 ((fun _ => 0) 4)] 130)).alloc (.cells #[.int .i64 ((fun _ => 0) 0), .int .i64 ((fun _ => 0) 1), .int .i64 ((fun _ => 0) 2), .int .i64 ((fun _ => 0) 3), .int .i64 ((fun _ => 0) 4)] 130)).alloc (.cells #[.int .i64 (-1)] 3)) :=
    ⟨g0, g1, g2, g3, ⟨rfl, rfl, rfl, g4.size, fun k hk _ => g4.block k hk⟩, by omega⟩
  replace g4 := g4.mono hn₀
  clear g0 g1 g2 g3
  have HI0 := Lib.hid hI0; have HG4 := Lib.hid g4; have HG5 := Lib.hid g5
  clear hI0 g4 g5
  refine (callsIn_wide (n := 3)).1 ?_
  refine callsIn_of_wp_marks Tryz.func101 rfl trivial ?_ rfl
  simp only [Tryz.ntmps101, List.size_toArray, List.length_cons, List.length_nil, Nat.reduceAdd, Nat.reduceSub, Array.replicate_succ, Array.replicate_zero, List.push_toArray, List.append_toArray, List.nil_append, List.cons_append]
  refine wpIn_wide.2 ?_
  go_wp2
  go_step3
  go_wp2
  go_step3
  go_wp2
  have hI0 := HI0.out; have g4 := HG4.out; have g5 := HG5.out
  obtain ⟨W, hW⟩ : ∃ W, ((((w.alloc (.cells #[.slice a M c] 117)).alloc (.cells #[.int .i64 ((fun _ => 0) 0), .int .i64 ((fun _ => 0) 1), .int .i64 ((fun _ => 0) 2), .int .i64 ((fun _ => 0) 3), .int .i64 ((fun _ => 0) 4)] 130)).alloc (.cells #[.int .i64 ((fun _ => 0) 0), .int .i64 ((fun _ => 0) 1), .int .i64 ((fun _ => 0) 2), .int .i64 ((fun _ => 0) 3), .int .i64 ((fun _ => 0) 4)] 130)).alloc (.cells #[.int .i64 (-1)] 3)) = W := ⟨_, rfl⟩
  rw [hW] at hI0 g4 g5 ⊢
  clear hW HI0 HG4 HG5
  have hbW : Below n₀ w0 W := hb0.trans g4
  refine (wpIn_wide (n := 3)).1 ?_
  refine wpIn_rangeO (gf := gf) (lb := lb) rfl eg hseq (by omega) (by omega) hbW (fun _ => rfl)
    (BoI w.heap.size w (.slice a M c) f lo hi) (fun _ _ _ => False) ?hI (fun _ _ _ _ h _ => h) hI0
    (fun x a' A => ∃ Bx, W.heap.size + 2 + K ≤ Bx ∧ A.heap[Bx]? = some (.cells #[.int .i64 (at5 x 0), .int .i64 (at5 x 1), .int .i64 (at5 x 2), .int .i64 (at5 x 3), .int .i64 (at5 x 4)] 130 (0, 0)) ∧ a' = { tmps := #[.func (.func gf) #[] lb, .slice a M c, undef, .pointer (some ⟨w.heap.size, 0, none⟩), .pointer (some ⟨w.heap.size + 1, 0, none⟩), .pointer (some ⟨w.heap.size + 1 + 1, 0, none⟩), .pointer (some ⟨w.heap.size + 1 + 1 + 1, 0, none⟩), .pointer (some ⟨Bx, 0, none⟩), undef, undef, undef, .func (.func gf) #[] lb, .agg #[.int .i64 (at5 x 0), .int .i64 (at5 x 1), .int .i64 (at5 x 2), .int .i64 (at5 x 3), .int .i64 (at5 x 4)], undef, undef, undef, undef, undef, undef, undef, undef, undef, undef, undef, undef, undef, undef, undef, undef, undef, undef, undef, undef, undef, undef, undef, undef, undef, undef, undef], defers := [] }) ?hAx ?assign ?body ?done ?stop
  case hI =>
    intro pre A A' h hu
    exact h.turn rfl hu.os hu.tape hu.output hu.size (fun k hk hk2 => hu.block k (by have := h.sz; omega) hk2 (.inl (by omega))) (by omega)
  case hAx =>
    rintro x a' A A' ⟨Bx, hBx, hc, rfl⟩ hu
    exact ⟨Bx, hBx, (hu.block _ (Array.getElem?_eq_some_iff.1 hc).1 (.inr (Nat.zero_le _)) (.inr hBx)).trans hc, rfl⟩
  case assign =>
    intro l pre x A Kk h hsz2 hK
    have hA := (Below.refl A.heap.size A).alloc (Nat.le_refl _) (.cells #[.int .i64 (at5 x 0), .int .i64 (at5 x 1), .int .i64 (at5 x 2), .int .i64 (at5 x 3), .int .i64 (at5 x 4)] 130)
    gi_wp2
    refine hK _ _ (Ke.ofBelow hA hsz2) (hA.mono (by omega)) (h.turn rfl rfl rfl rfl (by simp) (fun k hk _ => hA.block k (by have := h.sz; omega)) (by omega)) ⟨A.heap.size, hsz2, heap_alloc_new _ _, rfl⟩
  case body =>
    rintro l pre x a' A h ⟨Bx, hBx, hc, rfl⟩ hpre hsz2
    obtain ⟨mo, hmo⟩ : ∃ mo, moO f pre = mo := ⟨_, rfl⟩
    have hmb := HMH.out pre
    rw [hmo] at hmb
    have HMO := Lib.hid hmo
    have h0 := cell_of_row _ _ 0 _ _ _ h.h0
    have h3 := cell_of_row _ _ 0 _ _ _ h.h3
    rw [hmo] at h3
    simp at h0 h3
    have hBxs := (Array.getElem?_eq_some_iff.1 hc).1
    have hcells : ∀ (k : Nat) (l : List Int), ps[k]? = some l → ∃ g, g < A.heap.size ∧ (∀ wx : World, (Instr.indexAt 117 (.slice a M c) (.int .i64 (k : Int))).run Tryz.prog wx = .ok (.pointer (some ⟨g, k * 5, none⟩)) wx) ∧ ∀ j : Nat, j < 5 → A.cell? ⟨g, k * 5 + j, none⟩ = some (.int .i64 (at5 l j)) := fun k l hx => by
      obtain ⟨g, hg1, hg2, hidx, hcs⟩ := HAT.out k l hx
      rw [HNN.out] at hidx
      have hup := h.up.size
      refine ⟨g, by omega, hidx, fun j hj => ?_⟩
      exact (World.cell?_of_block (w := wp) ((h.up.block g (by omega) (hcap g hg1 hg2)).trans (hbp.block g hg2))).trans (hcs j hj)
    have HC := Lib.hid hcells
    have HH := Lib.hid h
    have HX := Lib.hid hc
    have hBA : w.heap.size + 4 ≤ A.heap.size := h.sz
    clear hcells h hc hmo
    gi_wp2
    gi_loopw [8, 15] (fun met i wr => ∃ k q : Nat, k ≤ M ∧ i = .int .i64 k ∧ met = .int .i64 q ∧ q ≤ k ∧ Hid (q = met5 (ps.take k) (at5 x)) ∧ Below A.heap.size A wr) (fun _ i _ => M - (intOf i).toNat)
    case atStart => exact ⟨0, 0, Nat.zero_le _, rfl, rfl, Nat.le_refl _, by simp [Hid, met5], Below.refl _ _⟩
    case round =>
      obtain ⟨k, q, hk, rfl, rfl, hqk, hq, hbA⟩ := hrel
      have hzA := hbA.size
      by_cases hlt : k < M
      · obtain ⟨r, hx⟩ := at_of_lt (show k < ps.length by have := HNN.out; omega)
        obtain ⟨g, hg, hidx, hcs⟩ := HC.out k r hx
        have HR := Lib.hid hx
        have hc (j : Nat) (hj : j < 5) : wr.cell? ⟨g, k * 5 + j, none⟩ = some (.int .i64 (at5 r j)) := (hbA.cell (p := ⟨g, k * 5 + j, none⟩) hg).trans (hcs j hj)
        have hc0 := hc 0 (by omega)
        have hc1 := hc 1 (by omega)
        have hc2 := hc 2 (by omega)
        have hc3 := hc 3 (by omega)
        have hc4 := hc 4 (by omega)
        simp only [Nat.add_zero] at hc0
        have hbR := (Below.refl wr.heap.size wr).alloc (Nat.le_refl _) (.cells #[.int .i64 (at5 r 0), .int .i64 (at5 r 1), .int .i64 (at5 r 2), .int .i64 (at5 r 3), .int .i64 (at5 r 4)] 130)
        have hbAR : Below A.heap.size A (wr.alloc (.cells #[.int .i64 (at5 r 0), .int .i64 (at5 r 1), .int .i64 (at5 r 2), .int .i64 (at5 r 3), .int .i64 (at5 r 4)] 130)) := hbA.trans (hbR.mono hzA)
        have h0R := (hbAR.cell (p := ⟨w.heap.size, 0, none⟩) (by simp; omega)).trans h0
        have h3R := (hbAR.cell (p := ⟨w.heap.size + 1 + 1 + 1, 0, none⟩) (by simp; omega)).trans h3
        obtain ⟨t0, t1, t2, t3, t4⟩ := cells5' ((hbAR.block Bx (by omega)).trans HX.out)
        obtain ⟨p0, p1, p2, p3, p4⟩ := cells5' (heap_alloc_new wr (.cells #[.int .i64 (at5 r 0), .int .i64 (at5 r 1), .int .i64 (at5 r 2), .int .i64 (at5 r 3), .int .i64 (at5 r 4)] 130))
        have hst := met5_step (T := at5 x) hx
        have hms := met5_most ps (at5 x) k
        rw [HNN.out] at hms
        have HST := Lib.hid hst; have HMS := Lib.hid hms; have HBR := Lib.hid hbAR
        clear hc hcs hx hst hms hbR hbAR
        by_cases hle : (q : Int) + (M : Int) - (k : Int) ≤ mo
        · have hdec : decide ((q : Int) + (M : Int) - (k : Int) ≤ mo) = true := decide_eq_true hle
          have HLE : Hid ((f x : Int) ≤ moO f pre) := by
            show _ ≤ _
            rw [HMO.out, HF.out]
            have := HMS.out; have := hq.out
            show ((met5 ps (at5 x) : Nat) : Int) ≤ mo
            omega
          clear hle
          gi_wp2
          have e := bsO_no HLE.out
          have hB := HBR.out
          have hn := HH.out.turn rfl hB.os hB.tape hB.output hB.size (fun k hk _ => hB.block k (by omega)) (by omega)
          refine ⟨(Ke.ofBelow hB hsz2), hB.mono (by omega), ⟨hn.h0, hn.h1, ?_, ?_, hn.up, hn.sz⟩⟩
          · rw [e.1]; exact hn.h2
          · rw [e.2]; exact hn.h3
        · have hdec : decide ((q : Int) + (M : Int) - (k : Int) ≤ mo) = false := decide_eq_false hle
          clear hle
          gi_wp2_with fail
          refine ⟨trivial, (CallsIn.inRound l (callsIn_wide.2 (i_meets (at5 r) (at5 x) _))).mono ?_⟩
          rintro e w2 ⟨rfl, hb2⟩
          have hb3 := HBR.out.trans (hb2.mono (by have := HBR.out.size; exact this))
          cases hm : meet5 (at5 r) (at5 x)
          · have HM := Lib.hid hm; clear hm
            have HQ : Hid (q = met5 (ps.take (k + 1)) (at5 x)) := by show _ = _; rw [HST.out, HM.out, ← hq.out]; rfl
            gi_wp2
            go_roundw
            case rel => exact ⟨k + 1, q, by omega, by go_num, rfl, by omega, HQ, hb3⟩
            case measure => simp [intOf]; omega
          · have HM := Lib.hid hm; clear hm
            have HQ : Hid (q + 1 = met5 (ps.take (k + 1)) (at5 x)) := by show _ = _; rw [HST.out, HM.out, ← hq.out]; rfl
            gi_wp2
            go_roundw
            case rel => exact ⟨k + 1, q + 1, by omega, by go_num, by go_num, by omega, HQ, hb3⟩
            case measure => simp [intOf]; omega
      · have HQF : Hid (f x = q) := by
          show _ = _
          rw [HF.out, hq.out, List.take_of_length_le (by have := HNN.out; omega)]
        have hb := hbA
        have h3R := (hbA.cell (p := ⟨w.heap.size + 1 + 1 + 1, 0, none⟩) (by simp; omega)).trans h3
        obtain ⟨t0, t1, t2, t3, t4⟩ := cells5' ((hbA.block Bx (by omega)).trans HX.out)
        have hI := HH.out.turn rfl hbA.os hbA.tape hbA.output hbA.size (fun k hk _ => hbA.block k (by omega)) (by omega)
        have HI := Lib.hid hI
        have HB := Lib.hid hbA
        by_cases hgt : mo < (q : Int)
        · have hdec : decide (mo < (q : Int)) = true := decide_eq_true hgt
          have e := bsO_yes (f := f) (pre := pre) (x := x) (by rw [HMO.out, HQF.out]; exact hgt)
          have E := Lib.hid e
          have b0 := frozen5 hI.h2 0
          have b1 := frozen5 hI.h2 1
          have b2 := frozen5 hI.h2 2
          have b3 := frozen5 hI.h2 3
          have b4 := frozen5 hI.h2 4
          have m0 := frozen5 hI.h3 0
          have hc2 := cells5' hI.h2
          have hc3 := cell_of_row _ _ 0 _ _ _ hI.h3
          obtain ⟨d0, d1, d2, d3, d4⟩ := hc2
          clear e hgt hI hbA hb
          gi_wp2
          obtain ⟨W5, hW5, hw5, hk5, hs5, ho5⟩ := set5w (w := wr) (by rfl) HI.out.h2 (.int .i64 (at5 x 0)) (.int .i64 (at5 x 1)) (.int .i64 (at5 x 2)) (.int .i64 (at5 x 3)) (.int .i64 (at5 x 4))
          rw [← hW5]
          have hI := HI.out
          have hB := HB.out
          have hst : ∀ k, k ≠ w.heap.size + 1 + 1 → k ≠ w.heap.size + 1 + 1 + 1 → (W5.setCell ⟨w.heap.size + 1 + 1 + 1, 0, none⟩ (.int .i64 (q : Int))).heap[k]? = wr.heap[k]? := fun k h1 h2 =>
            (Below.heap_setCell _ _ _ _ h2).trans (hk5 k h1)
          have h2' : (W5.setCell ⟨w.heap.size + 1 + 1 + 1, 0, none⟩ (.int .i64 (q : Int))).heap[w.heap.size + 1 + 1]? = some (.cells #[.int .i64 (at5 x 0), .int .i64 (at5 x 1), .int .i64 (at5 x 2), .int .i64 (at5 x 3), .int .i64 (at5 x 4)] 130 (0, 0)) :=
            (Below.heap_setCell _ _ _ _ (by simp)).trans hw5
          have h3' := set1w (w := W5) ((hk5 (w.heap.size + 1 + 1 + 1) (by omega)).trans hI.h3) (.int .i64 (q : Int))
          have hsz : (W5.setCell ⟨w.heap.size + 1 + 1 + 1, 0, none⟩ (.int .i64 (q : Int))).heap.size = wr.heap.size := by simp only [World.setCell, Array.size_modify]; exact hs5
          refine ⟨(Ke.ofBelow hB hsz2).trans fun k k1 k2 => hst k (by omega) (by omega), (hB.mono (by omega)).trans ⟨ho5.1, ho5.2.1, ho5.2.2, by omega, fun k hk => hst k (by omega) (by omega)⟩, ⟨(hst _ (by omega) (by omega)).trans hI.h0, (hst _ (by omega) (by omega)).trans hI.h1, ?_, ?_, ⟨ho5.1.trans hI.up.os, ho5.2.1.trans hI.up.tape, ho5.2.2.trans hI.up.output, by have := hI.up.size; omega, fun k hk hk2 => (hst k (by omega) (by omega)).trans (hI.up.block k hk hk2)⟩, by have := hI.sz; omega⟩⟩
          · rw [E.out.1]; exact h2'
          · rw [E.out.2, HQF.out]; exact h3'
        · have hdec : decide (mo < (q : Int)) = false := decide_eq_false hgt
          have e := bsO_no (f := f) (pre := pre) (x := x) (by rw [HMO.out, HQF.out]; omega)
          have E := Lib.hid e
          clear e hgt hI hbA
          gi_wp2
          have hn := HI.out
          refine ⟨(Ke.ofBelow HB.out hsz2), HB.out.mono (by omega), ⟨hn.h0, hn.h1, ?_, ?_, hn.up, hn.sz⟩⟩
          · rw [E.out.1]; exact hn.h2
          · rw [E.out.2]; exact hn.h3
  case done =>
    rintro D A hD1 hD2 h hk
    have q0 := cells5' h.h2
    obtain ⟨d0, d1, d2, d3, d4⟩ := q0
    have b0 := frozen5 h.h1 0
    have b1 := frozen5 h.h1 1
    have b2 := frozen5 h.h1 2
    have b3 := frozen5 h.h1 3
    have b4 := frozen5 h.h1 4
    obtain ⟨r0, r1, r2, r3, r4⟩ := cells5' (P := fun _ => 0) h.h1
    have HH := Lib.hid h
    clear h
    go_wp2
    have h := HH.out
    obtain ⟨W5, hW5, hw5, hk5, hs5, ho5⟩ := set5w (w := A) (by rfl) h.h1 (.int .i64 (at5 (bstL f xs) 0)) (.int .i64 (at5 (bstL f xs) 1)) (.int .i64 (at5 (bstL f xs) 2)) (.int .i64 (at5 (bstL f xs) 3)) (.int .i64 (at5 (bstL f xs) 4))
    rw [← hW5, Exit.noGoto_ret]
    have hk5' : W5.heap[D]? = some (.deferred (some [])) := (hk5 D (by omega)).trans hk
    refine ⟨by simp, .inl ⟨_, _, rfl, run_takeDeferred hk5', ?_⟩⟩
    have hw6 : (W5.putObj D (.deferred none)).heap[w.heap.size + 1]? = some (.cells #[.int .i64 (at5 (bstL f xs) 0), .int .i64 (at5 (bstL f xs) 1), .int .i64 (at5 (bstL f xs) 2), .int .i64 (at5 (bstL f xs) 3), .int .i64 (at5 (bstL f xs) 4)] 130 (0, 0)) := (World.putObj_heap_other (by omega)).trans hw5
    refine ⟨_, results_cell_row Tryz.results101 _ _ _ _ _ (0, 0) (.array 5 3) rfl hw6 undPat rfl infoPatB, rfl, ⟨ho5.1.trans h.up.os, ho5.2.1.trans h.up.tape, ho5.2.2.trans h.up.output, ?_, fun k hk hk2 => ?_⟩⟩
    · have := h.up.size; simp; omega
    · exact (World.putObj_heap_other (by omega)).trans ((hk5 k (by omega)).trans (h.up.block k hk hk2))
  case stop =>
    rintro D c pre A _ _ _ h _
    exact h.elim

end Go.Proofs.YtpioldgpfpmjiaaGreatDoor
