/- An iterator whose own captured block lies above what the caller's rounds write: SeqQ keeps what lies below n₀ and one block more. -/
import Derived.Test.YtehoagbpgahopaaZg
namespace Go.Proofs.Ytehoagbpgahopaa
open Go Go.RowKit

/-- what lay below n, and block q, lies as it lay -/
structure Bex (n q : Nat) (w w' : World) : Prop where
  os : w'.os = w.os
  tape : w'.tape = w.tape
  output : w'.output = w.output
  size : w.heap.size ≤ w'.heap.size
  block : ∀ k, k < w.heap.size → (k < n ∨ k = q) → w'.heap[k]? = w.heap[k]?
theorem Bex.refl (n q : Nat) (w : World) : Bex n q w w := ⟨rfl, rfl, rfl, Nat.le_refl _, fun _ _ _ => rfl⟩
theorem Bex.trans {n q : Nat} {a b c : World} (h : Bex n q a b) (k : Bex n q b c) : Bex n q a c :=
  ⟨k.os.trans h.os, k.tape.trans h.tape, k.output.trans h.output, Nat.le_trans h.size k.size, fun i hi ho => (k.block i (Nat.lt_of_lt_of_le hi h.size) ho).trans (h.block i hi ho)⟩
theorem Bex.ofBelow {n q : Nat} {w w' : World} (h : Below w.heap.size w w') : Bex n q w w' := ⟨h.os, h.tape, h.output, h.size, fun k hk _ => h.block k hk⟩
theorem Bex.alloc {n q : Nat} {w w' : World} (h : Bex n q w w') (o : Obj) : Bex n q w (w'.alloc o) := h.trans (Bex.ofBelow ((Below.refl w'.heap.size w').alloc (Nat.le_refl _) o))
theorem Bex.ofDr {n q : Nat} {w w' : World} (h : Dr w w') : Bex n q w w' := Bex.ofBelow (Dr.below h _)
theorem Bex.setCell {n q : Nat} {w w' : World} (h : Bex n q w w') {p : Addr} (hp : n ≤ p.block ∧ p.block ≠ q) (v : Value) : Bex n q w (w'.setCell p v) :=
  h.trans ⟨rfl, rfl, rfl, by simp [World.setCell], fun k _ hk => Below.heap_setCell _ _ _ _ (by omega)⟩
theorem RI.bex {w w' : World} {n q lo hi : Nat} {a : Option Addr} {m : List Int} (h : RI w lo hi a m) (hb : Bex n q w w') (h1 : hi ≤ n) (h2 : n ≤ w.heap.size) : RI w' lo hi a m :=
  h.same fun k _ k2 => hb.block k (by omega) (.inl (by omega))

/-- The iterator gives xs, one after the other. It may write blocks lo ≤ k < hi that lay (what it has captured), and lays K of its own. What a round that goes on keeps: whatever lay below n₀, and these blocks. -/
def SeqQ {α : Type} (P : Program) (gf : Nat) (lb : Array Value) (encs : α → Array Value) (xs : List α) (n₀ bq lo hi K : Nat) (w : World) : Prop :=
  ∀ (n l : Nat) (J Jx : List α → World → Prop) (W : World), Bex n₀ bq w W →
    (∀ pre A A', J pre A → Up2 lo hi W.heap.size (W.heap.size + K) A A' → J pre A') →
    (∀ pre x W1, J pre W1 → pre ++ [x] <+: xs → W.heap.size + K ≤ W1.heap.size → YieldAt Fence.wide n P l (encs x) W1 fun e W' =>
      (e = .returned (.bool true) ∧ J (pre ++ [x]) W' ∧ Ke W.heap.size (W.heap.size + K) W1 W' ∧ Bex n₀ bq W1 W') ∨ (e = .returned (.bool false) ∧ Jx (pre ++ [x]) W')) →
    J [] W →
    CallsIn Fence.wide (n + 1) P gf (#[.func (.yield l) #[] #[]] ++ lb) W fun e W' => (∃ v, e = .returned v) ∧ (J xs W' ∨ ∃ pre, pre <+: xs ∧ Jx pre W')
theorem SeqQ.later {α : Type} {P : Program} {gf : Nat} {lb : Array Value} {encs : α → Array Value} {xs : List α} {n₀ bq lo hi K : Nat} {w w' : World} (h : SeqQ P gf lb encs xs n₀ bq lo hi K w) (hb : Bex n₀ bq w w') : SeqQ P gf lb encs xs n₀ bq lo hi K w' :=
  fun n l J Jx W hW => h n l J Jx W (hb.trans hW)

/-- how the body of a round may be left -/
def ownPostQ {α : Type} (lo hi n₀ bq : Nat) (I : List α → World → Prop) (Ix : Code → List α → World → Prop) (xs : List α) (W : World) : Exit → Act → World → Prop
  | .normal, _, W' => Ke lo hi W W' ∧ Bex n₀ bq W W' ∧ I xs W'
  | .ret, _, W' => Ke lo hi W W' ∧ Ix .ret xs W'
  | .exit id, _, W' => Ke lo hi W W' ∧ Ix (.exit id) xs W'
  | .goto t, _, W' => Ke lo hi W W' ∧ Ix (.goto t) xs W'
  | .panic _, _, _ => False
  | .outgrown, _, _ => False

theorem wpIn_rangeQ {α : Type} {n : Nat} {P : Program} {g : Operand} {ps : Array Tmp} {assign body : Code} {Q : Exit → Act → World → Prop} {a : Act} {w : World}
    {gf : Nat} {lb : Array Value} (hg : a.eval g = .func (.func gf) #[] lb) (eg : ∀ args w, (callFunc gf args).run P w = .ok (.enter gf args) w)
    {encs : α → Array Value} {xs : List α} {n₀ bq lo hi' K : Nat} {w0 : World} (hseq : SeqQ P gf lb encs xs n₀ bq lo hi' K w0) (hn₀ : n₀ ≤ w.heap.size) (hhi : hi' ≤ w.heap.size) (hbq : bq < w.heap.size) (hb0 : Bex n₀ bq w0 w) (hps : ∀ x, (encs x).size = ps.size)
    (I : List α → World → Prop) (Ix : Code → List α → World → Prop) (hI : ∀ pre A A', I pre A → Up2 lo hi' w.heap.size (w.heap.size + 2 + K) A A' → I pre A') (hIx : ∀ c pre A A', Ix c pre A → Up2 lo hi' w.heap.size (w.heap.size + 2 + K) A A' → Ix c pre A') (h0 : I [] w)
    (Ax : α → Act → World → Prop) (hAx : ∀ x a' A A', Ax x a' A → Up2 0 0 w.heap.size (w.heap.size + 2 + K) A A' → Ax x a' A')
    (hassign : ∀ (l : Nat) (pre : List α) (x : α) (W : World) (Kk : Act → World → Prop), I pre W → w.heap.size + 2 + K ≤ W.heap.size →
      (∀ a' W', Ke w.heap.size (w.heap.size + 2 + K) W W' → Bex n₀ bq W W' → I pre W' → Ax x a' W' → Kk a' W') →
      assign.wpIn (Fence.wide.inRound l) (n - 1 - 1) P (Exit.then Kk (fun _ _ _ => False)) { tmps := (ps.zip (encs x)).foldl (fun t (p, v) => t.setIfInBounds p v) a.tmps, defers := [] } W)
    (hbody : ∀ (l : Nat) (pre : List α) (x : α) (a' : Act) (W : World), I pre W → Ax x a' W → pre ++ [x] <+: xs → w.heap.size + 2 + K ≤ W.heap.size → body.wpIn (Fence.wide.inRound l) (n - 1 - 1) P (ownPostQ w.heap.size (w.heap.size + 2 + K) n₀ bq I Ix (pre ++ [x]) W) a' W)
    (hdone : ∀ (D : Nat) (W : World), w.heap.size ≤ D → D < w.heap.size + 2 → I xs W → W.heap[D]? = some (.deferred (some [])) → Q .normal { a with defers := { target := .collected D, args := #[] } :: a.defers } W)
    (hstop : ∀ (D : Nat) (c : Code) (pre : List α) (W : World), w.heap.size ≤ D → D < w.heap.size + 2 → pre <+: xs → Ix c pre W → W.heap[D]? = some (.deferred (some [])) → c.wpIn Fence.wide n P Q { a with defers := { target := .collected D, args := #[] } :: a.defers } W) :
    (Code.rangeFunc g ps assign body).wpIn Fence.wide n P Q a w := by
  refine wpIn_rangeFunc ?_
  intro fn hfn
  obtain ⟨rec, hrec⟩ : ∃ rec : LoopState → Option Code → Loop, rec = fun st pe => { state := st, pending := pe, fn, tmps := a.tmps, params := ps, assign, body, defers := w.heap.size } := ⟨_, rfl⟩
  obtain ⟨W1, hW1⟩ : ∃ W1, (w.alloc (.deferred (some []))).alloc (.loop (rec .ready none)) = W1 := ⟨_, rfl⟩
  have hL1 : W1.heap[w.heap.size + 1]? = some (.loop (rec .ready none)) := by
    rw [← hW1]; have := World.alloc_heap_new (w.alloc (.deferred (some []))) (.loop (rec .ready none)); rwa [World.size_alloc] at this
  have hK1 : W1.heap[w.heap.size]? = some (.deferred (some [])) := by
    rw [← hW1]; exact (Below.heap_alloc _ _ _ (by simp)).trans (World.alloc_heap_new w _)
  have hS1 : W1.heap.size = w.heap.size + 2 := by rw [← hW1]; simp
  have hI1 : I [] W1 := by rw [← hW1]; exact hI _ _ _ h0 (((Up2.refl _ _ _ _ w).alloc _).alloc _)
  have hb1 : Bex n₀ bq w0 W1 := by
    rw [← hW1]; exact hb0.trans (((Bex.refl n₀ bq w).alloc _).alloc _)
  refine ⟨w.heap.size + 1, [{ target := .collected w.heap.size, args := #[] }], W1, { target := .fn (.func gf) lb, args := #[.func (.yield (w.heap.size + 1)) #[] #[]] }, W1, gf,
    #[.func (.yield (w.heap.size + 1)) #[] #[]] ++ lb, W1, ?_, ?_, ?_, ?_, (fun h => by cases h), ?_⟩
  · rw [← hW1, hrec]; exact run_enterLoop_outer _ _ _ _ _
  · simp only [resolve, hg]
    simp [go_sem]
  · intro f' _; trivial
  · simp [invoke, go_sem, eg]
  · have keep : ∀ {A A' : World}, Up2 lo hi' W1.heap.size (W1.heap.size + K) A A' → ∀ {k : Nat} {o : Obj}, w.heap.size ≤ k → k < w.heap.size + 2 → A.heap[k]? = some o → A'.heap[k]? = some o := fun hu k o hk' hk ho =>
      (hu.block k (Array.getElem?_eq_some_iff.1 ho).1 (.inr (by omega)) (.inl (by omega))).trans ho
    have hcall := hseq (n - 1 - 1) (w.heap.size + 1)
      (fun pre W => I pre W ∧ W.heap[w.heap.size + 1]? = some (.loop (rec .ready none)) ∧ W.heap[w.heap.size]? = some (.deferred (some [])))
      (fun pre W => ∃ c, Ix c pre W ∧ W.heap[w.heap.size + 1]? = some (.loop (rec .done (some c))) ∧ W.heap[w.heap.size]? = some (.deferred (some [])))
      W1 hb1
      (fun pre A A' hs hu => ⟨hI pre A A' hs.1 (hu.wide (by omega) (by omega)), keep hu (by omega) (by omega) hs.2.1, keep hu (by omega) (by omega) hs.2.2⟩)
      ?_ ⟨hI1, hL1, hK1⟩
    · refine (callsIn_wide.2 (callsIn_wide.1 hcall)).mono ?_
      -- behind the iterator
      have up3 : ∀ (W3 : World) (o : Obj), Up2 lo hi' w.heap.size (w.heap.size + 2 + K) W3 (W3.putObj (w.heap.size + 1) o) := fun W3 o => (Up2.refl _ _ _ _ W3).putObj _ (by omega) (by omega)
      rintro e W2 ⟨⟨v, rfl⟩, (⟨hi, hl, hk⟩ | ⟨pre, hSp, c, hi, hl, hk⟩)⟩
      · exact ⟨none, _, by have := run_endLoop (P := P) hl (by rw [hrec]; simp); rw [hrec] at this; exact this, hdone _ _ (Nat.le_refl _) (by omega) (hI _ _ _ hi (up3 W2 _)) ((World.putObj_heap_other (by omega)).trans hk)⟩
      · exact ⟨some c, _, by have := run_endLoop (P := P) hl (by rw [hrec]; simp); rw [hrec] at this; exact this, hstop _ c pre _ (Nat.le_refl _) (by omega) hSp (hIx _ _ _ _ hi (up3 W2 _)) ((World.putObj_heap_other (by omega)).trans hk)⟩
    · -- one round
      rintro pre x W ⟨hi, hl, hk⟩ hpre hsz
      have hlt : w.heap.size + 1 < W.heap.size := (Array.getElem?_eq_some_iff.1 hl).1
      have hy := run_yield (P := P) (args := encs x) hl (by rw [hrec]; exact hps x)
      rw [hrec] at hy
      refine ⟨fn, _, assign, body, hy, roundIn_of_wpIn hfn (hassign _ pre x W _ hi (by omega) ?_)⟩
      clear hy
      intro a' Wa hkfa hkpa hia hax
      replace hl := (hkfa _ (by omega) (by omega)).trans hl
      replace hk := (hkfa _ (Nat.le_refl _) (by omega)).trans hk
      replace hlt : w.heap.size + 1 < Wa.heap.size := (Array.getElem?_eq_some_iff.1 hl).1
      have hsa := hkpa.size
      refine ⟨_, run_beginRound hl (by rw [hrec]), ?_⟩
      have hl2 : (Wa.putObj (w.heap.size + 1) (.loop { rec .ready none with state := .busy })).heap[w.heap.size + 1]? = some (.loop { rec .ready none with state := .busy }) := World.putObj_heap_same hlt
      have hk2 : (Wa.putObj (w.heap.size + 1) (.loop { rec .ready none with state := .busy })).heap[w.heap.size]? = some (.deferred (some [])) := (World.putObj_heap_other (by omega)).trans hk
      have hu2 : Up2 lo hi' w.heap.size (w.heap.size + 2 + K) Wa (Wa.putObj (w.heap.size + 1) (.loop { rec .ready none with state := .busy })) := (Up2.refl _ _ _ _ Wa).putObj _ (by omega) (by omega)
      have hu20 : Up2 0 0 w.heap.size (w.heap.size + 2 + K) Wa (Wa.putObj (w.heap.size + 1) (.loop { rec .ready none with state := .busy })) := (Up2.refl _ _ _ _ Wa).putObj _ (by omega) (by omega)
      refine wpIn_mono (hbody _ pre x a' _ (hI _ _ _ hia hu2) (hAx _ _ _ _ hax hu20) hpre (by simp; omega)) ?_
      have fin : ∀ (jump : Option Code) (W3 : World), Ke w.heap.size (w.heap.size + 2 + K) (Wa.putObj (w.heap.size + 1) (.loop { rec .ready none with state := .busy })) W3 →
          (Instr.endRound (w.heap.size + 1) jump).run P W3 = .ok (.bool jump.isNone) (W3.putObj (w.heap.size + 1) (.loop (rec (if jump.isNone then .ready else .done) jump))) ∧
          W3.heap[w.heap.size + 1]? = some (.loop { rec .ready none with state := .busy }) ∧
          (W3.putObj (w.heap.size + 1) (.loop (rec (if jump.isNone then .ready else .done) jump))).heap[w.heap.size + 1]? = some (.loop (rec (if jump.isNone then .ready else .done) jump)) ∧
          (W3.putObj (w.heap.size + 1) (.loop (rec (if jump.isNone then .ready else .done) jump))).heap[w.heap.size]? = some (.deferred (some [])) := fun jump W3 hk3 => by
        have hl3 := (hk3 (w.heap.size + 1) (by omega) (by omega)).trans hl2
        have := run_endRound (P := P) jump hl3
        rw [hrec] at this ⊢
        exact ⟨this, by rw [hrec] at hl3; exact hl3, World.putObj_heap_same (Array.getElem?_eq_some_iff.1 hl3).1, (World.putObj_heap_other (by omega)).trans ((hk3 w.heap.size (by omega) (by omega)).trans hk2)⟩
      have up3 : ∀ (W3 : World) (o : Obj), Up2 lo hi' w.heap.size (w.heap.size + 2 + K) W3 (W3.putObj (w.heap.size + 1) o) := fun W3 o => (Up2.refl _ _ _ _ W3).putObj _ (by omega) (by omega)
      have belP : ∀ (W3 : World) (o : Obj), Bex n₀ bq W3 (W3.putObj (w.heap.size + 1) o) := fun W3 o => ⟨rfl, rfl, rfl, by simp, fun k _ hk => World.putObj_heap_other (show k ≠ w.heap.size + 1 by omega)⟩
      rintro e a3 W3 hp
      cases e with
      | normal =>
        obtain ⟨hk3, hkp3, hi3⟩ := hp
        obtain ⟨hr, hl3, hl4, hk4⟩ := fin none W3 hk3
        refine ⟨_, _, hr, .inl ⟨rfl, ⟨hI _ _ _ hi3 (up3 W3 _), hl4, hk4⟩, ?_, ?_⟩⟩
        · intro k k1 k2
          exact (World.putObj_heap_other (by omega)).trans ((hk3 k (by omega) (by omega)).trans ((World.putObj_heap_other (by omega)).trans (hkfa k (by omega) (by omega))))
        · exact ((hkpa.trans (belP Wa _)).trans hkp3).trans (belP W3 _)
      | ret =>
        obtain ⟨hk3, hi3⟩ := hp
        obtain ⟨hr, hl3, hl4, hk4⟩ := fin (some .ret) W3 hk3
        exact ⟨_, _, hr, .inr ⟨rfl, .ret, hIx _ _ _ _ hi3 (up3 W3 _), hl4, hk4⟩⟩
      | exit id =>
        obtain ⟨hk3, hi3⟩ := hp
        obtain ⟨hr, hl3, hl4, hk4⟩ := fin (some (.exit id)) W3 hk3
        exact ⟨_, _, hr, .inr ⟨rfl, .exit id, hIx _ _ _ _ hi3 (up3 W3 _), hl4, hk4⟩⟩
      | goto t =>
        obtain ⟨hk3, hi3⟩ := hp
        obtain ⟨hr, hl3, hl4, hk4⟩ := fin (some (.goto t)) W3 hk3
        exact ⟨_, _, hr, .inr ⟨rfl, .goto t, hIx _ _ _ _ hi3 (up3 W3 _), hl4, hk4⟩⟩
      | panic ch => exact hp.elim
      | outgrown => exact hp.elim

open Go.Shelf

attribute [local go_sem] Oper.semAt_some

/-- the cells of the test between two rounds, and while the next one is sought -/
def TsQ (m : List Int) (xs : List (List Int)) (J : List (List Int) → World → Prop) (B n₀ bq : Nat) (w : World) (q : Nat) (wr : World) : Prop :=
  ∃ (k : Nat) (x : List Int), q = xs.length - k ∧ Hid (xs[k]? = some x) ∧ J (xs.take k) wr ∧ wr.heap[B]? = some (.cells #[.int .i64 (at5 x 0), .int .i64 (at5 x 1), .int .i64 (at5 x 2), .int .i64 (at5 x 3), .int .i64 (at5 x 4)] 97 (0, 0)) ∧ Bex n₀ bq w wr

set_option maxRecDepth 100000 in
set_option maxHeartbeats 2000000 in
theorem testsOf1_seqQ {m : List Int} {a : Option Addr} {c lo hi bq n₀ : Nat} {w : World} (hok : okM m = true) (hm : RI w lo hi a m) (hB : hi ≤ n₀) (hb : w.heap[bq]? = some (.cells #[.slice a m.length c] 23 (0, 0))) (hbn : bq < w.heap.size) (hn : n₀ ≤ w.heap.size) :
    SeqQ Try.prog 238 #[.pointer (some ⟨bq, 0, none⟩)] (fun x : List Int => #[.agg #[.int .i64 (at5 x 0), .int .i64 (at5 x 1), .int .i64 (at5 x 2), .int .i64 (at5 x 3), .int .i64 (at5 x 4)]]) (extS m []) n₀ bq 0 0 1 w := by
  intro n l J Jx W hW hJ hY h0
  have hxr : ∀ x ∈ extS m [], okT m x = true := fun x hx => (ext_mem hok).1 hx
  obtain ⟨xs, hxs⟩ : ∃ xs, extS m [] = xs := ⟨_, rfl⟩
  rw [hxs] at hY hxr ⊢
  obtain ⟨hch, r0, hr0⟩ := ext_ch hok
  rw [hxs] at hch hr0
  have hm5 := okM_len hok
  have HCH := Lib.hid hch
  have HR0 := Lib.hid hr0
  have HOK := Lib.hid hok
  have HXR := Lib.hid hxr
  clear hch hr0 hxs hok hxr
  have hws := hW.size
  have hwl : IntKind.i64.wrap ((m.length : Int) - 1) = (m.length : Int) - 1 := IntWalk.i64_in _ (by omega)
  refine callsIn_of_wp Try.func238 rfl trivial ?_ rfl
  simp only [Try.ntmps238, List.size_toArray, List.length_cons, List.length_nil, Nat.reduceAdd, Nat.reduceSub, Array.replicate_succ, Array.replicate_zero, List.push_toArray, List.append_toArray, List.nil_append, List.cons_append]
  gi_wp2
  gi_loopw [] (fun wr => ∃ q, TsQ m xs J W.heap.size n₀ bq w q wr) (fun wr => lst (fun q => TsQ m xs J W.heap.size n₀ bq w q wr))
  case atStart =>
    refine ⟨_, 0, List.replicate m.length 0, rfl, ?_, ?_, ?_, ?_⟩
    · show _ = _; rw [HR0.out]; rfl
    · exact hJ _ _ _ h0 ((Up2.refl _ _ _ _ W).alloc _)
    · simp only [rep5]; exact heap_alloc_new _ _
    · exact hW.trans ((Bex.refl n₀ bq W).alloc _)
  case round =>
    obtain ⟨q0, hq0⟩ := hrel
    have hq := lst_spec (P := fun q => TsQ m xs J W.heap.size n₀ bq w q wr) hq0
    obtain ⟨q, hqq⟩ : ∃ q, lst (fun q => TsQ m xs J W.heap.size n₀ bq w q wr) = q := ⟨_, rfl⟩
    rw [hqq] at hq
    clear hq0
    obtain ⟨k, x, hqk, hx, hj, hcl, hbw⟩ := hq
    have HQ := Lib.hid hqq
    have hkl := lt_of_at hx.out
    have hxT := HXR.out x (List.mem_of_getElem? hx.out)
    have hxl : x.length = m.length := okW_len hxT
    obtain ⟨t0, t1, t2, t3, t4⟩ := cells5' hcl
    have hBs : W.heap.size < wr.heap.size := (Array.getElem?_eq_some_iff.1 hcl).1
    obtain ⟨fn, tmps, assign, body, hy, hR⟩ := hY (xs.take k) x wr hj (by rw [← take_snoc hx.out]; exact List.take_prefix _ _) (by omega)
    rw [← take_snoc hx.out] at hR
    try dsimp only at hy
    have HCL := Lib.hid hcl
    have HXT := Lib.hid hxT
    have HXL := Lib.hid hxl
    have HQK := Lib.hid hqk
    clear hcl hqq hxT hxl hqk
    gi_wp2
    refine hR.mono ?_
    rintro e W3 (⟨rfl, hj3, hk3, hb3⟩ | ⟨rfl, hx3⟩)
    · clear hR hy t0 t1 t2 t3 t4
      have hcl3 := (hk3 W.heap.size (Nat.le_refl _) (by omega)).trans HCL.out
      have hbw3 := hbw.trans hb3
      have hcb : W3.cell? ⟨bq, 0, none⟩ = some (.slice a m.length c) := by
        rw [cell_of_row _ _ 0 _ _ _ ((hbw3.block bq hbn (.inr rfl)).trans hb)]; rfl
      have HC3 := Lib.hid hcl3
      clear hcl3 hk3 hb3 hj
      gi_wp2
      obtain ⟨wo, rfl⟩ : ∃ x : World, x = wr := ⟨_, rfl⟩
      refine wpIn_wide.2 ?_
      go_loopw [4] (fun f wr => ∃ k1 : Nat, k1 ≤ m.length ∧ ((k1 = 0 ∧ f = .int .i64 (-1)) ∨ ∃ q : Nat, k1 = q + 1 ∧ f = .int .i64 (q : Int)) ∧
        wr.heap[W.heap.size]? = some (.cells #[.int .i64 (zerT x k1 0), .int .i64 (zerT x k1 1), .int .i64 (zerT x k1 2), .int .i64 (zerT x k1 3), .int .i64 (zerT x k1 4)] 97 (0, 0)) ∧ J (xs.take (k + 1)) wr ∧ Bex n₀ bq w wr ∧
        Hid (∀ g, k1 ≤ g → g < m.length → at5 x g = at5 m g - 1)) (fun f _ => (intOf f + 1).toNat)
      case atStart =>
        refine ⟨m.length, Nat.le_refl _, .inr ⟨m.length - 1, by omega, by go_num⟩, ?_, hj3, hbw3, fun g h1 h2 => by omega⟩
        simp only [zer_all HXL.out]; exact HC3.out
      case round =>
        clear hj3 hbw3 hcb
        obtain ⟨k1, hk1, hf, e3, hj1, hB1, hA⟩ := hrel
        have hcb : wr.cell? ⟨bq, 0, none⟩ = some (.slice a m.length c) := by
          rw [cell_of_row _ _ 0 _ _ _ ((hB1.block bq hbn (.inr rfl)).trans hb)]; rfl
        have hBr : W.heap.size < wr.heap.size := (Array.getElem?_eq_some_iff.1 e3).1
        rcases hf with ⟨hk0, rfl⟩ | ⟨f, hkq, rfl⟩
        · have E3 := Lib.hid e3
          have hfin : Hid (xs.take (k + 1) = xs) := suc_end HCH.out hx.out HXL.out (fun g _ hg => hA.out g (by omega) hg)
          clear e3
          have hneg : decide ((0 : Int) ≤ -1) = false := by decide
          have hneg2 : decide ((-1 : Int) < 0) = true := by decide
          go_wp2_with fail
          go_quiet (fail)
          go_wp2
          gi_wp2
          refine bodyPost_ret (results_none rfl _ _ _) rfl ?_
          refine ⟨⟨_, rfl⟩, .inl ?_⟩
          rw [hfin.out] at hj1
          exact hJ _ _ _ hj1 ((Up2.refl _ _ _ _ wr).dr (Dr.drewN (Dr.refl wr) _))
        · have hqm : f < m.length := by omega
          have hq5 : f < 5 := by omega
          have hi3 := idxAt5 W.heap.size hq5
          have hcT : wr.cell? ⟨W.heap.size, f, none⟩ = some (.int .i64 (at5 x f)) := by
            rw [cell5 e3 hq5]; unfold zerT; rw [if_neg (by omega)]
          have hfT := frozen5 e3 f
          obtain ⟨bm, om, hma, _, _, y, hy, hym⟩ := (hm.bex hB1 hB hn) f hqm
          have hym : wr.cell? ⟨bm, om + f, none⟩ = some (.int .i64 y) := hym
          have hidm := idxI hma hqm c
          have hyv : at5 m f = y := at5_of hy
          have hyb := okM_at HOK.out hy
          have hxb := okW_at5 HXT.out hqm
          rw [hyv] at hxb
          have hwy := wrap_pred hyb.1 hyb.2
          have hpos : decide ((0 : Int) ≤ (f : Int)) = true := by simp
          have hneg2 : decide ((f : Int) < 0) = false := decide_eq_false (by omega)
          have E3 := Lib.hid e3; have HYV := Lib.hid hyv; have HKQ := Lib.hid hkq
          clear e3 hma hm hy hyv
          by_cases hlt : at5 x f = y - 1
          · have hcc : (at5 x f == y - 1) = true := by rw [hlt]; exact beq_self_eq_true _
            have HLT := Lib.hid hlt
            clear hlt
            go_wp2_with fail
            go_quiet (fail)
            go_wp2
            go_roundw
            case rel =>
              have e3 : ∀ N, (wr.drewN N).heap[W.heap.size]? = some (.cells #[.int .i64 (zerT x (f + 1) 0), .int .i64 (zerT x (f + 1) 1), .int .i64 (zerT x (f + 1) 2), .int .i64 (zerT x (f + 1) 3), .int .i64 (zerT x (f + 1) 4)] 97 (0, 0)) := fun N => by have := E3.out; rw [HKQ.out] at this; exact this
              have hz : ∀ N, ((wr.drewN N).setCell ⟨W.heap.size, f, none⟩ (.int .i64 0)).heap[W.heap.size]? = some (.cells #[.int .i64 (zerT x f 0), .int .i64 (zerT x f 1), .int .i64 (zerT x f 2), .int .i64 (zerT x f 3), .int .i64 (zerT x f 4)] 97 (0, 0)) := fun N => by
                have := setQ (e3 N) hq5 0
                simp only [zer_put] at this
                exact this
              refine ⟨f, by omega, ?_, ?_, ?_, ?_, fun g h1 h2 => ?_⟩
              · cases f with
                | zero => exact .inl ⟨rfl, by go_num⟩
                | succ f => exact .inr ⟨f, rfl, by go_num⟩
              · exact hz _
              · exact hJ _ _ _ hj1 (((Up2.refl _ _ _ _ wr).dr (Dr.drewN (Dr.refl wr) _)).set _ (.inr ⟨Nat.le_refl _, Nat.lt_succ_self _⟩))
              · exact (hB1.trans (Bex.ofDr (Dr.drewN (Dr.refl wr) _))).setCell (by simp; omega) _
              · by_cases h4 : g = f
                · subst h4; rw [HYV.out]; exact HLT.out
                · exact hA.out g (by omega) h2
            case measure => simp [intOf]
          · have hcc : (at5 x f == y - 1) = false := beq_eq_false_iff_ne.2 hlt
            have HLT : Hid (at5 x f + 1 < at5 m f) := by show _ < _; rw [HYV.out]; omega
            clear hlt
            obtain ⟨r, hr1, hr2⟩ := suc_put HCH.out hx.out HXL.out hqm (fun g h1 h2 => hA.out g (by omega) h2) HLT.out
            have HR1 := Lib.hid hr1
            have HR2 := Lib.hid hr2
            have hrl := lt_of_at hr1
            have hwx : IntKind.i64.wrap (at5 x f + 1) = at5 x f + 1 := IntWalk.i64_in _ (by omega)
            clear hr1 hr2
            go_wp2_with fail
            go_quiet (fail)
            go_wp2
            gi_wp2
            have hnew : ∀ N, TsQ m xs J W.heap.size n₀ bq w (xs.length - (k + 1)) ((wr.drewN N).setCell ⟨W.heap.size, f, none⟩ (.int .i64 (at5 x f + 1))) := fun N => by
              have e3 : (wr.drewN N).heap[W.heap.size]? = some (.cells #[.int .i64 (zerT x (f + 1) 0), .int .i64 (zerT x (f + 1) 1), .int .i64 (zerT x (f + 1) 2), .int .i64 (zerT x (f + 1) 3), .int .i64 (zerT x (f + 1) 4)] 97 (0, 0)) := by have := E3.out; rw [HKQ.out] at this; exact this
              refine ⟨k + 1, r, rfl, HR1.out, ?_, ?_, ?_⟩
              · exact hJ _ _ _ hj1 (((Up2.refl _ _ _ _ wr).dr (Dr.drewN (Dr.refl wr) _)).set _ (.inr ⟨Nat.le_refl _, Nat.lt_succ_self _⟩))
              · have := setQ e3 hq5 (at5 x f + 1)
                simp only [HR2.out] at this
                exact this
              · exact (hB1.trans (Bex.ofDr (Dr.drewN (Dr.refl wr) _))).setCell (by simp; omega) _
            go_roundw
            case rel => exact ⟨_, hnew _⟩
            case measure =>
              rw [HQ.out, HQK.out]
              exact Nat.lt_of_le_of_lt (lst_le (hnew _)) (by omega)
    · gi_wp2
      go_end0
      exact ⟨⟨_, rfl⟩, .inr ⟨_, List.take_prefix _ _, hx3⟩⟩

end Go.Proofs.Ytehoagbpgahopaa
