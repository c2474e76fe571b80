/- A map whose keys are patterns: the set of patterns that a call keeps in it. -/
import Derived.Maps.OwnSet
import Derived.DeepKeys4
import Derived.Test.YtpioldgpfpmjiaaGreatDoorOwnP
import Derived.Test.YtpioldgpfpmjiaaGreatDoorMath
namespace Go.Proofs.YtpioldgpfpmjiaaGreatDoor
open Go.RowKit

theorem laidOutK : laidOutB Tryz.prog = true := by kernel_rfl
theorem rowPat : (130 : TypeId) < Tryz.prog.types.size := of_decide_eq_true (by kernel_rfl)
theorem widePat : (match Tryz.prog.underlying 130 with | some (.array _ _) | some (.struct _) => true | _ => false) = true := by rw [undPat]
set_option maxRecDepth 100000 in
theorem keyedPat : Maps.Keyed Tryz.prog 130 := Maps.Keyed.of_law (deep_law_laid laidOutK (m := 2) (by omega) rowPat (by kernel_rfl) widePat)
theorem undInt0 : Tryz.prog.underlying 3 = some (.int .i64) := by kernel_rfl
theorem undBool0 : Tryz.prog.underlying 4 = some .bool := by kernel_rfl
theorem undMap : Tryz.prog.underlying 131 = some (.map 130 4) := by kernel_rfl
theorem zeroBool (w : World) : (zeroValue 4).run Tryz.prog w = .ok (.bool false) w := by kernel_rfl
theorem cellsPat : Tryz.prog.cellsOf 130 = 5 := by kernel_rfl
theorem cellsInt0 : Tryz.prog.cellsOf 3 = 1 := by kernel_rfl
theorem isKeyPat : Tryz.prog.keyType 130 = true := by kernel_rfl

theorem keyP_some {P : Nat → Int} (h : ∀ i, i < 5 → (Lit.int .i64 (P i)).wf = true) : ∃ kl, keyOf Tryz.prog 130 (.agg #[.int .i64 (P 0), .int .i64 (P 1), .int .i64 (P 2), .int .i64 (P 3), .int .i64 (P 4)]) = some kl := by
  have hf : Value.formed Tryz.prog 130 (.agg #[.int .i64 (P 0), .int .i64 (P 1), .int .i64 (P 2), .int .i64 (P 3), .int .i64 (P 4)]) = true := by simp [Value.formed, cellsPat]
  have h0 := h 0 (by omega)
  have h1 := h 1 (by omega)
  have h2 := h 2 (by omega)
  have h3 := h 3 (by omega)
  have h4 := h 4 (by omega)
  have hl : ∀ d, Tryz.prog.keyLits (d + 2) 130 [.int .i64 (P 0), .int .i64 (P 1), .int .i64 (P 2), .int .i64 (P 3), .int .i64 (P 4)] = some [.int .i64 (P 0), .int .i64 (P 1), .int .i64 (P 2), .int .i64 (P 3), .int .i64 (P 4)] := by
    intro d
    simp [Program.keyLits, cellsPat, cellsInt0, h0, h1, h2, h3, h4, List.range, List.range.loop]
  unfold keyOf
  rw [undPat]
  simp [isKeyPat, hf, Value.cells]
  exact ⟨_, _, hl _, rfl⟩

/-- numbers that are levels, or none -/
def Lv (p : List Int) : Prop := ∀ x ∈ p, -1 ≤ x ∧ x ≤ 3
theorem Lv.wf {p : List Int} (h : Lv p) (i : Nat) : (Lit.int .i64 (at5 p i)).wf = true := by
  have h1 : -1 ≤ at5 p i ∧ at5 p i ≤ 3 := by
    by_cases hi : i < p.length
    · obtain ⟨x, hx⟩ := at_of_lt hi
      rw [at5_of hx]; exact h x (List.mem_of_getElem? hx)
    · rw [at5_out (by omega)]; omega
  exact WalkArith.wf_i64 (by omega)
/-- a pattern as a key -/
noncomputable def keyL (p : List Int) : Lit := (keyOf Tryz.prog 130 (.agg #[.int .i64 (at5 p 0), .int .i64 (at5 p 1), .int .i64 (at5 p 2), .int .i64 (at5 p 3), .int .i64 (at5 p 4)])).getD (.bool false)
theorem keyL_eq {p : List Int} (h : Lv p) : keyOf Tryz.prog 130 (.agg #[.int .i64 (at5 p 0), .int .i64 (at5 p 1), .int .i64 (at5 p 2), .int .i64 (at5 p 3), .int .i64 (at5 p 4)]) = some (keyL p) := by
  obtain ⟨kl, hk⟩ := keyP_some (P := at5 p) fun i _ => h.wf i
  unfold keyL
  rw [hk]; rfl
set_option maxRecDepth 100000 in
theorem keyL_inj {p q : List Int} (hp : Lv p) (hq : Lv q) (hl : p.length = q.length) (h5 : p.length ≤ 5) (h : keyL p = keyL q) : p = q := by
  have h1 := keyedPat.inj (keyL_eq hp) (h ▸ keyL_eq hq)
  have h2 : at5 p 0 = at5 q 0 ∧ at5 p 1 = at5 q 1 ∧ at5 p 2 = at5 q 2 ∧ at5 p 3 = at5 q 3 ∧ at5 p 4 = at5 q 4 := by simpa using h1
  apply List.ext_getElem?
  intro i
  by_cases hi : i < p.length
  · obtain ⟨x, hx⟩ := at_of_lt hi
    obtain ⟨y, hy⟩ := at_of_lt (show i < q.length by omega)
    have h3 : at5 p i = at5 q i := by
      obtain rfl | rfl | rfl | rfl | rfl : i = 0 ∨ i = 1 ∨ i = 2 ∨ i = 3 ∨ i = 4 := by omega
      · exact h2.1
      · exact h2.2.1
      · exact h2.2.2.1
      · exact h2.2.2.2.1
      · exact h2.2.2.2.2
    rw [at5_of hx, at5_of hy] at h3
    rw [hx, hy, h3]
  · rw [List.getElem?_eq_none (by omega), List.getElem?_eq_none (by omega)]

/-- patterns of one length -/
structure PS (ps : List (List Int)) (n : Nat) : Prop where
  len : ∀ p ∈ ps, p.length = n
  n5 : n ≤ 5
  lv : ∀ p ∈ ps, Lv p
theorem PS.inj {ps : List (List Int)} {n : Nat} (h : PS ps n) {p q : List Int} (hp : p ∈ ps) (hq : q ∈ ps) (hn : q ≠ p) : keyL q ≠ keyL p :=
  fun e => hn (keyL_inj (h.lv q hq) (h.lv p hp) (by rw [h.len p hp, h.len q hq]) (by rw [h.len q hq]; exact h.n5) e)

theorem patsR_lv : ∀ {ms : List Int} {t : Int} {l : List Int}, (∀ y ∈ ms, y ≤ 3) → l ∈ patsR ms t → Lv l
  | [], t, l, _, h => by
    simp only [patsR] at h
    split at h
    · simp at h; subst h; intro x hx; simp at hx
    · simp at h
  | y :: ms, t, l, hm, h => by
    have hy := hm y (List.mem_cons_self ..)
    have hms : ∀ z ∈ ms, z ≤ 3 := fun z hz => hm z (List.mem_cons_of_mem _ hz)
    simp only [patsR] at h
    split at h
    · simp at h
    · rcases List.mem_append.1 h with h | h
      · obtain ⟨x, hx, h⟩ := List.mem_flatMap.1 h
        obtain ⟨r, hr, rfl⟩ := List.mem_map.1 h
        have := List.mem_range.1 hx
        intro z hz
        rcases List.mem_cons.1 hz with rfl | hz
        · omega
        · exact patsR_lv hms hr z hz
      · obtain ⟨r, hr, rfl⟩ := List.mem_map.1 h
        intro z hz
        rcases List.mem_cons.1 hz with rfl | hz
        · omega
        · exact patsR_lv hms hr z hz

/-- block b is a map of at most n entries: of the patterns ps those are in it of which S holds -/
def Mp (w : World) (b n : Nat) (ps : List (List Int)) (S : List Int → Bool) : Prop :=
  ∃ D : DataW Unit, w.ownsMap Tryz.prog 130 (plainElem Tryz.prog 4) b n D ∧ ∀ p ∈ ps, D.atKey (keyL p) (.lit (.bool false)) = .lit (.bool (S p))
theorem Mp.made (w : World) (ps : List (List Int)) : Mp (w.alloc (.map #[] 0)) w.heap.size 0 ps (fun _ => false) := ⟨_, World.ownsMap_made w _ _ _, fun _ _ => rfl⟩
theorem Mp.lt {w : World} {b n : Nat} {ps : List (List Int)} {S : List Int → Bool} (h : Mp w b n ps S) : b < w.heap.size := by
  obtain ⟨D, h1, _⟩ := h; exact h1.lt
theorem Mp.same {w w' : World} {b n : Nat} {ps : List (List Int)} {S : List Int → Bool} (h : Mp w b n ps S) (hb : w'.heap[b]? = w.heap[b]?) : Mp w' b n ps S := by
  obtain ⟨D, ⟨es, clock, h1, r⟩, h2⟩ := h
  exact ⟨D, ⟨es, clock, hb.trans h1, r⟩, h2⟩
theorem Mp.below {w w' : World} {b n B : Nat} {ps : List (List Int)} {S : List Int → Bool} (h : Mp w b n ps S) (hb : Below B w w') (hB : b < B) : Mp w' b n ps S := h.same (hb.block b hB)
theorem Mp.congr {w : World} {b n : Nat} {ps : List (List Int)} {S S' : List Int → Bool} (h : Mp w b n ps S) (e : ∀ p ∈ ps, S p = S' p) : Mp w b n ps S' := by
  obtain ⟨D, h1, h2⟩ := h
  exact ⟨D, h1, fun p hp => by rw [h2 p hp, e p hp]⟩
theorem Mp.mono {w : World} {b n n' : Nat} {ps : List (List Int)} {S : List Int → Bool} (h : Mp w b n ps S) (hn : n ≤ n') : Mp w b n' ps S := by
  obtain ⟨D, h1, h2⟩ := h
  exact ⟨D, h1.mono hn, h2⟩
theorem Upd.ofGrown {w w' : World} {b : Nat} (h : w.grownBy w' (some b)) : Upd b (b + 1) w w' :=
  ⟨h.os, h.tape, h.output, h.size, fun k hk ho => h.block k hk (by intro e; cases e; omega)⟩

set_option maxRecDepth 100000 in
/-- a pattern is put in -/
theorem wpList_putP {w : World} {ops : Array Oper} {rest : List Oper} {o : Oper} {a : Act} {Q : Exit → Act → World → Prop} (hg : o.guard = none) (m x v : Operand) (hop : o.op = Op.mapUpdate 131 m x v)
    (b n : Nat) {N : Nat} {ps : List (List Int)} {S : List Int → Bool} (hps : PS ps N) (hm : a.eval m = .map (some b)) (hown : Mp w b n ps S) (hn : n ≤ 1048576) (p : List Int) (hp : p ∈ ps) (hx : a.eval x = .agg #[.int .i64 (at5 p 0), .int .i64 (at5 p 1), .int .i64 (at5 p 2), .int .i64 (at5 p 3), .int .i64 (at5 p 4)]) (hv : a.eval v = .bool true)
    (hK : ∀ w', Mp w' b (n + 1) ps (fun q => q == p || S q) → Upd b (b + 1) w w' → wpList Tryz.prog ops Q rest (a.put o.dst undef) w') : wpList Tryz.prog ops Q (o :: rest) a w := by
  obtain ⟨D, h1, h2⟩ := hown
  refine wpList_mapUpdate_own _ hg m x v 131 hop 130 4 keyedPat undMap _ b n D hm h1 (by unfold maxLen; omega) _ _ (keyL p) hx hv (keyL_eq (hps.lv p hp)) _ [] (plainElem_bool undBool0 true) ?_
  intro w' hw hgr
  refine hK w' ⟨_, hw, fun q hq => ?_⟩ (.ofGrown hgr)
  by_cases e : q = p
  · subst e
    rw [Maps.atKey_put_same h1.isMap (keyedPat.key (keyL_eq (hps.lv q hq)))]
    simp
  · rw [Maps.atKey_put_other (hps.inj hp hq e), h2 q hq]
    have e2 : (q == p) = false := by rw [beq_eq_false_iff_ne]; exact e
    simp [e2]

set_option maxRecDepth 100000 in
/-- .. is taken out -/
theorem wpList_delP {w : World} {ops : Array Oper} {rest : List Oper} {o : Oper} {a : Act} {Q : Exit → Act → World → Prop} (hg : o.guard = none) (m x : Operand) (hop : o.op = Op.call { callee := Callee.builtin Builtin.delete, args := #[m, x], argTypes := #[131, 130] })
    (b n : Nat) {N : Nat} {ps : List (List Int)} {S : List Int → Bool} (hps : PS ps N) (hm : a.eval m = .map (some b)) (hown : Mp w b n ps S) (p : List Int) (hp : p ∈ ps) (hx : a.eval x = .agg #[.int .i64 (at5 p 0), .int .i64 (at5 p 1), .int .i64 (at5 p 2), .int .i64 (at5 p 3), .int .i64 (at5 p 4)])
    (hK : ∀ w', Mp w' b n ps (fun q => q != p && S q) → Upd b (b + 1) w w' → wpList Tryz.prog ops Q rest (a.put o.dst (.tuple #[])) w') : wpList Tryz.prog ops Q (o :: rest) a w := by
  obtain ⟨D, h1, h2⟩ := hown
  refine wpList_delete_own _ hg m x 131 130 hop 4 keyedPat undMap _ b n D hm h1 _ (keyL p) hx (keyL_eq (hps.lv p hp)) ?_
  intro w' hw hgr
  refine hK w' ⟨_, hw, fun q hq => ?_⟩ (.ofGrown hgr.grown)
  by_cases e : q = p
  · subst e
    rw [Maps.atKey_del_same]
    simp
  · rw [Maps.atKey_del_other (hps.inj hp hq e), h2 q hq]
    have e2 : (q != p) = true := by rw [bne_iff_ne]; exact e
    simp [e2]

theorem plainElem_bool_inv {v : Value} {x : Bool} {l : List MemPlace} (h : plainElem (H := Unit) Tryz.prog 4 v = some (.lit (.bool x), l)) : v = .bool x := by
  unfold plainElem at h
  rw [undBool0] at h
  cases v <;> simp at h
  rw [h.1]
set_option maxRecDepth 100000 in
/-- .. is looked up -/
theorem wpList_lookP {w : World} {ops : Array Oper} {rest : List Oper} {o : Oper} {a : Act} {Q : Exit → Act → World → Prop} (hg : o.guard = none) (m x : Operand) (hop : o.op = Op.lookup 131 m x false)
    (b n : Nat) {N : Nat} {ps : List (List Int)} {S : List Int → Bool} (hps : PS ps N) (hm : a.eval m = .map (some b)) (hown : Mp w b n ps S) (p : List Int) (hp : p ∈ ps) (hx : a.eval x = .agg #[.int .i64 (at5 p 0), .int .i64 (at5 p 1), .int .i64 (at5 p 2), .int .i64 (at5 p 3), .int .i64 (at5 p 4)]) (y : Bool) (hy : S p = y)
    (hK : wpList Tryz.prog ops Q rest (a.put o.dst (.bool y)) w) : wpList Tryz.prog ops Q (o :: rest) a w := by
  obtain ⟨D, h1, h2⟩ := hown
  obtain ⟨v, pl, hrun, hv⟩ := h1.lookup keyedPat undMap (zeroBool w) (plainElem_bool undBool0 false) (keyL_eq (hps.lv p hp))
  rw [h2 p hp, hy] at hv
  have hv' := plainElem_bool_inv hv
  subst hv'
  refine wpList_plain hg fun K' hK' => ?_
  unfold Oper.wp
  simp [execOp, hop, hm, hx, hrun, Result.andThen]
  exact hK' _ _ hK

end Go.Proofs.YtpioldgpfpmjiaaGreatDoor
