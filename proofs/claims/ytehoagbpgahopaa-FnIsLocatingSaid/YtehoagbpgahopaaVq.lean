/- Slices of bools: what they read as, who owns them, append; the laws' functions on them. -/
import Derived.Test.YtehoagbpgahopaaWj
namespace Go.Proofs.Ytehoagbpgahopaa
open Go.RowKit

theorem undB : Try.prog.underlying 70 = some (.slice 4) := by kernel_rfl
theorem sizeBool (w : World) : (sizeOf 4).run Try.prog w = .ok 1 w := by kernel_rfl
theorem infoBool : (Try.prog.info? 4).map (fun i => (i.zero, i.size, i.bytes)) = some (some (.bool false), 1, 1) := by kernel_rfl
theorem idxBo {a : Option Addr} {len k b o : Nat} (ha : a = some ⟨b, o, none⟩) (hk : k < len) (cap : Nat) (wx : World) :
    (Instr.indexAt 70 (.slice a len cap) (.int .i64 (k : Int))).run Try.prog wx = .ok (.pointer (some ⟨b, o + k, none⟩)) wx := idx_run undB sizeBool ha hk cap wx

/-- A slice of bools that reads as m, in blocks lo ≤ b < hi. -/
def RBo (w : World) (lo hi : Nat) (a : Option Addr) (m : List Bool) : Prop :=
  ∀ k, k < m.length → ∃ b o, a = some ⟨b, o, none⟩ ∧ lo ≤ b ∧ b < hi ∧ ∃ x, m[k]? = some x ∧ w.cell? ⟨b, o + k, none⟩ = some (.bool x)
theorem RBo.at {w : World} {lo hi : Nat} {a : Option Addr} {m : List Bool} (h : RBo w lo hi a m) {k : Nat} (hk : k < m.length) :
    ∃ b o x, a = some ⟨b, o, none⟩ ∧ lo ≤ b ∧ b < hi ∧ w.cell? ⟨b, o + k, none⟩ = some (.bool x) ∧ Hid (m[k]? = some x) := by
  obtain ⟨b, o, h1, h2, h3, x, h4, h5⟩ := h k hk
  exact ⟨b, o, x, h1, h2, h3, h5, h4⟩
theorem RBo.same {w w' : World} {lo hi : Nat} {a : Option Addr} {m : List Bool} (h : RBo w lo hi a m) (hb : ∀ k, lo ≤ k → k < hi → w'.heap[k]? = w.heap[k]?) : RBo w' lo hi a m := by
  intro k hk
  obtain ⟨b, o, h1, h2, h3, x, h4, h5⟩ := h k hk
  exact ⟨b, o, h1, h2, h3, x, h4, (World.cell?_of_block (w := w) (hb b h2 h3)).trans h5⟩
theorem RBo.below {w w' : World} {lo hi B : Nat} {a : Option Addr} {m : List Bool} (h : RBo w lo hi a m) (hb : Below B w w') (hB : hi ≤ B) : RBo w' lo hi a m :=
  h.same fun k _ h2 => hb.block k (by omega)
theorem RBo.wide {w : World} {lo hi lo' hi' : Nat} {a : Option Addr} {m : List Bool} (h : RBo w lo hi a m) (h1 : lo' ≤ lo) (h2 : hi ≤ hi') : RBo w lo' hi' a m := by
  intro k hk
  obtain ⟨b, o, e1, e2, e3, e4⟩ := h k hk
  exact ⟨b, o, e1, by omega, by omega, e4⟩
theorem RBo.upd {w w' : World} {lo hi p q : Nat} {a : Option Addr} {m : List Bool} (h : RBo w lo hi a m) (hu : Upd p q w w') (hs : hi ≤ w.heap.size) (hd : hi ≤ p ∨ q ≤ lo) : RBo w' lo hi a m :=
  h.same fun k h1 h2 => hu.block k (by omega) (by omega)

/-- .. that may be written -/
def OBo (w : World) (lo hi : Nat) (a : Option Addr) (m : List Bool) : Prop :=
  ∀ k, k < m.length → ∃ b o, a = some ⟨b, o, none⟩ ∧ lo ≤ b ∧ b < hi ∧ (∃ x, m[k]? = some x ∧ w.cell? ⟨b, o + k, none⟩ = some (.bool x)) ∧ w.frozen? ⟨b, o + k, none⟩ = false
theorem OBo.ri {w : World} {lo hi : Nat} {a : Option Addr} {m : List Bool} (h : OBo w lo hi a m) : RBo w lo hi a m := by
  intro k hk
  obtain ⟨b, o, h1, h2, h3, h4, _⟩ := h k hk
  exact ⟨b, o, h1, h2, h3, h4⟩
theorem OBo.same {w w' : World} {lo hi : Nat} {a : Option Addr} {m : List Bool} (h : OBo w lo hi a m) (hb : ∀ k, lo ≤ k → k < hi → w'.heap[k]? = w.heap[k]?) : OBo w' lo hi a m := by
  intro k hk
  obtain ⟨b, o, h1, h2, h3, ⟨x, h4, h5⟩, h6⟩ := h k hk
  exact ⟨b, o, h1, h2, h3, ⟨x, h4, (World.cell?_of_block (w := w) (hb b h2 h3)).trans h5⟩, (World.frozen?_of_block (w := w) (hb b h2 h3)).trans h6⟩
theorem OBo.below {w w' : World} {lo hi B : Nat} {a : Option Addr} {m : List Bool} (h : OBo w lo hi a m) (hb : Below B w w') (hB : hi ≤ B) : OBo w' lo hi a m :=
  h.same fun k _ h2 => hb.block k (by omega)
theorem OBo.upd {w w' : World} {lo hi p q : Nat} {a : Option Addr} {m : List Bool} (h : OBo w lo hi a m) (hu : Upd p q w w') (hs : hi ≤ w.heap.size) (hd : hi ≤ p ∨ q ≤ lo) : OBo w' lo hi a m :=
  h.same fun k h1 h2 => hu.block k (by omega) (by omega)
theorem OBo.nil (w : World) (lo hi : Nat) (a : Option Addr) : OBo w lo hi a [] := fun k hk => by simp at hk
theorem OBo.wide {w : World} {lo hi lo' hi' : Nat} {a : Option Addr} {m : List Bool} (h : OBo w lo hi a m) (h1 : lo' ≤ lo) (h2 : hi ≤ hi') : OBo w lo' hi' a m := by
  intro k hk
  obtain ⟨b, o, e1, e2, e3, e4⟩ := h k hk
  exact ⟨b, o, e1, by omega, by omega, e4⟩
theorem OBo.set {w : World} {lo hi b o j : Nat} {m : List Bool} (h : OBo w lo hi (some ⟨b, o, none⟩) m) (hj : j < m.length) (x : Bool) : OBo (w.setCell ⟨b, o + j, none⟩ (.bool x)) lo hi (some ⟨b, o, none⟩) (m.set j x) := by
  intro k hk
  simp only [List.length_set] at hk
  obtain ⟨b', o', e1, h2, h3, ⟨y, h4, h5⟩, h6⟩ := h k hk
  obtain ⟨rfl, rfl⟩ : b = b' ∧ o = o' := by simpa using e1
  refine ⟨b, o, rfl, h2, h3, ?_, by rw [World.frozen?_setCell]; exact h6⟩
  by_cases hkj : k = j
  · subst hkj
    exact ⟨x, by simp [hk], World.cell?_setCell_same _ _ _ h5⟩
  · refine ⟨y, by rw [List.getElem?_set_ne (by omega)]; exact h4, ?_⟩
    have hne : (⟨b, o + j, none⟩ : Addr) ≠ ⟨b, o + k, none⟩ := by intro he; have := congrArg Addr.off he; simp at this; omega
    exact (World.cell?_setCell_other _ _ _ _ hne).trans h5
/-- .. with its room -/
structure OBc (w : World) (lo hi : Nat) (a : Option Addr) (c : Nat) (m : List Bool) : Prop where
  ob : OBo w lo hi a m
  cap : m.length ≤ c
theorem OBc.ri {w : World} {lo hi c : Nat} {a : Option Addr} {m : List Bool} (h : OBc w lo hi a c m) : RBo w lo hi a m := h.ob.ri
theorem OBc.below {w w' : World} {lo hi B c : Nat} {a : Option Addr} {m : List Bool} (h : OBc w lo hi a c m) (hb : Below B w w') (hB : hi ≤ B) : OBc w' lo hi a c m := ⟨h.ob.below hb hB, h.cap⟩
theorem OBc.upd {w w' : World} {lo hi p q c : Nat} {a : Option Addr} {m : List Bool} (h : OBc w lo hi a c m) (hu : Upd p q w w') (hs : hi ≤ w.heap.size) (hd : hi ≤ p ∨ q ≤ lo) : OBc w' lo hi a c m := ⟨h.ob.upd hu hs hd, h.cap⟩
/-- A call that makes a slice of bools of its own: it reads as m, and nothing that was there has turned. -/
def NewBo (w : World) (m : List Bool) (e : Ending) (w' : World) : Prop :=
  ∃ a c, e = .returned (.slice a m.length c) ∧ OBc w' w.heap.size w'.heap.size a c m ∧ Below w.heap.size w w'

/-- the bools of a list as cells -/
def bols (l : List Bool) : List Value := l.map Value.bool
theorem bols_len (l : List Bool) : (bols l).length = l.length := by simp [bols]
theorem bols_snoc (l : List Bool) (x : Bool) : bols (l ++ [x]) = bols l ++ [.bool x] := by simp [bols]
/-- v owns, from block B on, the bools l -/
def OwnBo (w : World) (B : Nat) (v : Value) (l : List Bool) : Prop := w.ownsRow B 4 1 v l.length (bols l)
theorem OwnBo.slice {w : World} {B : Nat} {v : Value} {l : List Bool} (h : OwnBo w B v l) : ∃ a c, v = .slice a l.length c ∧ OBc w B w.heap.size a c l := by
  obtain ⟨h1, h2⟩ := h
  rcases h2 with ⟨rfl, h0⟩ | ⟨g, cap, cur, rfl, hb, hg, hn, hm, hs, ht⟩
  · have e : l = [] := List.eq_nil_of_length_eq_zero h0
    subst e
    exact ⟨none, 0, rfl, OBo.nil _ _ _ _, by simp⟩
  · refine ⟨_, _, rfl, fun k hk => ?_, hn⟩
    have hgl := (Array.getElem?_eq_some_iff.1 hg).1
    obtain ⟨x, hx⟩ := at_of_lt hk
    refine ⟨g, 0, rfl, hb, hgl, ⟨x, hx, ?_⟩, ?_⟩
    · rw [Nat.zero_add, cell_of_row w g k cur _ (0, 0) hg]
      have e : (bols l)[k]? = some (.bool x) := by simp [bols, hx]
      rw [← ht, List.getElem?_take] at e
      split at e
      · simpa using e
      · cases e
    · rw [Nat.zero_add]
      exact World.rowIs.frozen (t := 4) (n := cur.size) (f := fun i => cur.getD i undef) ⟨cur, hg, rfl, fun i hi => by simp [Array.getD, hi]⟩ k
theorem OwnBo.made (w : World) (B : Nat) (hB : B ≤ w.heap.size) : OwnBo (w.alloc (.cells #[] 4)) B (.slice (some ⟨w.heap.size, 0, none⟩) 0 0) [] :=
  World.ownsRow_made w #[] 0 hB (by simp [maxLen]) rfl
theorem OwnBo.room (w : World) (B n t : Nat) (ht : t = 4) (hB : B ≤ w.heap.size) (hn : n ≤ maxLen) : OwnBo (w.alloc (.cells (madeCells #[.bool false] n) t)) B (.slice (some ⟨w.heap.size, 0, none⟩) 0 n) [] := by
  subst ht
  exact World.ownsRow_made w _ n hB hn (by simp [madeCells])
theorem OwnBo.below {w w' : World} {B : Nat} {v : Value} {l : List Bool} (h : OwnBo w B v l) (hb : Below w.heap.size w w') : OwnBo w' B v l := by
  refine World.ownsRow.kept h (row := none) ⟨hb.os, hb.tape, hb.output, hb.size, fun k hk _ => hb.block k hk⟩ ?_
  cases v.ownBlock <;> simp

/-- append of one bool -/
theorem wpList_app1B {wr : World} {ops : Array Oper} {rest : List Oper} {o : Oper} {a : Act} {Q : Exit → Act → World → Prop} (hgd : o.guard = none) (s t : Operand)
    (ho : o.op = .call { callee := .builtin .append, args := #[s, t], argTypes := #[70, 70] }) (B : Nat) (v : Value) (l : List Bool) (hs : a.eval s = v) (hown : OwnBo wr B v l) (x : Bool)
    (hx : a.eval t = .slice (some ⟨wr.heap.size, 0, none⟩) 1 1) (hl : l.length ≤ 1099511627776) (hB : B ≤ wr.heap.size)
    (h : ∀ v' w', OwnBo w' B v' (l ++ [x]) → Below B wr w' → wpList Try.prog ops Q rest (a.put o.dst v') w') : wpList Try.prog ops Q (o :: rest) a (wr.alloc (.cells #[.bool x] 4)) := by
  obtain ⟨i0, hi, hz0, hz1, hz2⟩ := info_parts infoBool
  refine wpList_append_own _ hgd s t 70 ho B 4 i0 (.bool false) 1 1 undB hi hz0 hz1 hz2 rfl (by decide) v l.length (bols l) hs (World.ownsRow.alloc hown _) ⟨wr.heap.size, 0, none⟩ 1 1 [.bool x] hx rfl ?_ ?_ ?_ ?_ ?_ ?_
  · exact cell_one_new _ _ _
  · intro u hu; simp at hu; subst hu; rfl
  · unfold maxLen; omega
  · omega
  · simp; omega
  · intro v' w' h1 h2 _
    refine h v' w' ?_ ?_
    · unfold OwnBo; rw [bols_snoc, List.length_append]; exact h1
    · refine (((Below.refl B wr).alloc hB _).grown h2 (by simp; omega) fun k hk => ?_)
      exact ((World.ownsRow.lt hown) k hk).1

def eqBo (x y : List Bool) : Bool := x == y
theorem eqBo_true {x y : List Bool} : eqBo x y = true ↔ x = y := by simp [eqBo]
theorem eqBo_no {x y : List Bool} (h : x ≠ y) : eqBo x y = false := by simp [eqBo, h]

/-- what markBoolS writes -/
def mkBo (k : Int) (n : Nat) : List Bool := (List.range n).map fun (i : Nat) => (k + (i : Int)) % 3 == 0
theorem mkBo_len (k : Int) (n : Nat) : (mkBo k n).length = n := by simp [mkBo]
theorem mkBo_at {k : Int} {n i : Nat} (h : i < n) : (mkBo k n)[i]? = some ((k + (i : Int)) % 3 == 0) := by simp [mkBo, h]
theorem mkBo_of {l : List Bool} {k : Int} {n : Nat} (h1 : l.length = n) (h2 : ∀ i : Nat, i < n → l[i]? = some ((k + (i : Int)) % 3 == 0)) : l = mkBo k n := by
  apply List.ext_getElem?
  intro i
  by_cases hi : i < n
  · rw [h2 i hi, mkBo_at hi]
  · rw [List.getElem?_eq_none (by omega), List.getElem?_eq_none (by rw [mkBo_len]; omega)]

end Go.Proofs.Ytehoagbpgahopaa
