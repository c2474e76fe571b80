/- Slices of numbers that a call appends to: owned rows, and what they read as. -/
import Derived.Test.YtpioldgpfpmjiaaGreatDoorFacts
import Derived.Deep.RegionHeld3
import Derived.Deep.AppendLies
namespace Go.Proofs.YtpioldgpfpmjiaaGreatDoor
open Go.RowKit

/-- a slice's length -/
def lenV : Value → Nat
  | .slice _ n _ => n
  | _ => 0
/-- the numbers of a list as cells -/
def ints (l : List Int) : List Value := l.map (Value.int .i64)
theorem ints_len (l : List Int) : (ints l).length = l.length := by simp [ints]
theorem ints_snoc (l : List Int) (x : Int) : ints (l ++ [x]) = ints l ++ [.int .i64 x] := by simp [ints]
theorem ints_app (l k : List Int) : ints (l ++ k) = ints l ++ ints k := by simp [ints]
theorem ints_one (l : List Int) : ∀ u ∈ ints l, u.oneCell' = true := by
  intro u hu
  simp only [ints, List.mem_map] at hu
  obtain ⟨x, _, rfl⟩ := hu
  rfl
/-- v owns, from block B on, the numbers l -/
def OwnL (w : World) (B : Nat) (v : Value) (l : List Int) : Prop := w.ownsRow B 3 1 v l.length (ints l)
theorem OwnL.slice {w : World} {B : Nat} {v : Value} {l : List Int} (h : OwnL w B v l) : ∃ a c, v = .slice a l.length c ∧ OIc w B w.heap.size a c l := by
  obtain ⟨h1, h2⟩ := h
  rcases h2 with ⟨rfl, h0⟩ | ⟨g, cap, cur, rfl, hb, hg, hn, hm, hs, ht⟩
  · have e : l = [] := List.eq_nil_of_length_eq_zero h0
    subst e
    exact ⟨none, 0, rfl, OI.nil _ _ _ _, by simp⟩
  · refine ⟨_, _, rfl, fun k hk => ?_, hn⟩
    have hgl := (Array.getElem?_eq_some_iff.1 hg).1
    obtain ⟨x, hx⟩ := at_of_lt hk
    refine ⟨g, 0, rfl, hb, hgl, ⟨x, hx, ?_⟩, ?_⟩
    · rw [Nat.zero_add, cell_of_row w g k cur _ (0, 0) hg]
      have e : (ints l)[k]? = some (.int .i64 x) := by simp [ints, hx]
      rw [← ht, List.getElem?_take] at e
      split at e
      · simpa using e
      · cases e
    · rw [Nat.zero_add]
      exact World.rowIs.frozen (t := 3) (n := cur.size) (f := fun i => cur.getD i undef) ⟨cur, hg, rfl, fun i hi => by simp [Array.getD, hi]⟩ k
theorem OwnL.made (w : World) (B : Nat) (hB : B ≤ w.heap.size) : OwnL (w.alloc (.cells #[] 3)) B (.slice (some ⟨w.heap.size, 0, none⟩) 0 0) [] :=
  World.ownsRow_made w #[] 0 hB (by simp [maxLen]) rfl
theorem OwnL.nil (w : World) (B : Nat) : OwnL w B (.slice none 0 0) [] := World.ownsRow_nil _ _ _ _
theorem OwnL.below {w w' : World} {B : Nat} {v : Value} {l : List Int} (h : OwnL w B v l) (hb : Below w.heap.size w w') : OwnL w' B v l := by
  refine World.ownsRow.kept h (row := none) ⟨hb.os, hb.tape, hb.output, hb.size, fun k hk _ => hb.block k hk⟩ ?_
  cases v.ownBlock <;> simp

/-- append of one number -/
theorem wpList_app1 {wr : World} {ops : Array Oper} {rest : List Oper} {o : Oper} {a : Act} {Q : Exit → Act → World → Prop} (hgd : o.guard = none) (s t : Operand)
    (ho : o.op = .call { callee := .builtin .append, args := #[s, t], argTypes := #[45, 45] }) (B : Nat) (v : Value) (l : List Int) (hs : a.eval s = v) (hown : OwnL wr B v l) (x : Int)
    (hx : a.eval t = .slice (some ⟨wr.heap.size, 0, none⟩) 1 1) (hl : l.length ≤ 1099511627776) (hB : B ≤ wr.heap.size)
    (h : ∀ v' w', OwnL w' B v' (l ++ [x]) → Below B wr w' → wpList Tryz.prog ops Q rest (a.put o.dst v') w') : wpList Tryz.prog ops Q (o :: rest) a (wr.alloc (.cells #[.int .i64 x] 3)) := by
  obtain ⟨i0, hi, hz0, hz1, hz2⟩ := info_parts infoInt
  refine wpList_append_own _ hgd s t 45 ho B 3 i0 (.int .i64 0) 1 8 undI hi hz0 hz1 hz2 rfl (by decide) v l.length (ints l) hs (World.ownsRow.alloc hown _) ⟨wr.heap.size, 0, none⟩ 1 1 [.int .i64 x] hx rfl ?_ ?_ ?_ ?_ ?_ ?_
  · exact cell_one_new _ _ _
  · intro u hu; simp at hu; subst hu; rfl
  · unfold maxLen; omega
  · omega
  · simp; omega
  · intro v' w' h1 h2 _
    refine h v' w' ?_ ?_
    · unfold OwnL; rw [ints_snoc, List.length_append]; exact h1
    · refine (((Below.refl B wr).alloc hB _).grown h2 (by simp; omega) fun k hk => ?_)
      exact ((World.ownsRow.lt hown) k hk).1

/-- append of a list of numbers -/
theorem wpList_appN {wr : World} {ops : Array Oper} {rest : List Oper} {o : Oper} {a : Act} {Q : Exit → Act → World → Prop} (hgd : o.guard = none) (s t : Operand)
    (ho : o.op = .call { callee := .builtin .append, args := #[s, t], argTypes := #[45, 45] }) (B : Nat) (v : Value) (l : List Int) (hs : a.eval s = v) (hown : OwnL wr B v l) (k : List Int) (lo hi c : Nat) (a' : Option Addr)
    (hx : a.eval t = .slice a' k.length c) (hk : RI wr lo hi a' k) (hk0 : k ≠ []) (hl : l.length ≤ 1099511627776) (hkl : k.length ≤ 1099511627776) (hB : B ≤ wr.heap.size)
    (h : ∀ v' w', OwnL w' B v' (l ++ k) → Below B wr w' → wpList Tryz.prog ops Q rest (a.put o.dst v') w') : wpList Tryz.prog ops Q (o :: rest) a wr := by
  obtain ⟨i0, hi, hz0, hz1, hz2⟩ := info_parts infoInt
  obtain ⟨b, off, ha, _, _, _⟩ := hk 0 (by cases k with | nil => exact absurd rfl hk0 | cons _ _ => simp)
  subst ha
  refine wpList_append_own _ hgd s t 45 ho B 3 i0 (.int .i64 0) 1 8 undI hi hz0 hz1 hz2 rfl (by decide) v l.length (ints l) hs hown ⟨b, off, none⟩ k.length c (ints k) hx (by rw [ints_len, Nat.mul_one]) ?_ (ints_one k) ?_ ?_ hB ?_
  · intro j u hu
    simp only [ints, List.getElem?_map, Option.map_eq_some_iff] at hu
    obtain ⟨x, hx, rfl⟩ := hu
    obtain ⟨b', o', e1, _, _, x', e4, e5⟩ := hk j (lt_of_at hx)
    obtain ⟨rfl, rfl⟩ : b = b' ∧ off = o' := by simpa using e1
    rw [hx] at e4
    cases e4
    have e6 : (⟨b, off, none⟩ : Addr).add j = ⟨b, off + j, none⟩ := by unfold Addr.add; split <;> simp_all
    rw [e6]; exact e5
  · unfold maxLen; omega
  · omega
  · intro v' w' h1 h2 _
    refine h v' w' ?_ ?_
    · unfold OwnL; rw [ints_app, List.length_append]; exact h1
    · refine ((Below.refl B wr).grown h2 hB fun k hk => ?_)
      exact ((World.ownsRow.lt hown) k hk).1

/-- .. at a step of a region that draws its order -/
theorem step_app1 {wr : World} {ops : Array Oper} {o : Oper} {a : Act} {K : Act → World → Prop} {Q : Exit → Act → World → Prop} {E : Prop} (hgd : o.guard = none) (s t : Operand)
    (ho : o.op = .call { callee := .builtin .append, args := #[s, t], argTypes := #[45, 45] }) (B : Nat) (v : Value) (l : List Int) (hs : a.eval s = v) (hown : OwnL wr B v l) (x : Int)
    (hx : a.eval t = .slice (some ⟨wr.heap.size, 0, none⟩) 1 1) (hl : l.length ≤ 1099511627776) (hB : B ≤ wr.heap.size)
    (h : ∀ v' w', OwnL w' B v' (l ++ [x]) → Below B wr w' → K (a.put o.dst v') w') :
    if Region.wanted o (yielded ops a.tmps) = true then Oper.wp Tryz.prog o a (wr.alloc (.cells #[.int .i64 x] 3)).drew K Q else E := by
  obtain ⟨i0, hi, hz0, hz1, hz2⟩ := info_parts infoInt
  have hw : Region.wanted o (yielded ops a.tmps) = true := by simp [Region.wanted, hgd]
  rw [if_pos hw]
  refine wp_append_own _ s t 45 ho B 3 i0 (.int .i64 0) 1 8 undI hi hz0 hz1 hz2 rfl (by decide) v l.length (ints l) hs ((World.ownsRow.alloc hown _).drew) ⟨wr.heap.size, 0, none⟩ 1 1 [.int .i64 x] hx rfl ?_ ?_ ?_ ?_ ?_ ?_
  · exact cell_one_new _ _ _
  · intro u hu; simp at hu; subst hu; rfl
  · unfold maxLen; omega
  · omega
  · simp; omega
  · intro v' w' h1 h2 _
    refine h v' w' ?_ ?_
    · unfold OwnL; rw [ints_snoc, List.length_append]; exact h1
    · refine ((((Below.refl B wr).alloc hB _).drew).grown h2 (by simp; omega) fun k hk => ?_)
      exact ((World.ownsRow.lt hown) k hk).1

/-- append of a list that lies at a known place, empty or not -/
theorem wpList_appS {wr : World} {ops : Array Oper} {rest : List Oper} {o : Oper} {a : Act} {Q : Exit → Act → World → Prop} (hgd : o.guard = none) (s t : Operand)
    (ho : o.op = .call { callee := .builtin .append, args := #[s, t], argTypes := #[45, 45] }) (B : Nat) (v : Value) (l : List Int) (hs : a.eval s = v) (hown : OwnL wr B v l) (k : List Int) (lo hi c : Nat) (ad : Addr)
    (hx : a.eval t = .slice (some ad) k.length c) (hk : RI wr lo hi (some ad) k) (hl : l.length ≤ 1099511627776) (hkl : k.length ≤ 1099511627776) (hB : B ≤ wr.heap.size)
    (h : ∀ v' w', OwnL w' B v' (l ++ k) → Below B wr w' → wpList Tryz.prog ops Q rest (a.put o.dst v') w') : wpList Tryz.prog ops Q (o :: rest) a wr := by
  by_cases hk0 : k = []
  · subst hk0
    obtain ⟨i0, hi, hz0, hz1, hz2⟩ := info_parts infoInt
    refine wpList_append_own _ hgd s t 45 ho B 3 i0 (.int .i64 0) 1 8 undI hi hz0 hz1 hz2 rfl (by decide) v l.length (ints l) hs hown ad 0 c [] hx rfl (by simp) (by simp) ?_ ?_ hB ?_
    · unfold maxLen; omega
    · omega
    · intro v' w' h1 h2 _
      refine h v' w' ?_ ?_
      · unfold OwnL; simpa using h1
      · refine ((Below.refl B wr).grown h2 hB fun k hk => ?_)
        exact ((World.ownsRow.lt hown) k hk).1
  · exact wpList_appN hgd s t ho B v l hs hown k lo hi c _ hx hk hk0 hl hkl hB h
theorem OwnL.some {w : World} {B : Nat} {v : Value} {l : List Int} (h : OwnL w B v l) (h0 : l ≠ []) : ∃ ad c, v = .slice (some ad) l.length c ∧ OIc w B w.heap.size (some ad) c l := by
  obtain ⟨a, c, rfl, ho⟩ := h.slice
  obtain ⟨b, o, ha, _⟩ := ho.oi 0 (by cases l with | nil => exact absurd rfl h0 | cons _ _ => simp)
  subst ha
  exact ⟨_, _, rfl, ho⟩

end Go.Proofs.YtpioldgpfpmjiaaGreatDoor
