/- Slices of slices of numbers that a call appends to, whose rows lie in blocks from B on. -/
import Derived.Test.YtpioldgpfpmjiaaGreatDoorRd
import Derived.Test.YtpioldgpfpmjiaaGreatDoorOwnL
namespace Go.Proofs.YtpioldgpfpmjiaaGreatDoor
open Go.RowKit

/-- a row of numbers that lies in a block of which P holds -/
def RIp (w : World) (P : Nat → Prop) (a : Option Addr) (m : List Int) : Prop :=
  ∀ k, k < m.length → ∃ b o, a = some ⟨b, o, none⟩ ∧ P b ∧ ∃ x, m[k]? = some x ∧ w.cell? ⟨b, o + k, none⟩ = some (.int .i64 x)
theorem RIp.same {w w' : World} {P Q : Nat → Prop} {a : Option Addr} {m : List Int} (h : RIp w P a m) (hb : ∀ b, P b → Q b ∧ w'.heap[b]? = w.heap[b]?) : RIp w' Q a m := by
  intro k hk
  obtain ⟨b, o, h1, h2, x, h4, h5⟩ := h k hk
  exact ⟨b, o, h1, (hb b h2).1, x, h4, (World.cell?_of_block (w := w) (hb b h2).2).trans h5⟩
theorem RIp.ofRI {w : World} {P : Nat → Prop} {lo hi : Nat} {a : Option Addr} {m : List Int} (h : RI w lo hi a m) (hP : ∀ b, lo ≤ b → b < hi → P b) : RIp w P a m := by
  intro k hk
  obtain ⟨b, o, h1, h2, h3, x, h4, h5⟩ := h k hk
  exact ⟨b, o, h1, hP b h2 h3, x, h4, h5⟩
theorem RIp.ri {w : World} {P : Nat → Prop} {lo hi : Nat} {a : Option Addr} {m : List Int} (h : RIp w P a m) (hP : ∀ b, P b → lo ≤ b ∧ b < hi) : RI w lo hi a m := by
  intro k hk
  obtain ⟨b, o, h1, h2, x, h4, h5⟩ := h k hk
  exact ⟨b, o, h1, (hP b h2).1, (hP b h2).2, x, h4, h5⟩
/-- v owns, from block B on, a row of slices that read as mm; their numbers lie from block B on, too, none in v's own block -/
def OwnX (w : World) (B : Nat) (v : Value) (mm : List (List Int)) : Prop :=
  ∃ xs : List Value, w.ownsRow B 45 1 v mm.length xs ∧ ∀ (k : Nat) (r : List Int), mm[k]? = some r → ∃ a c, xs[k]? = some (Value.slice a r.length c) ∧ r.length ≤ c ∧ RIp w (fun b => B ≤ b ∧ b < w.heap.size ∧ v.ownBlock ≠ some b) a r
theorem OwnX.lt {w : World} {B : Nat} {v : Value} {mm : List (List Int)} (h : OwnX w B v mm) : ∀ g, v.ownBlock = some g → B ≤ g ∧ g < w.heap.size := by
  obtain ⟨xs, h1, _⟩ := h
  exact World.ownsRow.lt h1
theorem OwnX.made (w : World) (B : Nat) (hB : B ≤ w.heap.size) : OwnX (w.alloc (.cells #[] 45)) B (.slice (some ⟨w.heap.size, 0, none⟩) 0 0) [] := ⟨[], World.ownsRow_made w #[] 0 hB (by simp [maxLen]) rfl, by simp⟩
theorem OwnX.same {w w' : World} {B : Nat} {v : Value} {mm : List (List Int)} (h : OwnX w B v mm) (hs : w.heap.size ≤ w'.heap.size) (hb : ∀ g, B ≤ g → g < w.heap.size → w'.heap[g]? = w.heap[g]?) : OwnX w' B v mm := by
  have hlt := h.lt
  obtain ⟨xs, ⟨h1, h2⟩, h3⟩ := h
  refine ⟨xs, ⟨h1, ?_⟩, fun k r e => ?_⟩
  · rcases h2 with h2 | ⟨g, cap, cur, rfl, hB, hg, rest⟩
    · exact .inl h2
    · exact .inr ⟨g, cap, cur, rfl, hB, by rw [hb g (hlt g rfl).1 (hlt g rfl).2]; exact hg, rest⟩
  · obtain ⟨a, c, e1, e2, e3⟩ := h3 k r e
    exact ⟨a, c, e1, e2, e3.same fun b hb' => ⟨⟨hb'.1, by omega, hb'.2.2⟩, hb b hb'.1 hb'.2.1⟩⟩
theorem OwnX.below {w w' : World} {B : Nat} {v : Value} {mm : List (List Int)} (h : OwnX w B v mm) (hb : Below w.heap.size w w') : OwnX w' B v mm := h.same hb.size fun g _ h2 => hb.block g h2
theorem OwnX.upd {w w' : World} {b B : Nat} {v : Value} {mm : List (List Int)} (h : OwnX w B v mm) (hu : Upd b (b + 1) w w') (hb : b < B) : OwnX w' B v mm := h.same hu.size fun g h1 h2 => hu.block g h2 (by omega)
theorem OwnX.upB {w w' : World} {b B : Nat} {v : Value} {mm : List (List Int)} (h : OwnX w B v mm) (hu : UpB b w.heap.size w w') (hb : b < B) : OwnX w' B v mm := h.same hu.size fun g h1 h2 => hu.block g h2 h2 (by omega)
theorem OwnX.riic {w : World} {B : Nat} {v : Value} {mm : List (List Int)} (h : OwnX w B v mm) : ∃ a c, v = .slice a mm.length c ∧ RIIc w B w.heap.size a c mm := by
  have hlt := h.lt
  obtain ⟨xs, h1, h2⟩ := h
  rcases h1.2 with ⟨rfl, h0⟩ | ⟨g, cap, cur, rfl, hb, hg, hn, hm, hx, ht⟩
  · have e : mm = [] := List.eq_nil_of_length_eq_zero h0
    subst e
    exact ⟨none, 0, rfl, RIIc.nil _ _ _ _ _⟩
  · refine ⟨_, _, rfl, fun k hk => ?_, hn⟩
    obtain ⟨r, hr⟩ := at_of_lt hk
    obtain ⟨a, c, e1, e2, e3⟩ := h2 k r hr
    refine ⟨g, 0, a, c, r, rfl, hb, (hlt g rfl).2, hr, ?_, e3.ri fun b h => ⟨h.1, h.2.1⟩, e2⟩
    rw [Nat.zero_add, cell_of_row w g k cur _ (0, 0) hg]
    rw [← ht, List.getElem?_take] at e1
    split at e1
    · simpa using e1
    · cases e1
theorem OwnX.ofLL {w : World} {B : Nat} {v : Value} {mm : List (List Int)} (h : OwnLL w B v mm) : OwnX w B v mm := by
  obtain ⟨xs, A, C, G, h1, h2, h3, h4⟩ := h
  refine ⟨xs, h1, fun k r e => ⟨A k, C k, (h2 k r e).1, (h2 k r e).2, ?_⟩⟩
  by_cases hr : r = []
  · subst hr; intro j hj; simp at hj
  · have hlo := h3.rlo k r e hr
    exact RIp.ofRI (h3.row k r e).ri fun b hb1 hb2 => by
      obtain rfl : b = G k := by omega
      exact ⟨hlo.1, hlo.2, fun hg => h4 _ hg k r e hr rfl⟩
theorem OwnX.ofRR {w : World} {B lo hi : Nat} {v : Value} {mm : List (List Int)} (h : OwnRR w B lo hi v mm) (hl : B ≤ lo) (hh : hi ≤ w.heap.size) : OwnX w B v mm := by
  obtain ⟨xs, h1, h2, h3⟩ := h
  refine ⟨xs, h1, fun k r e => ?_⟩
  obtain ⟨a, c, e1, e2, e3⟩ := h2 k r e
  exact ⟨a, c, e1, e3, RIp.ofRI e2 fun b hb1 hb2 => ⟨by omega, by omega, fun hg => by have := h3 b hg; omega⟩⟩

/-- append of one row, out of a box -/
theorem wpList_appX {wr : World} {ops : Array Oper} {rest : List Oper} {o : Oper} {a : Act} {Q : Exit → Act → World → Prop} (hgd : o.guard = none) (s t : Operand)
    (ho : o.op = .call { callee := .builtin .append, args := #[s, t], argTypes := #[49, 49] }) (B lo hi : Nat) (v : Value) (mm : List (List Int)) (hs : a.eval s = v) (hown : OwnX wr B v mm) (hB : B ≤ wr.heap.size)
    (r : List Int) (a' : Option Addr) (n c' : Nat) (hn : n = r.length) (hr : RI wr lo hi a' r) (hcap : r.length ≤ c') (hlo : B ≤ lo) (hhi : hi ≤ wr.heap.size) (hoff : ∀ g, v.ownBlock = some g → g < lo) (nw : Nat) (hx : a.eval t = .slice (some ⟨nw, 0, none⟩) 1 1) (hnw : nw = wr.heap.size) (hl : mm.length ≤ 1099511627776)
    (h : ∀ v' w', OwnX w' B v' (mm ++ [r]) → Below B wr w' → Hid (v'.ownBlock = v.ownBlock ∨ v'.ownBlock = some (wr.heap.size + 1)) → wpList Tryz.prog ops Q rest (a.put o.dst v') w') : wpList Tryz.prog ops Q (o :: rest) a (wr.alloc (.cells #[.slice a' n c'] 45)) := by
  subst hnw hn
  have hlt0 := hown.lt
  obtain ⟨xs, h1, h2⟩ := hown
  have hxl : xs.length = mm.length := by have := h1.1; omega
  obtain ⟨i0, hi0, hz0, hz1, hz2⟩ := info_parts infoI
  have hbA := (Below.refl wr.heap.size wr).alloc (Nat.le_refl _) (.cells #[.slice a' r.length c'] 45)
  refine wpList_append_own_at _ hgd s t 49 ho B 45 i0 (.slice none 0 0) 1 24 undII hi0 hz0 hz1 hz2 rfl (by decide) v mm.length xs hs (World.ownsRow.alloc h1 _) ⟨wr.heap.size, 0, none⟩ 1 1 [.slice a' r.length c'] hx rfl (cell_one_new _ _ _) ?_ ?_ ?_ ?_ ?_
  · intro u hu; simp at hu; subst hu; rfl
  · unfold maxLen; omega
  · omega
  · simp; omega
  · intro v' w' g1 g2 g3 g4
    have hs2 := g2.size
    simp only [World.size_alloc] at hs2 g4
    have hBw : Below B wr w' := ((Below.refl B wr).alloc hB _).grown g2 (by simp; omega) fun k hk => (hlt0 k hk).1
    have hkeep : ∀ b, b < wr.heap.size → v.ownBlock ≠ some b → w'.heap[b]? = wr.heap[b]? := fun b hb hn => (g2.block b (by simp; omega) fun e => hn e.symm).trans (hbA.block b hb)
    have hnew : ∀ b, b < wr.heap.size → v.ownBlock ≠ some b → v'.ownBlock ≠ some b := fun b hb hn => by
      rcases g4 with g4 | g4
      · rw [g4]; exact hn
      · rw [g4]; intro e; cases e; omega
    refine h v' w' ⟨xs ++ [.slice a' r.length c'], by rw [List.length_append]; exact g1, fun k q e => ?_⟩ hBw g4
    rcases app_at e with ⟨hk, e⟩ | ⟨hk, e⟩
    · obtain ⟨a1, c1, e1, e2, e3⟩ := h2 k q e
      exact ⟨a1, c1, by rw [List.getElem?_append_left (by omega)]; exact e1, e2, e3.same fun b hb => ⟨⟨hb.1, by omega, hnew b hb.2.1 hb.2.2⟩, hkeep b hb.2.1 hb.2.2⟩⟩
    · have hk0 := lt_of_at e
      simp at hk0
      have hk1 : k = mm.length := by omega
      subst hk1
      obtain rfl : r = q := by simpa using e
      refine ⟨a', c', by rw [← hxl, List.getElem?_append_right (Nat.le_refl _)]; simp, hcap, RIp.ofRI (lo := lo) (hi := hi) ?_ fun b hb1 hb2 => ⟨by omega, by omega, ?_⟩⟩
      · exact hr.same fun b hb1 hb2 => hkeep b (by omega) fun e => by have := hoff b e; omega
      · exact hnew b (by omega) fun e => by have := hoff b e; omega

theorem OwnX.base {w : World} {B B' : Nat} {v : Value} {mm : List (List Int)} (h : OwnX w B v mm) (hB : B' ≤ B) : OwnX w B' v mm := by
  obtain ⟨xs, ⟨h1, h2⟩, h3⟩ := h
  refine ⟨xs, ⟨h1, ?_⟩, fun k r e => ?_⟩
  · rcases h2 with h2 | ⟨g, cap, cur, e, hg, rest⟩
    · exact .inl h2
    · exact .inr ⟨g, cap, cur, e, by omega, rest⟩
  · obtain ⟨a, c, e1, e2, e3⟩ := h3 k r e
    exact ⟨a, c, e1, e2, e3.same fun b hb => ⟨⟨by omega, hb.2⟩, rfl⟩⟩
theorem OwnX.cap {w : World} {B n c : Nat} {a : Option Addr} {mm : List (List Int)} (h : OwnX w B (.slice a n c) mm) : mm.length ≤ c := by
  obtain ⟨a1, c1, e, h1⟩ := h.riic
  cases e
  exact h1.cap

end Go.Proofs.YtpioldgpfpmjiaaGreatDoor
