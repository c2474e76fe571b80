/- Slices of slices of numbers that a call appends to, whose rows lie in blocks from B on and may be written. -/
import Derived.Test.YtkboggohkhjciaaRd
import Derived.Test.YtkboggohkhjciaaOwnL
namespace Go.Proofs.Ytkboggohkhjciaa
open Go.RowKit

/-- a row of numbers that lies in a block of which P holds -/
def RIz (w : World) (P : Nat → Prop) (a : Option Addr) (m : List Int) : Prop :=
  ∀ k, k < m.length → ∃ b o, a = some ⟨b, o, none⟩ ∧ P b ∧ ∃ x, m[k]? = some x ∧ w.cell? ⟨b, o + k, none⟩ = some (.int .i64 x) ∧ w.frozen? ⟨b, o + k, none⟩ = false
theorem RIz.same {w w' : World} {P Q : Nat → Prop} {a : Option Addr} {m : List Int} (h : RIz w P a m) (hb : ∀ b, P b → Q b ∧ w'.heap[b]? = w.heap[b]?) : RIz w' Q a m := by
  intro k hk
  obtain ⟨b, o, h1, h2, x, h4, h5, h6⟩ := h k hk
  exact ⟨b, o, h1, (hb b h2).1, x, h4, (World.cell?_of_block (w := w) (hb b h2).2).trans h5, (World.frozen?_of_block (w := w) (hb b h2).2).trans h6⟩
theorem RIz.ofOI {w : World} {P : Nat → Prop} {lo hi : Nat} {a : Option Addr} {m : List Int} (h : OI w lo hi a m) (hP : ∀ b, lo ≤ b → b < hi → P b) : RIz w P a m := by
  intro k hk
  obtain ⟨b, o, h1, h2, h3, ⟨x, h4, h5⟩, h6⟩ := h k hk
  exact ⟨b, o, h1, hP b h2 h3, x, h4, h5, h6⟩
theorem RIz.ri {w : World} {P : Nat → Prop} {lo hi : Nat} {a : Option Addr} {m : List Int} (h : RIz w P a m) (hP : ∀ b, P b → lo ≤ b ∧ b < hi) : RI w lo hi a m := by
  intro k hk
  obtain ⟨b, o, h1, h2, x, h4, h5, _⟩ := h k hk
  exact ⟨b, o, h1, (hP b h2).1, (hP b h2).2, x, h4, h5⟩
/-- v owns, from block B on, a row of slices that read as mm; their numbers lie from block B on, too, none in v's own block -/
def OwnZ (w : World) (B : Nat) (v : Value) (mm : List (List Int)) : Prop :=
  ∃ xs : List Value, w.ownsRow B 29 1 v mm.length xs ∧ ∀ (k : Nat) (r : List Int), mm[k]? = some r → ∃ a c, xs[k]? = some (Value.slice a r.length c) ∧ r.length ≤ c ∧ RIz w (fun b => B ≤ b ∧ b < w.heap.size ∧ v.ownBlock ≠ some b) a r
theorem OwnZ.lt {w : World} {B : Nat} {v : Value} {mm : List (List Int)} (h : OwnZ w B v mm) : ∀ g, v.ownBlock = some g → B ≤ g ∧ g < w.heap.size := by
  obtain ⟨xs, h1, _⟩ := h
  exact World.ownsRow.lt h1
theorem OwnZ.made (w : World) (B : Nat) (hB : B ≤ w.heap.size) : OwnZ (w.alloc (.cells #[] 29)) B (.slice (some ⟨w.heap.size, 0, none⟩) 0 0) [] := ⟨[], World.ownsRow_made w #[] 0 hB (by simp [maxLen]) rfl, by simp⟩
theorem OwnZ.same {w w' : World} {B : Nat} {v : Value} {mm : List (List Int)} (h : OwnZ w B v mm) (hs : w.heap.size ≤ w'.heap.size) (hb : ∀ g, B ≤ g → g < w.heap.size → w'.heap[g]? = w.heap[g]?) : OwnZ w' B v mm := by
  have hlt := h.lt
  obtain ⟨xs, ⟨h1, h2⟩, h3⟩ := h
  refine ⟨xs, ⟨h1, ?_⟩, fun k r e => ?_⟩
  · rcases h2 with h2 | ⟨g, cap, cur, rfl, hB, hg, rest⟩
    · exact .inl h2
    · exact .inr ⟨g, cap, cur, rfl, hB, by rw [hb g (hlt g rfl).1 (hlt g rfl).2]; exact hg, rest⟩
  · obtain ⟨a, c, e1, e2, e3⟩ := h3 k r e
    exact ⟨a, c, e1, e2, e3.same fun b hb' => ⟨⟨hb'.1, by omega, hb'.2.2⟩, hb b hb'.1 hb'.2.1⟩⟩
theorem OwnZ.below {w w' : World} {B : Nat} {v : Value} {mm : List (List Int)} (h : OwnZ w B v mm) (hb : Below w.heap.size w w') : OwnZ w' B v mm := h.same hb.size fun g _ h2 => hb.block g h2
theorem OwnZ.upd {w w' : World} {b B : Nat} {v : Value} {mm : List (List Int)} (h : OwnZ w B v mm) (hu : Upd b (b + 1) w w') (hb : b < B) : OwnZ w' B v mm := h.same hu.size fun g h1 h2 => hu.block g h2 (by omega)
theorem OwnZ.upB {w w' : World} {b B : Nat} {v : Value} {mm : List (List Int)} (h : OwnZ w B v mm) (hu : UpB b w.heap.size w w') (hb : b < B) : OwnZ w' B v mm := h.same hu.size fun g h1 h2 => hu.block g h2 h2 (by omega)
theorem OwnZ.riic {w : World} {B : Nat} {v : Value} {mm : List (List Int)} (h : OwnZ w B v mm) : ∃ a c, v = .slice a mm.length c ∧ RIIc w B w.heap.size a c mm := by
  have hlt := h.lt
  obtain ⟨xs, h1, h2⟩ := h
  rcases h1.2 with ⟨rfl, h0⟩ | ⟨g, cap, cur, rfl, hb, hg, hn, hm, hx, ht⟩
  · have e : mm = [] := List.eq_nil_of_length_eq_zero h0
    subst e
    exact ⟨none, 0, rfl, RIIc.nil _ _ _ _ _⟩
  · refine ⟨_, _, rfl, fun k hk => ?_, hn⟩
    obtain ⟨r, hr⟩ := at_of_lt hk
    obtain ⟨a, c, e1, e2, e3⟩ := h2 k r hr
    refine ⟨g, 0, a, c, r, rfl, hb, (hlt g rfl).2, hr, ?_, e3.ri fun b h => ⟨h.1, h.2.1⟩, e2⟩
    rw [Nat.zero_add, cell_of_row w g k cur _ (0, 0) hg]
    rw [← ht, List.getElem?_take] at e1
    split at e1
    · simpa using e1
    · cases e1
theorem OwnZ.ofLL {w : World} {B : Nat} {v : Value} {mm : List (List Int)} (h : OwnLL w B v mm) : OwnZ w B v mm := by
  obtain ⟨xs, A, C, G, h1, h2, h3, h4⟩ := h
  refine ⟨xs, h1, fun k r e => ⟨A k, C k, (h2 k r e).1, (h2 k r e).2, ?_⟩⟩
  by_cases hr : r = []
  · subst hr; intro j hj; simp at hj
  · have hlo := h3.rlo k r e hr
    exact RIz.ofOI (h3.row k r e) fun b hb1 hb2 => by
      obtain rfl : b = G k := by omega
      exact ⟨hlo.1, hlo.2, fun hg => h4 _ hg k r e hr rfl⟩

/-- append of one row, out of a box -/
theorem wpList_appZ {wr : World} {ops : Array Oper} {rest : List Oper} {o : Oper} {a : Act} {Q : Exit → Act → World → Prop} (hgd : o.guard = none) (s t : Operand)
    (ho : o.op = .call { callee := .builtin .append, args := #[s, t], argTypes := #[23, 23] }) (B lo hi : Nat) (v : Value) (mm : List (List Int)) (hs : a.eval s = v) (hown : OwnZ wr B v mm) (hB : B ≤ wr.heap.size)
    (r : List Int) (a' : Option Addr) (n c' : Nat) (hn : n = r.length) (hr : OI wr lo hi a' r) (hcap : r.length ≤ c') (hlo : B ≤ lo) (hhi : hi ≤ wr.heap.size) (hoff : ∀ g, v.ownBlock = some g → g < lo) (nw : Nat) (hx : a.eval t = .slice (some ⟨nw, 0, none⟩) 1 1) (hnw : nw = wr.heap.size) (hl : mm.length ≤ 1099511627776)
    (h : ∀ v' w', OwnZ w' B v' (mm ++ [r]) → Below B wr w' → Hid (v'.ownBlock = v.ownBlock ∨ v'.ownBlock = some (wr.heap.size + 1)) → wpList Try.prog ops Q rest (a.put o.dst v') w') : wpList Try.prog ops Q (o :: rest) a (wr.alloc (.cells #[.slice a' n c'] 29)) := by
  subst hnw hn
  have hlt0 := hown.lt
  obtain ⟨xs, h1, h2⟩ := hown
  have hxl : xs.length = mm.length := by have := h1.1; omega
  obtain ⟨i0, hi0, hz0, hz1, hz2⟩ := info_parts infoI
  have hbA := (Below.refl wr.heap.size wr).alloc (Nat.le_refl _) (.cells #[.slice a' r.length c'] 29)
  refine wpList_append_own_at _ hgd s t 23 ho B 29 i0 (.slice none 0 0) 1 24 undII hi0 hz0 hz1 hz2 rfl (by decide) v mm.length xs hs (World.ownsRow.alloc h1 _) ⟨wr.heap.size, 0, none⟩ 1 1 [.slice a' r.length c'] hx rfl (cell_one_new _ _ _) ?_ ?_ ?_ ?_ ?_
  · intro u hu; simp at hu; subst hu; rfl
  · unfold maxLen; omega
  · omega
  · simp; omega
  · intro v' w' g1 g2 g3 g4
    have hs2 := g2.size
    simp only [World.size_alloc] at hs2 g4
    have hBw : Below B wr w' := ((Below.refl B wr).alloc hB _).grown g2 (by simp; omega) fun k hk => (hlt0 k hk).1
    have hkeep : ∀ b, b < wr.heap.size → v.ownBlock ≠ some b → w'.heap[b]? = wr.heap[b]? := fun b hb hn => (g2.block b (by simp; omega) fun e => hn e.symm).trans (hbA.block b hb)
    have hnew : ∀ b, b < wr.heap.size → v.ownBlock ≠ some b → v'.ownBlock ≠ some b := fun b hb hn => by
      rcases g4 with g4 | g4
      · rw [g4]; exact hn
      · rw [g4]; intro e; cases e; omega
    refine h v' w' ⟨xs ++ [.slice a' r.length c'], by rw [List.length_append]; exact g1, fun k q e => ?_⟩ hBw g4
    rcases app_at e with ⟨hk, e⟩ | ⟨hk, e⟩
    · obtain ⟨a1, c1, e1, e2, e3⟩ := h2 k q e
      exact ⟨a1, c1, by rw [List.getElem?_append_left (by omega)]; exact e1, e2, e3.same fun b hb => ⟨⟨hb.1, by omega, hnew b hb.2.1 hb.2.2⟩, hkeep b hb.2.1 hb.2.2⟩⟩
    · have hk0 := lt_of_at e
      simp at hk0
      have hk1 : k = mm.length := by omega
      subst hk1
      obtain rfl : r = q := by simpa using e
      refine ⟨a', c', by rw [← hxl, List.getElem?_append_right (Nat.le_refl _)]; simp, hcap, RIz.ofOI (lo := lo) (hi := hi) ?_ fun b hb1 hb2 => ⟨by omega, by omega, ?_⟩⟩
      · exact hr.same fun b hb1 hb2 => hkeep b (by omega) fun e => by have := hoff b e; omega
      · exact hnew b (by omega) fun e => by have := hoff b e; omega

theorem OwnZ.base {w : World} {B B' : Nat} {v : Value} {mm : List (List Int)} (h : OwnZ w B v mm) (hB : B' ≤ B) : OwnZ w B' v mm := by
  obtain ⟨xs, ⟨h1, h2⟩, h3⟩ := h
  refine ⟨xs, ⟨h1, ?_⟩, fun k r e => ?_⟩
  · rcases h2 with h2 | ⟨g, cap, cur, e, hg, rest⟩
    · exact .inl h2
    · exact .inr ⟨g, cap, cur, e, by omega, rest⟩
  · obtain ⟨a, c, e1, e2, e3⟩ := h3 k r e
    exact ⟨a, c, e1, e2, e3.same fun b hb => ⟨⟨by omega, hb.2⟩, rfl⟩⟩
theorem OwnZ.cap {w : World} {B n c : Nat} {a : Option Addr} {mm : List (List Int)} (h : OwnZ w B (.slice a n c) mm) : mm.length ≤ c := by
  obtain ⟨a1, c1, e, h1⟩ := h.riic
  cases e
  exact h1.cap

/-- a number is written somewhere: rows of numbers stay rows of numbers -/
theorem RIz.put {w : World} {P : Nat → Prop} {a : Option Addr} {m : List Int} (h : RIz w P a m) (p : Addr) (z : Int) : ∃ m' : List Int, m'.length = m.length ∧ RIz (w.setCell p (.int .i64 z)) P a m' := by
  have hx : ∀ k : Nat, ∃ x' : Int, k < m.length → ∃ b o, a = some ⟨b, o, none⟩ ∧ P b ∧ (w.setCell p (.int .i64 z)).cell? ⟨b, o + k, none⟩ = some (.int .i64 x') ∧ (w.setCell p (.int .i64 z)).frozen? ⟨b, o + k, none⟩ = false := by
    intro k
    by_cases hk : k < m.length
    · obtain ⟨b, o, h1, h2, x, h4, h5, h6⟩ := h k hk
      by_cases hp : p = ⟨b, o + k, none⟩
      · subst hp
        exact ⟨z, fun _ => ⟨b, o, h1, h2, World.cell?_setCell_same _ _ _ h5, by rw [World.frozen?_setCell]; exact h6⟩⟩
      · exact ⟨x, fun _ => ⟨b, o, h1, h2, (World.cell?_setCell_other _ _ _ _ hp).trans h5, by rw [World.frozen?_setCell]; exact h6⟩⟩
    · exact ⟨0, fun h => absurd h hk⟩
  obtain ⟨f, hf⟩ := Classical.axiomOfChoice hx
  refine ⟨(List.range m.length).map f, by simp, fun k hk => ?_⟩
  have hk' : k < m.length := by simpa using hk
  obtain ⟨b, o, h1, h2, h5, h6⟩ := hf k hk'
  exact ⟨b, o, h1, h2, f k, by simp [hk'], h5, h6⟩
/-- .. the rows are as long as they were -/
theorem OwnZ.put {w : World} {B : Nat} {v : Value} {mm : List (List Int)} (h : OwnZ w B v mm) {p : Addr} (z : Int) (hpv : ∀ g, v.ownBlock = some g → p.block ≠ g) :
    ∃ mm' : List (List Int), mm'.length = mm.length ∧ (∀ (k : Nat) (r' : List Int), mm'[k]? = some r' → ∃ r : List Int, mm[k]? = some r ∧ r'.length = r.length) ∧ OwnZ (w.setCell p (.int .i64 z)) B v mm' := by
  have hlt := h.lt
  obtain ⟨xs, ⟨h1, h1'⟩, h2⟩ := h
  have hx : ∀ k : Nat, ∃ r' : List Int, ∀ r : List Int, mm[k]? = some r → r'.length = r.length ∧ ∃ a c, xs[k]? = some (Value.slice a r.length c) ∧ r.length ≤ c ∧ RIz (w.setCell p (.int .i64 z)) (fun b => B ≤ b ∧ b < w.heap.size ∧ v.ownBlock ≠ some b) a r' := by
    intro k
    cases hk : mm[k]? with
    | none => exact ⟨[], fun r hr => by cases hr⟩
    | some r =>
      obtain ⟨a, c, e1, e2, e3⟩ := h2 k r hk
      obtain ⟨r', e4, e5⟩ := e3.put p z
      exact ⟨r', fun q hq => by cases hq; exact ⟨e4, a, c, e1, e2, e5⟩⟩
  obtain ⟨f, hf⟩ := Classical.axiomOfChoice hx
  have hlen : ((List.range mm.length).map f).length = mm.length := by simp
  have hat : ∀ (k : Nat) (r' : List Int), ((List.range mm.length).map f)[k]? = some r' → ∃ r : List Int, mm[k]? = some r ∧ r' = f k := by
    intro k r' hr
    have hk : k < mm.length := by have := lt_of_at hr; simpa using this
    obtain ⟨r, hr2⟩ := at_of_lt hk
    refine ⟨r, hr2, ?_⟩
    have e : ((List.range mm.length).map f)[k]? = some (f k) := by simp [hk]
    rw [e] at hr; cases hr; rfl
  refine ⟨(List.range mm.length).map f, hlen, fun k r' hr => ?_, xs, ⟨by rw [hlen]; exact h1, ?_⟩, fun k r' hr => ?_⟩
  · obtain ⟨r, h3, rfl⟩ := hat k r' hr
    exact ⟨r, h3, (hf k r h3).1⟩
  · rcases h1' with ⟨h3, h4⟩ | ⟨g, cap, cur, rfl, hB, hg, rest⟩
    · exact .inl ⟨h3, by rw [hlen]; exact h4⟩
    · exact .inr ⟨g, cap, cur, by rw [hlen], hB, by rw [Below.heap_setCell _ _ _ _ (fun e => hpv g rfl (by simpa using e.symm))]; exact hg, by rw [hlen]; exact rest⟩
  · obtain ⟨r, h3, rfl⟩ := hat k r' hr
    obtain ⟨e4, a, c, e1, e2, e5⟩ := hf k r h3
    exact ⟨a, c, by rw [e4]; exact e1, by rw [e4]; exact e2, e5.same fun b hb => ⟨⟨hb.1, by simpa using hb.2.1, hb.2.2⟩, rfl⟩⟩

end Go.Proofs.Ytkboggohkhjciaa
