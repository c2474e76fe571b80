/- Slices of slices of numbers that a call appends to. -/
import Derived.Test.YtmmebcjebphfcaaOwn
import Derived.Maps.AppendAt
namespace Go.Proofs.Ytmmebcjebphfcaa
open Go.RowKit

def cat2 {α : Type} (n : Nat) (f g : Nat → α) (k : Nat) : α := if k < n then f k else g (k - n)
theorem cat2_lt {α : Type} {n k : Nat} {f g : Nat → α} (h : k < n) : cat2 n f g k = f k := by simp [cat2, h]
theorem cat2_ge {α : Type} {n k : Nat} {f g : Nat → α} (h : n ≤ k) : cat2 n f g k = g (k - n) := by simp [cat2, show ¬ k < n by omega]
theorem app_at {α : Type} {a b : List α} {k : Nat} {r : α} (h : (a ++ b)[k]? = some r) : (k < a.length ∧ a[k]? = some r) ∨ (a.length ≤ k ∧ b[k - a.length]? = some r) := by
  by_cases hk : k < a.length
  · exact .inl ⟨hk, by rwa [List.getElem?_append_left hk] at h⟩
  · exact .inr ⟨by omega, by rwa [List.getElem?_append_right (by omega)] at h⟩
theorem Fam.app {w : World} {lo mid hi : Nat} {A A2 : Nat → Option Addr} {G G2 : Nat → Nat} {mm mm2 : List (List Int)} (h : Fam w lo mid A G mm) (h2 : Fam w mid hi A2 G2 mm2) (hl : lo ≤ mid) (hh : mid ≤ hi) :
    Fam w lo hi (cat2 mm.length A A2) (cat2 mm.length G G2) (mm ++ mm2) := by
  refine ⟨fun k r e => ?_, fun k r e he => ?_, fun j k r r' hjk e e' he he' => ?_⟩
  · rcases app_at e with ⟨hk, e⟩ | ⟨hk, e⟩
    · rw [cat2_lt hk, cat2_lt hk]; exact h.row k r e
    · rw [cat2_ge hk, cat2_ge hk]; exact h2.row _ r e
  · rcases app_at e with ⟨hk, e⟩ | ⟨hk, e⟩
    · rw [cat2_lt hk]; have := h.rlo k r e he; omega
    · rw [cat2_ge hk]; have := h2.rlo _ r e he; omega
  · rcases app_at e with ⟨hj, e⟩ | ⟨hj, e⟩ <;> rcases app_at e' with ⟨hk, e'⟩ | ⟨hk, e'⟩
    · rw [cat2_lt hj, cat2_lt hk]; exact h.dis j k r r' hjk e e' he he'
    · rw [cat2_lt hj, cat2_ge hk]
      have := h.rlo j r e he
      have := h2.rlo _ r' e' he'
      omega
    · omega
    · rw [cat2_ge hj, cat2_ge hk]; exact h2.dis _ _ r r' (by omega) e e' he he'

/-- v owns, from block B on, slices that read as the rows mm; each row lies in a block of its own, none of them v's. -/
def OwnLL (w : World) (B : Nat) (v : Value) (mm : List (List Int)) : Prop :=
  ∃ (xs : List Value) (A : Nat → Option Addr) (C G : Nat → Nat), w.ownsRow B 23 1 v mm.length xs ∧ (∀ k r, mm[k]? = some r → xs[k]? = some (Value.slice (A k) r.length (C k)) ∧ r.length ≤ C k) ∧ Fam w B w.heap.size A G mm ∧
    ∀ g, v.ownBlock = some g → ∀ k r, mm[k]? = some r → r ≠ [] → G k ≠ g
theorem OwnLL.made (w : World) (B : Nat) (hB : B ≤ w.heap.size) : OwnLL (w.alloc (.cells #[] 23)) B (.slice (some ⟨w.heap.size, 0, none⟩) 0 0) [] :=
  ⟨[], fun _ => none, fun _ => 0, fun _ => 0, World.ownsRow_made w #[] 0 hB (by simp [maxLen]) rfl, by simp, Fam.nil _ _ _ _ _, by simp⟩
theorem OwnLL.room (w : World) (B n t : Nat) (ht : t = 23) (hB : B ≤ w.heap.size) (hn : n ≤ maxLen) : OwnLL (w.alloc (.cells (madeCells #[.slice none 0 0] n) t)) B (.slice (some ⟨w.heap.size, 0, none⟩) 0 n) [] := by
  subst ht
  exact ⟨[], fun _ => none, fun _ => 0, fun _ => 0, World.ownsRow_made w _ n hB hn (by simp [madeCells]), by simp, Fam.nil _ _ _ _ _, by simp⟩
theorem OwnLL.below {w w' : World} {B : Nat} {v : Value} {mm : List (List Int)} (h : OwnLL w B v mm) (hb : Below w.heap.size w w') : OwnLL w' B v mm := by
  obtain ⟨xs, A, C, G, h1, h2, h3, h4⟩ := h
  refine ⟨xs, A, C, G, World.ownsRow.kept h1 (row := none) ⟨hb.os, hb.tape, hb.output, hb.size, fun k hk _ => hb.block k hk⟩ (by cases v.ownBlock <;> simp), h2, ?_, h4⟩
  exact (h3.same fun k r e he => hb.block _ (h3.rlo k r e he).2).wide (Nat.le_refl _) hb.size
theorem OwnLL.lt {w : World} {B : Nat} {v : Value} {mm : List (List Int)} (h : OwnLL w B v mm) : ∀ g, v.ownBlock = some g → B ≤ g ∧ g < w.heap.size := by
  obtain ⟨xs, A, C, G, h1, _⟩ := h
  exact World.ownsRow.lt h1
/-- .. as a slice of slices -/
theorem OwnLL.slice {w : World} {B : Nat} {v : Value} {mm : List (List Int)} (h : OwnLL w B v mm) : ∃ a c, v = .slice a mm.length c ∧ OIIc w B w.heap.size a c mm := by
  have hlt := h.lt
  obtain ⟨xs, A, C, G, h1, h2, h3, h4⟩ := h
  rcases h1.2 with ⟨rfl, h0⟩ | ⟨g, cap, cur, rfl, hb, hg, hn, hm, hs, ht⟩
  · have e : mm = [] := List.eq_nil_of_length_eq_zero h0
    subst e
    exact ⟨none, 0, rfl, OII.nil _ _ _ _, by simp⟩
  · refine ⟨_, _, rfl, .inr ⟨g, 0, A, C, G, rfl, hb, (hlt g rfl).2, fun k r e => ?_, fun k r e => (h2 k r e).2, h3, fun k r e he => h4 g rfl k r e he⟩, hn⟩
    have hk := lt_of_at e
    rw [Nat.zero_add, cell_of_row w g k cur _ (0, 0) hg]
    have e2 := (h2 k r e).1
    rw [← ht, List.getElem?_take] at e2
    split at e2
    · simpa using e2
    · cases e2

theorem OwnLL.some {w : World} {B : Nat} {v : Value} {mm : List (List Int)} (h : OwnLL w B v mm) (hv : v ≠ .slice none 0 0) : ∃ ad c, v = .slice (some ad) mm.length c ∧ OIIc w B w.heap.size (some ad) c mm := by
  obtain ⟨a, c, hvs, ho⟩ := h.slice
  obtain ⟨xs, A, C, G, h1, _⟩ := h
  rcases h1.2 with ⟨h2, _⟩ | ⟨g, cap, cur, h2, _⟩
  · exact absurd h2 hv
  · rw [hvs] at h2
    cases h2
    exact ⟨_, _, hvs, ho⟩

/-- append of rows that lie in memory that came later, and what turned by it -/
theorem wpList_appLLg {W0 W : World} {ops : Array Oper} {rest : List Oper} {o : Oper} {a : Act} {Q : Exit → Act → World → Prop} (hgd : o.guard = none) (s t : Operand)
    (ho : o.op = .call { callee := .builtin .append, args := #[s, t], argTypes := #[26, 26] }) (B : Nat) (v : Value) (mm mm2 : List (List Int)) (hs : a.eval s = v) (hown : OwnLL W0 B v mm) (hb : Below W0.heap.size W0 W) (hB : B ≤ W0.heap.size)
    (ad : Addr) (n c : Nat) (hn : n = mm2.length) (hx : a.eval t = .slice (some ad) n c) (A2 : Nat → Option Addr) (C2 G2 : Nat → Nat) (hfam : Fam W W0.heap.size W.heap.size A2 G2 mm2)
    (hcell : ∀ k r, mm2[k]? = some r → W.cell? (ad.add k) = some (.slice (A2 k) r.length (C2 k)) ∧ r.length ≤ C2 k) (hl : mm.length ≤ 1099511627776) (hl2 : mm2.length ≤ 1099511627776)
    (h : ∀ v' w', OwnLL w' B v' (mm ++ mm2) → Below B W w' → Hid (v ≠ .slice none 0 0 → v' ≠ .slice none 0 0) → W.grownBy w' v.ownBlock → (v'.ownBlock = v.ownBlock ∨ v'.ownBlock = some W.heap.size) → wpList Try.prog ops Q rest (a.put o.dst v') w') : wpList Try.prog ops Q (o :: rest) a W := by
  subst hn
  have hBW := hb.size
  have hlt0 := hown.lt
  obtain ⟨xs, A, C, G, h1, h2, h3, h4⟩ := hown
  have h1' : W.ownsRow B 23 1 v mm.length xs := World.ownsRow.kept h1 (row := none) ⟨hb.os, hb.tape, hb.output, hb.size, fun k hk _ => hb.block k hk⟩ (by cases v.ownBlock <;> simp)
  have h3' : Fam W B W0.heap.size A G mm := h3.same fun k r e he => hb.block _ (h3.rlo k r e he).2
  have hf := h3'.app hfam hB hBW
  have hxl : xs.length = mm.length := by have := h1.1; omega
  obtain ⟨i0, hi, hz0, hz1, hz2⟩ := info_parts infoI
  let news : List Value := (List.range mm2.length).map fun k => Value.slice (A2 k) (mm2.getD k []).length (C2 k)
  have hnl : news.length = mm2.length := by simp [news]
  have hnews : ∀ k r, mm2[k]? = some r → news[k]? = some (Value.slice (A2 k) r.length (C2 k)) := by
    intro k r e
    have hk := lt_of_at e
    simp [news, hk, List.getD]
    rw [(List.getElem?_eq_some_iff.1 e).2]
  refine wpList_append_own_at _ hgd s t 26 ho B 23 i0 (.slice none 0 0) 1 24 undII hi hz0 hz1 hz2 rfl (by decide) v mm.length xs hs h1' ad mm2.length c news hx (by rw [hnl, Nat.mul_one]) ?_ ?_ ?_ ?_ ?_ ?_
  · intro j u hu
    obtain ⟨r, hr⟩ := at_of_lt (show j < mm2.length by rw [← hnl]; exact lt_of_at hu)
    rw [hnews j r hr] at hu
    cases hu
    exact (hcell j r hr).1
  · intro u hu
    simp only [news, List.mem_map] at hu
    obtain ⟨k, _, rfl⟩ := hu
    rfl
  · unfold maxLen; omega
  · omega
  · omega
  · intro v' w' g1 g2 g3 g4
    have hoff : ∀ g, v.ownBlock = some g → ∀ k r, (mm ++ mm2)[k]? = some r → r ≠ [] → cat2 mm.length G G2 k ≠ g := by
      intro g hg k r e he
      rcases app_at e with ⟨hk, e⟩ | ⟨hk, e⟩
      · rw [cat2_lt hk]; exact h4 g hg k r e he
      · rw [cat2_ge hk]
        have := (hlt0 g hg).2
        have := hfam.rlo _ r e he
        omega
    have hf' : Fam w' B W.heap.size (cat2 mm.length A A2) (cat2 mm.length G G2) (mm ++ mm2) := hf.same fun k r e he =>
      g2.block _ (hf.rlo k r e he).2 fun hg => hoff _ hg.symm k r e he rfl
    refine h v' w' ⟨xs ++ news, cat2 mm.length A A2, cat2 mm.length C C2, cat2 mm.length G G2, by rw [List.length_append]; exact g1, fun k r e => ?_, hf'.wide (Nat.le_refl _) g2.size, fun g hg k r e he => ?_⟩ ?_ ?_ g2 g4
    · rcases app_at e with ⟨hk, e⟩ | ⟨hk, e⟩
      · rw [cat2_lt hk, cat2_lt hk, List.getElem?_append_left (by omega)]; exact h2 k r e
      · rw [cat2_ge hk, cat2_ge hk, List.getElem?_append_right (by omega), hxl]; exact ⟨hnews _ r e, (hcell _ r e).2⟩
    · rcases g4 with g4 | g4
      · exact hoff g (by rw [← g4]; exact hg) k r e he
      · rw [g4] at hg
        have := hf.rlo k r e he
        cases hg
        omega
    · exact (Below.refl B W).grown g2 (by omega) fun k hk => (hlt0 k hk).1
    · exact fun hv hv' => hv (g3.1 hv').1

/-- append of rows that lie in memory that came later -/
theorem wpList_appLL {W0 W : World} {ops : Array Oper} {rest : List Oper} {o : Oper} {a : Act} {Q : Exit → Act → World → Prop} (hgd : o.guard = none) (s t : Operand)
    (ho : o.op = .call { callee := .builtin .append, args := #[s, t], argTypes := #[26, 26] }) (B : Nat) (v : Value) (mm mm2 : List (List Int)) (hs : a.eval s = v) (hown : OwnLL W0 B v mm) (hb : Below W0.heap.size W0 W) (hB : B ≤ W0.heap.size)
    (ad : Addr) (n c : Nat) (hn : n = mm2.length) (hx : a.eval t = .slice (some ad) n c) (A2 : Nat → Option Addr) (C2 G2 : Nat → Nat) (hfam : Fam W W0.heap.size W.heap.size A2 G2 mm2)
    (hcell : ∀ k r, mm2[k]? = some r → W.cell? (ad.add k) = some (.slice (A2 k) r.length (C2 k)) ∧ r.length ≤ C2 k) (hl : mm.length ≤ 1099511627776) (hl2 : mm2.length ≤ 1099511627776)
    (h : ∀ v' w', OwnLL w' B v' (mm ++ mm2) → Below B W w' → Hid (v ≠ .slice none 0 0 → v' ≠ .slice none 0 0) → wpList Try.prog ops Q rest (a.put o.dst v') w') : wpList Try.prog ops Q (o :: rest) a W := by
  exact wpList_appLLg hgd s t ho B v mm mm2 hs hown hb hB ad n c hn hx A2 C2 G2 hfam hcell hl hl2 fun v' w' h1 h2 h3 _ _ => h v' w' h1 h2 h3

end Go.Proofs.Ytmmebcjebphfcaa
