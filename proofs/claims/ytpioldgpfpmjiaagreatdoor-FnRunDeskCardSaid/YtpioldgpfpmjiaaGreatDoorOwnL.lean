/- Slices of slices of numbers that a call appends to. -/
import Derived.Test.YtpioldgpfpmjiaaGreatDoorOwn
import Derived.Maps.AppendAt
namespace Go.Proofs.YtpioldgpfpmjiaaGreatDoor
open Go.RowKit

def cat2 {α : Type} (n : Nat) (f g : Nat → α) (k : Nat) : α := if k < n then f k else g (k - n)
theorem cat2_lt {α : Type} {n k : Nat} {f g : Nat → α} (h : k < n) : cat2 n f g k = f k := by simp [cat2, h]
theorem cat2_ge {α : Type} {n k : Nat} {f g : Nat → α} (h : n ≤ k) : cat2 n f g k = g (k - n) := by simp [cat2, show ¬ k < n by omega]
theorem app_at {α : Type} {a b : List α} {k : Nat} {r : α} (h : (a ++ b)[k]? = some r) : (k < a.length ∧ a[k]? = some r) ∨ (a.length ≤ k ∧ b[k - a.length]? = some r) := by
  by_cases hk : k < a.length
  · exact .inl ⟨hk, by rwa [List.getElem?_append_left hk] at h⟩
  · exact .inr ⟨by omega, by rwa [List.getElem?_append_right (by omega)] at h⟩
theorem Fam.app {w : World} {lo mid hi : Nat} {A A2 : Nat → Option Addr} {G G2 : Nat → Nat} {mm mm2 : List (List Int)} (h : Fam w lo mid A G mm) (h2 : Fam w mid hi A2 G2 mm2) (hl : lo ≤ mid) (hh : mid ≤ hi) :
    Fam w lo hi (cat2 mm.length A A2) (cat2 mm.length G G2) (mm ++ mm2) := by
  refine ⟨fun k r e => ?_, fun k r e he => ?_, fun j k r r' hjk e e' he he' => ?_⟩
  · rcases app_at e with ⟨hk, e⟩ | ⟨hk, e⟩
    · rw [cat2_lt hk, cat2_lt hk]; exact h.row k r e
    · rw [cat2_ge hk, cat2_ge hk]; exact h2.row _ r e
  · rcases app_at e with ⟨hk, e⟩ | ⟨hk, e⟩
    · rw [cat2_lt hk]; have := h.rlo k r e he; omega
    · rw [cat2_ge hk]; have := h2.rlo _ r e he; omega
  · rcases app_at e with ⟨hj, e⟩ | ⟨hj, e⟩ <;> rcases app_at e' with ⟨hk, e'⟩ | ⟨hk, e'⟩
    · rw [cat2_lt hj, cat2_lt hk]; exact h.dis j k r r' hjk e e' he he'
    · rw [cat2_lt hj, cat2_ge hk]
      have := h.rlo j r e he
      have := h2.rlo _ r' e' he'
      omega
    · omega
    · rw [cat2_ge hj, cat2_ge hk]; exact h2.dis _ _ r r' (by omega) e e' he he'

/-- v owns, from block B on, slices that read as the rows mm; each row lies in a block of its own, none of them v's. -/
def OwnLL (w : World) (B : Nat) (v : Value) (mm : List (List Int)) : Prop :=
  ∃ (xs : List Value) (A : Nat → Option Addr) (C G : Nat → Nat), w.ownsRow B 45 1 v mm.length xs ∧ (∀ k r, mm[k]? = some r → xs[k]? = some (Value.slice (A k) r.length (C k)) ∧ r.length ≤ C k) ∧ Fam w B w.heap.size A G mm ∧
    ∀ g, v.ownBlock = some g → ∀ k r, mm[k]? = some r → r ≠ [] → G k ≠ g
theorem OwnLL.made (w : World) (B : Nat) (hB : B ≤ w.heap.size) : OwnLL (w.alloc (.cells #[] 45)) B (.slice (some ⟨w.heap.size, 0, none⟩) 0 0) [] :=
  ⟨[], fun _ => none, fun _ => 0, fun _ => 0, World.ownsRow_made w #[] 0 hB (by simp [maxLen]) rfl, by simp, Fam.nil _ _ _ _ _, by simp⟩
theorem OwnLL.room (w : World) (B n t : Nat) (ht : t = 45) (hB : B ≤ w.heap.size) (hn : n ≤ maxLen) : OwnLL (w.alloc (.cells (madeCells #[.slice none 0 0] n) t)) B (.slice (some ⟨w.heap.size, 0, none⟩) 0 n) [] := by
  subst ht
  exact ⟨[], fun _ => none, fun _ => 0, fun _ => 0, World.ownsRow_made w _ n hB hn (by simp [madeCells]), by simp, Fam.nil _ _ _ _ _, by simp⟩
theorem OwnLL.below {w w' : World} {B : Nat} {v : Value} {mm : List (List Int)} (h : OwnLL w B v mm) (hb : Below w.heap.size w w') : OwnLL w' B v mm := by
  obtain ⟨xs, A, C, G, h1, h2, h3, h4⟩ := h
  refine ⟨xs, A, C, G, World.ownsRow.kept h1 (row := none) ⟨hb.os, hb.tape, hb.output, hb.size, fun k hk _ => hb.block k hk⟩ (by cases v.ownBlock <;> simp), h2, ?_, h4⟩
  exact (h3.same fun k r e he => hb.block _ (h3.rlo k r e he).2).wide (Nat.le_refl _) hb.size
theorem OwnLL.lt {w : World} {B : Nat} {v : Value} {mm : List (List Int)} (h : OwnLL w B v mm) : ∀ g, v.ownBlock = some g → B ≤ g ∧ g < w.heap.size := by
  obtain ⟨xs, A, C, G, h1, _⟩ := h
  exact World.ownsRow.lt h1
/-- .. as a slice of slices -/
theorem OwnLL.slice {w : World} {B : Nat} {v : Value} {mm : List (List Int)} (h : OwnLL w B v mm) : ∃ a c, v = .slice a mm.length c ∧ OIIc w B w.heap.size a c mm := by
  have hlt := h.lt
  obtain ⟨xs, A, C, G, h1, h2, h3, h4⟩ := h
  rcases h1.2 with ⟨rfl, h0⟩ | ⟨g, cap, cur, rfl, hb, hg, hn, hm, hs, ht⟩
  · have e : mm = [] := List.eq_nil_of_length_eq_zero h0
    subst e
    exact ⟨none, 0, rfl, OII.nil _ _ _ _, by simp⟩
  · refine ⟨_, _, rfl, .inr ⟨g, 0, A, C, G, rfl, hb, (hlt g rfl).2, fun k r e => ?_, fun k r e => (h2 k r e).2, h3, fun k r e he => h4 g rfl k r e he⟩, hn⟩
    have hk := lt_of_at e
    rw [Nat.zero_add, cell_of_row w g k cur _ (0, 0) hg]
    have e2 := (h2 k r e).1
    rw [← ht, List.getElem?_take] at e2
    split at e2
    · simpa using e2
    · cases e2

theorem OwnLL.some {w : World} {B : Nat} {v : Value} {mm : List (List Int)} (h : OwnLL w B v mm) (hv : v ≠ .slice none 0 0) : ∃ ad c, v = .slice (some ad) mm.length c ∧ OIIc w B w.heap.size (some ad) c mm := by
  obtain ⟨a, c, hvs, ho⟩ := h.slice
  obtain ⟨xs, A, C, G, h1, _⟩ := h
  rcases h1.2 with ⟨h2, _⟩ | ⟨g, cap, cur, h2, _⟩
  · exact absurd h2 hv
  · rw [hvs] at h2
    cases h2
    exact ⟨_, _, hvs, ho⟩

/-- append of rows that lie in memory that came later, and what turned by it -/
theorem wpList_appLLg {W0 W : World} {ops : Array Oper} {rest : List Oper} {o : Oper} {a : Act} {Q : Exit → Act → World → Prop} (hgd : o.guard = none) (s t : Operand)
    (ho : o.op = .call { callee := .builtin .append, args := #[s, t], argTypes := #[49, 49] }) (B : Nat) (v : Value) (mm mm2 : List (List Int)) (hs : a.eval s = v) (hown : OwnLL W0 B v mm) (hb : Below W0.heap.size W0 W) (hB : B ≤ W0.heap.size)
    (ad : Addr) (n c : Nat) (hn : n = mm2.length) (hx : a.eval t = .slice (some ad) n c) (A2 : Nat → Option Addr) (C2 G2 : Nat → Nat) (hfam : Fam W W0.heap.size W.heap.size A2 G2 mm2)
    (hcell : ∀ k r, mm2[k]? = some r → W.cell? (ad.add k) = some (.slice (A2 k) r.length (C2 k)) ∧ r.length ≤ C2 k) (hl : mm.length ≤ 1099511627776) (hl2 : mm2.length ≤ 1099511627776)
    (h : ∀ v' w', OwnLL w' B v' (mm ++ mm2) → Below B W w' → Hid (v ≠ .slice none 0 0 → v' ≠ .slice none 0 0) → W.grownBy w' v.ownBlock → (v'.ownBlock = v.ownBlock ∨ v'.ownBlock = some W.heap.size) → wpList Tryz.prog ops Q rest (a.put o.dst v') w') : wpList Tryz.prog ops Q (o :: rest) a W := by
  subst hn
  have hBW := hb.size
  have hlt0 := hown.lt
  obtain ⟨xs, A, C, G, h1, h2, h3, h4⟩ := hown
  have h1' : W.ownsRow B 45 1 v mm.length xs := World.ownsRow.kept h1 (row := none) ⟨hb.os, hb.tape, hb.output, hb.size, fun k hk _ => hb.block k hk⟩ (by cases v.ownBlock <;> simp)
  have h3' : Fam W B W0.heap.size A G mm := h3.same fun k r e he => hb.block _ (h3.rlo k r e he).2
  have hf := h3'.app hfam hB hBW
  have hxl : xs.length = mm.length := by have := h1.1; omega
  obtain ⟨i0, hi, hz0, hz1, hz2⟩ := info_parts infoI
  let news : List Value := (List.range mm2.length).map fun k => Value.slice (A2 k) (mm2.getD k []).length (C2 k)
  have hnl : news.length = mm2.length := by simp [news]
  have hnews : ∀ k r, mm2[k]? = some r → news[k]? = some (Value.slice (A2 k) r.length (C2 k)) := by
    intro k r e
    have hk := lt_of_at e
    simp [news, hk, List.getD]
    rw [(List.getElem?_eq_some_iff.1 e).2]
  refine wpList_append_own_at _ hgd s t 49 ho B 45 i0 (.slice none 0 0) 1 24 undII hi hz0 hz1 hz2 rfl (by decide) v mm.length xs hs h1' ad mm2.length c news hx (by rw [hnl, Nat.mul_one]) ?_ ?_ ?_ ?_ ?_ ?_
  · intro j u hu
    obtain ⟨r, hr⟩ := at_of_lt (show j < mm2.length by rw [← hnl]; exact lt_of_at hu)
    rw [hnews j r hr] at hu
    cases hu
    exact (hcell j r hr).1
  · intro u hu
    simp only [news, List.mem_map] at hu
    obtain ⟨k, _, rfl⟩ := hu
    rfl
  · unfold maxLen; omega
  · omega
  · omega
  · intro v' w' g1 g2 g3 g4
    have hoff : ∀ g, v.ownBlock = some g → ∀ k r, (mm ++ mm2)[k]? = some r → r ≠ [] → cat2 mm.length G G2 k ≠ g := by
      intro g hg k r e he
      rcases app_at e with ⟨hk, e⟩ | ⟨hk, e⟩
      · rw [cat2_lt hk]; exact h4 g hg k r e he
      · rw [cat2_ge hk]
        have := (hlt0 g hg).2
        have := hfam.rlo _ r e he
        omega
    have hf' : Fam w' B W.heap.size (cat2 mm.length A A2) (cat2 mm.length G G2) (mm ++ mm2) := hf.same fun k r e he =>
      g2.block _ (hf.rlo k r e he).2 fun hg => hoff _ hg.symm k r e he rfl
    refine h v' w' ⟨xs ++ news, cat2 mm.length A A2, cat2 mm.length C C2, cat2 mm.length G G2, by rw [List.length_append]; exact g1, fun k r e => ?_, hf'.wide (Nat.le_refl _) g2.size, fun g hg k r e he => ?_⟩ ?_ ?_ g2 g4
    · rcases app_at e with ⟨hk, e⟩ | ⟨hk, e⟩
      · rw [cat2_lt hk, cat2_lt hk, List.getElem?_append_left (by omega)]; exact h2 k r e
      · rw [cat2_ge hk, cat2_ge hk, List.getElem?_append_right (by omega), hxl]; exact ⟨hnews _ r e, (hcell _ r e).2⟩
    · rcases g4 with g4 | g4
      · exact hoff g (by rw [← g4]; exact hg) k r e he
      · rw [g4] at hg
        have := hf.rlo k r e he
        cases hg
        omega
    · exact (Below.refl B W).grown g2 (by omega) fun k hk => (hlt0 k hk).1
    · exact fun hv hv' => hv (g3.1 hv').1

/-- append of rows that lie in memory that came later -/
theorem wpList_appLL {W0 W : World} {ops : Array Oper} {rest : List Oper} {o : Oper} {a : Act} {Q : Exit → Act → World → Prop} (hgd : o.guard = none) (s t : Operand)
    (ho : o.op = .call { callee := .builtin .append, args := #[s, t], argTypes := #[49, 49] }) (B : Nat) (v : Value) (mm mm2 : List (List Int)) (hs : a.eval s = v) (hown : OwnLL W0 B v mm) (hb : Below W0.heap.size W0 W) (hB : B ≤ W0.heap.size)
    (ad : Addr) (n c : Nat) (hn : n = mm2.length) (hx : a.eval t = .slice (some ad) n c) (A2 : Nat → Option Addr) (C2 G2 : Nat → Nat) (hfam : Fam W W0.heap.size W.heap.size A2 G2 mm2)
    (hcell : ∀ k r, mm2[k]? = some r → W.cell? (ad.add k) = some (.slice (A2 k) r.length (C2 k)) ∧ r.length ≤ C2 k) (hl : mm.length ≤ 1099511627776) (hl2 : mm2.length ≤ 1099511627776)
    (h : ∀ v' w', OwnLL w' B v' (mm ++ mm2) → Below B W w' → Hid (v ≠ .slice none 0 0 → v' ≠ .slice none 0 0) → wpList Tryz.prog ops Q rest (a.put o.dst v') w') : wpList Tryz.prog ops Q (o :: rest) a W := by
  exact wpList_appLLg hgd s t ho B v mm mm2 hs hown hb hB ad n c hn hx A2 C2 G2 hfam hcell hl hl2 fun v' w' h1 h2 h3 _ _ => h v' w' h1 h2 h3

/- Slices of slices of numbers that a call appends to, whose rows lie in memory that is not its own. -/
open Go.RowKit

/-- of the blocks that were there those below B and those from lo to hi have not turned -/
structure Kp (B lo hi : Nat) (w w' : World) : Prop where
  os : w'.os = w.os
  tape : w'.tape = w.tape
  output : w'.output = w.output
  size : w.heap.size ≤ w'.heap.size
  block : ∀ k, k < w.heap.size → (k < B ∨ (lo ≤ k ∧ k < hi)) → w'.heap[k]? = w.heap[k]?
theorem Kp.refl (B lo hi : Nat) (w : World) : Kp B lo hi w w := ⟨rfl, rfl, rfl, Nat.le_refl _, fun _ _ _ => rfl⟩
theorem Kp.trans {B lo hi : Nat} {a b c : World} (h : Kp B lo hi a b) (k : Kp B lo hi b c) : Kp B lo hi a c :=
  ⟨k.os.trans h.os, k.tape.trans h.tape, k.output.trans h.output, Nat.le_trans h.size k.size, fun i hi ho => (k.block i (Nat.lt_of_lt_of_le hi h.size) ho).trans (h.block i hi ho)⟩
theorem Kp.ofBelow {B lo hi : Nat} {w w' : World} (h : Below w.heap.size w w') : Kp B lo hi w w' := ⟨h.os, h.tape, h.output, h.size, fun k hk _ => h.block k hk⟩
theorem Kp.below {B lo hi : Nat} {w w' : World} (h : Kp B lo hi w w') (hB : B ≤ w.heap.size) : Below B w w' := ⟨h.os, h.tape, h.output, h.size, fun k hk => h.block k (by omega) (.inl hk)⟩
theorem RI.kp {B lo hi : Nat} {w w' : World} {a : Option Addr} {m : List Int} (h : RI w lo hi a m) (k : Kp B lo hi w w') (hs : hi ≤ w.heap.size) : RI w' lo hi a m := h.same fun j h1 h2 => k.block j (by omega) (.inr ⟨h1, h2⟩)
theorem RII.kp {B lo hi : Nat} {w w' : World} {a : Option Addr} {m : List (List Int)} (h : RII w lo hi a m) (k : Kp B lo hi w w') (hs : hi ≤ w.heap.size) : RII w' lo hi a m := h.same fun j h1 h2 => k.block j (by omega) (.inr ⟨h1, h2⟩)

theorem RIIc.upd {w w' : World} {lo hi p q c : Nat} {a : Option Addr} {mm : List (List Int)} (h : RIIc w lo hi a c mm) (hu : Upd p q w w') (hs : hi ≤ w.heap.size) (hd : hi ≤ p ∨ q ≤ lo) : RIIc w' lo hi a c mm := ⟨h.rii.upd hu hs hd, h.cap⟩

/-- v owns, from block B on, a row of slices that read as mm and lie in blocks lo ≤ b < hi; its own block is none of them. -/
def OwnRR (w : World) (B lo hi : Nat) (v : Value) (mm : List (List Int)) : Prop :=
  ∃ xs : List Value, w.ownsRow B 45 1 v mm.length xs ∧ (∀ (k : Nat) (r : List Int), mm[k]? = some r → ∃ a c, xs[k]? = some (Value.slice a r.length c) ∧ RI w lo hi a r ∧ r.length ≤ c) ∧ ∀ g, v.ownBlock = some g → g < lo ∨ hi ≤ g
theorem OwnRR.made (w : World) (B lo hi : Nat) (hB : B ≤ w.heap.size) (h : w.heap.size < lo ∨ hi ≤ w.heap.size) : OwnRR (w.alloc (.cells #[] 45)) B lo hi (.slice (some ⟨w.heap.size, 0, none⟩) 0 0) [] :=
  ⟨[], World.ownsRow_made w #[] 0 hB (by simp [maxLen]) rfl, by simp, fun g hg => by cases hg; exact h⟩
theorem OwnRR.room (w : World) (B lo hi n t : Nat) (ht : t = 45) (hB : B ≤ w.heap.size) (hn : n ≤ maxLen) (h : w.heap.size < lo ∨ hi ≤ w.heap.size) : OwnRR (w.alloc (.cells (madeCells #[.slice none 0 0] n) t)) B lo hi (.slice (some ⟨w.heap.size, 0, none⟩) 0 n) [] := by
  subst ht
  exact ⟨[], World.ownsRow_made w _ n hB hn (by simp [madeCells]), by simp, fun g hg => by cases hg; exact h⟩
theorem OwnRR.nil (w : World) (B lo hi : Nat) : OwnRR w B lo hi (.slice none 0 0) [] := ⟨[], World.ownsRow_nil _ _ _ _, by simp, fun g hg => by cases hg⟩
theorem OwnRR.lt {w : World} {B lo hi : Nat} {v : Value} {mm : List (List Int)} (h : OwnRR w B lo hi v mm) : ∀ g, v.ownBlock = some g → B ≤ g ∧ g < w.heap.size := by
  obtain ⟨xs, h1, _⟩ := h
  exact World.ownsRow.lt h1
theorem OwnRR.below {w w' : World} {B lo hi : Nat} {v : Value} {mm : List (List Int)} (h : OwnRR w B lo hi v mm) (hb : Below w.heap.size w w') (hs : hi ≤ w.heap.size) : OwnRR w' B lo hi v mm := by
  obtain ⟨xs, h1, h2, h3⟩ := h
  refine ⟨xs, World.ownsRow.kept h1 (row := none) ⟨hb.os, hb.tape, hb.output, hb.size, fun k hk _ => hb.block k hk⟩ (by cases v.ownBlock <;> simp), fun k r e => ?_, h3⟩
  obtain ⟨a, c, e1, e2, e3⟩ := h2 k r e
  exact ⟨a, c, e1, e2.below hb hs, e3⟩
theorem OwnRR.slice {w : World} {B lo hi : Nat} {v : Value} {mm : List (List Int)} (h : OwnRR w B lo hi v mm) (hl : B ≤ lo) (hs : hi ≤ w.heap.size) : ∃ a c, v = .slice a mm.length c ∧ RIIc w B w.heap.size a c mm := by
  have hlt := h.lt
  obtain ⟨xs, h1, h2, h3⟩ := h
  rcases h1.2 with ⟨rfl, h0⟩ | ⟨g, cap, cur, rfl, hb, hg, hn, hm, hx, ht⟩
  · have e : mm = [] := List.eq_nil_of_length_eq_zero h0
    subst e
    exact ⟨none, 0, rfl, RII.nil _ _ _ _, by simp⟩
  · refine ⟨_, _, rfl, fun k hk => ?_, hn⟩
    obtain ⟨r, hr⟩ := at_of_lt hk
    obtain ⟨a, c, e1, e2, e3⟩ := h2 k r hr
    refine ⟨g, 0, a, c, r, rfl, hb, (hlt g rfl).2, hr, ?_, e2.wide hl hs, e3⟩
    rw [Nat.zero_add, cell_of_row w g k cur _ (0, 0) hg]
    rw [← ht, List.getElem?_take] at e1
    split at e1
    · simpa using e1
    · cases e1
theorem OwnRR.some {w : World} {B lo hi : Nat} {v : Value} {mm : List (List Int)} (h : OwnRR w B lo hi v mm) (hl : B ≤ lo) (hs : hi ≤ w.heap.size) (h0 : mm ≠ []) : ∃ ad c, v = .slice (some ad) mm.length c ∧ RIIc w B w.heap.size (some ad) c mm := by
  obtain ⟨a, c, rfl, ho⟩ := h.slice hl hs
  obtain ⟨b, o, _, _, _, ha, _⟩ := ho.rii 0 (by cases mm with | nil => exact absurd rfl h0 | cons _ _ => simp)
  subst ha
  exact ⟨_, _, rfl, ho⟩

/-- append of rows that lie in those blocks -/
theorem run_appRN {wr : World} (ty : TypeId) (B lo hi : Nat) (v : Value) (mm mm2 : List (List Int)) (hown : OwnRR wr B lo hi v mm) (hB : B ≤ wr.heap.size) (hhi : hi ≤ wr.heap.size)
    (ad : Addr) (n c : Nat) (hn : n = mm2.length) (hcell : ∀ (k : Nat) (r : List Int), mm2[k]? = some r → ∃ a' c', wr.cell? (ad.add k) = some (.slice a' r.length c') ∧ RI wr lo hi a' r ∧ r.length ≤ c')
    (hl : mm.length ≤ 1099511627776) (hl2 : mm2.length ≤ 1099511627776) :
    ∃ v' w', (Builtin.append_ #[49, 49] ty #[v, .slice (some ad) n c]).run Tryz.prog wr = .ok v' w' ∧ OwnRR w' B lo hi v' (mm ++ mm2) ∧ Kp B lo hi wr w' ∧ Hid (v ≠ .slice none 0 0 → v' ≠ .slice none 0 0) := by
  subst hn
  have hlt0 := hown.lt
  obtain ⟨xs, h1, h2, h3⟩ := hown
  have hxl : xs.length = mm.length := by have := h1.1; omega
  obtain ⟨i0, hi0, hz0, hz1, hz2⟩ := info_parts infoI
  have hch : ∃ (A2 : Nat → Option Addr) (C2 : Nat → Nat), ∀ k r, mm2[k]? = some r → wr.cell? (ad.add k) = some (.slice (A2 k) r.length (C2 k)) ∧ RI wr lo hi (A2 k) r ∧ r.length ≤ C2 k := by
    refine ⟨fun k => if hk : k < mm2.length then (hcell k (mm2[k]) (by simp [hk])).choose else none, fun k => if hk : k < mm2.length then (hcell k (mm2[k]) (by simp [hk])).choose_spec.choose else 0, fun k r e => ?_⟩
    obtain ⟨hk, rfl⟩ := List.getElem?_eq_some_iff.1 e
    simp only [hk, dif_pos]
    exact (hcell k (mm2[k]) (by simp [hk])).choose_spec.choose_spec
  obtain ⟨A2, C2, hac⟩ := hch
  let news : List Value := (List.range mm2.length).map fun k => Value.slice (A2 k) (mm2.getD k []).length (C2 k)
  have hnl : news.length = mm2.length := by simp [news]
  have hnews : ∀ k r, mm2[k]? = some r → news[k]? = some (Value.slice (A2 k) r.length (C2 k)) := by
    intro k r e
    have hk := lt_of_at e
    simp [news, hk, List.getD]
    rw [(List.getElem?_eq_some_iff.1 e).2]
  obtain ⟨v', w', hr, g1, g2, g3, g4⟩ := run_append_own_at (P := Tryz.prog) wr B 49 ty 45 i0 (.slice none 0 0) 1 24 undII hi0 hz0 hz1 hz2 rfl (by decide) v mm.length xs h1 ad mm2.length c news (by rw [hnl, Nat.mul_one])
    (fun j u hu => by
      obtain ⟨r, hr⟩ := at_of_lt (show j < mm2.length by rw [← hnl]; exact lt_of_at hu)
      rw [hnews j r hr] at hu
      cases hu
      exact (hac j r hr).1)
    (fun u hu => by
      simp only [news, List.mem_map] at hu
      obtain ⟨k, _, rfl⟩ := hu
      rfl)
    (by unfold maxLen; omega) (by omega) hB
  have hkp : Kp B lo hi wr w' := ⟨g2.os, g2.tape, g2.output, g2.size, fun k hk ho => g2.block k hk fun e => by
    have := hlt0 k e.symm
    have := h3 k e.symm
    omega⟩
  refine ⟨v', w', hr, ⟨xs ++ news, by rw [List.length_append]; exact g1, fun k r e => ?_, fun g hg => ?_⟩, hkp, ?_⟩
  · rcases app_at e with ⟨hk, e⟩ | ⟨hk, e⟩
    · obtain ⟨a1, c1, e1, e2, e3⟩ := h2 k r e
      exact ⟨a1, c1, by rw [List.getElem?_append_left (by omega)]; exact e1, e2.kp hkp hhi, e3⟩
    · exact ⟨A2 (k - mm.length), C2 (k - mm.length), by rw [List.getElem?_append_right (by omega), hxl]; exact hnews _ r e, (hac _ r e).2.1.kp hkp hhi, (hac _ r e).2.2⟩
  · rcases g4 with g4 | g4
    · exact h3 g (by rw [← g4]; exact hg)
    · rw [g4] at hg
      cases hg
      exact .inr hhi
  · exact fun hv hv' => hv (g3.1 hv').1
theorem wpList_appRN {wr : World} {ops : Array Oper} {rest : List Oper} {o : Oper} {a : Act} {Q : Exit → Act → World → Prop} (hgd : o.guard = none) (s t : Operand)
    (ho : o.op = .call { callee := .builtin .append, args := #[s, t], argTypes := #[49, 49] }) (B lo hi : Nat) (v : Value) (mm mm2 : List (List Int)) (hs : a.eval s = v) (hown : OwnRR wr B lo hi v mm) (hB : B ≤ wr.heap.size) (hhi : hi ≤ wr.heap.size)
    (ad : Addr) (n c : Nat) (hn : n = mm2.length) (hx : a.eval t = .slice (some ad) n c) (hcell : ∀ (k : Nat) (r : List Int), mm2[k]? = some r → ∃ a' c', wr.cell? (ad.add k) = some (.slice a' r.length c') ∧ RI wr lo hi a' r ∧ r.length ≤ c')
    (hl : mm.length ≤ 1099511627776) (hl2 : mm2.length ≤ 1099511627776)
    (h : ∀ v' w', OwnRR w' B lo hi v' (mm ++ mm2) → Kp B lo hi wr w' → Hid (v ≠ .slice none 0 0 → v' ≠ .slice none 0 0) → wpList Tryz.prog ops Q rest (a.put o.dst v') w') : wpList Tryz.prog ops Q (o :: rest) a wr := by
  obtain ⟨v', w', hr, h1, h2, h3⟩ := run_appRN o.type B lo hi v mm mm2 hown hB hhi ad n c hn hcell hl hl2
  refine wpList_plain hgd fun K' hK' => ?_
  unfold Oper.wp execOp
  simp only [ho, resolve, invoke, builtin, Sem.run_bind, Sem.run_pure, Result.andThen_ok, List.map_toArray, List.map_cons, List.map_nil, hs, hx, hr]
  exact hK' _ _ (h v' w' h1 h2 h3)
/-- .. at a step of a region that draws its order -/
theorem step_appRN {wr : World} {ops : Array Oper} {o : Oper} {a : Act} {K : Act → World → Prop} {Q : Exit → Act → World → Prop} {E : Prop} (hgd : o.guard = none) (s t : Operand)
    (ho : o.op = .call { callee := .builtin .append, args := #[s, t], argTypes := #[49, 49] }) (B lo hi : Nat) (v : Value) (mm mm2 : List (List Int)) (hs : a.eval s = v) (hown : OwnRR wr B lo hi v mm) (hB : B ≤ wr.heap.size) (hhi : hi ≤ wr.heap.size)
    (ad : Addr) (n c : Nat) (hn : n = mm2.length) (hx : a.eval t = .slice (some ad) n c) (hcell : ∀ (k : Nat) (r : List Int), mm2[k]? = some r → ∃ a' c', wr.cell? (ad.add k) = some (.slice a' r.length c') ∧ RI wr lo hi a' r ∧ r.length ≤ c')
    (hl : mm.length ≤ 1099511627776) (hl2 : mm2.length ≤ 1099511627776)
    (h : ∀ v' w', OwnRR w' B lo hi v' (mm ++ mm2) → Kp B lo hi wr w' → Hid (v ≠ .slice none 0 0 → v' ≠ .slice none 0 0) → K (a.put o.dst v') w') : if Region.wanted o (yielded ops a.tmps) = true then Oper.wp Tryz.prog o a wr K Q else E := by
  have hw : Region.wanted o (yielded ops a.tmps) = true := by simp [Region.wanted, hgd]
  rw [if_pos hw]
  obtain ⟨v', w', hr, h1, h2, h3⟩ := run_appRN o.type B lo hi v mm mm2 hown hB hhi ad n c hn hcell hl hl2
  unfold Oper.wp execOp
  simp only [ho, resolve, invoke, builtin, Sem.run_bind, Sem.run_pure, Result.andThen_ok, List.map_toArray, List.map_cons, List.map_nil, hs, hx, hr]
  exact h v' w' h1 h2 h3

/-- .. of one row, out of a box -/
theorem wpList_appR1 {wr : World} {ops : Array Oper} {rest : List Oper} {o : Oper} {a : Act} {Q : Exit → Act → World → Prop} (hgd : o.guard = none) (s t : Operand)
    (ho : o.op = .call { callee := .builtin .append, args := #[s, t], argTypes := #[49, 49] }) (B lo hi : Nat) (v : Value) (mm : List (List Int)) (hs : a.eval s = v) (hown : OwnRR wr B lo hi v mm) (hB : B ≤ wr.heap.size) (hhi : hi ≤ wr.heap.size)
    (r : List Int) (a' : Option Addr) (n c' : Nat) (hn : n = r.length) (hr : RI wr lo hi a' r) (hcap : r.length ≤ c') (nw : Nat) (hx : a.eval t = .slice (some ⟨nw, 0, none⟩) 1 1) (hnw : nw = wr.heap.size) (hl : mm.length ≤ 1099511627776)
    (h : ∀ v' w', OwnRR w' B lo hi v' (mm ++ [r]) → Kp B lo hi wr w' → Hid (v ≠ .slice none 0 0 → v' ≠ .slice none 0 0) → wpList Tryz.prog ops Q rest (a.put o.dst v') w') : wpList Tryz.prog ops Q (o :: rest) a (wr.alloc (.cells #[.slice a' n c'] 45)) := by
  subst hnw hn
  have hbA := (Below.refl wr.heap.size wr).alloc (Nat.le_refl _) (.cells #[.slice a' r.length c'] 45)
  refine wpList_appRN hgd s t ho B lo hi v mm [r] hs (hown.below hbA hhi) (by simp; omega) (by simp; omega) ⟨wr.heap.size, 0, none⟩ 1 1 rfl hx (fun k r' e => ?_) hl (by simp) fun v' w' h1 h2 h3 => h v' w' h1 ((Kp.ofBelow hbA).trans h2) h3
  have hk := lt_of_at e
  obtain rfl : k = 0 := by simpa using hk
  obtain rfl : r = r' := by simpa using e
  refine ⟨a', c', ?_, hr.below hbA hhi, hcap⟩
  have e6 : (⟨wr.heap.size, 0, none⟩ : Addr).add 0 = ⟨wr.heap.size, 0, none⟩ := by unfold Addr.add; split <;> simp_all
  rw [e6, cell_of_row _ wr.heap.size 0 _ 45 (0, 0) (heap_alloc_new wr _)]
  rfl

/-- A call that makes a slice of slices of numbers, all of it its own, and returns a bool beside it. -/
def NewIIB (w : World) (mm : List (List Int)) (b : Bool) (e : Ending) (w' : World) : Prop :=
  ∃ a c, e = .returned (.tuple #[.slice a mm.length c, .bool b]) ∧ OIIc w' w.heap.size w'.heap.size a c mm ∧ Below w.heap.size w w'
theorem NewIIB.none {w w' : World} {l : List (List Int)} {b : Bool} (h : l = [] ∧ b = false) (hb : Below w.heap.size w w') : NewIIB w l b (.returned (.tuple #[.slice none 0 0, .bool false])) w' := by
  obtain ⟨rfl, rfl⟩ := h
  exact ⟨_, _, rfl, OIIc.nil _ _ _ _ _, hb⟩
theorem NewIIB.some {w w' : World} {l l' : List (List Int)} {b : Bool} {a : Option Addr} {c n : Nat} (h : l = l' ∧ b = true) (hn : n = l'.length) (ho : OIIc w' w.heap.size w'.heap.size a c l') (hb : Below w.heap.size w w') :
    NewIIB w l b (.returned (.tuple #[.slice a n c, .bool true])) w' := by
  obtain ⟨rfl, rfl⟩ := h
  subst hn
  exact ⟨_, _, rfl, ho, hb⟩

end Go.Proofs.YtpioldgpfpmjiaaGreatDoor
