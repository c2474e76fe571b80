/- Walks: the bans that laws draw. -/
import Derived.Test.YtghhmgapjniplaaRl
import Derived.Test.YtghhmgapjniplaaWe
import Derived.Test.YtghhmgapjniplaaZm
namespace Go.Proofs.Ytghhmgapjniplaa
open Go.RowKit

/-- append of rows out of a box -/
theorem wpList_appXN {wr : World} {ops : Array Oper} {rest : List Oper} {o : Oper} {a : Act} {Q : Exit → Act → World → Prop} (hgd : o.guard = none) (s t : Operand)
    (ho : o.op = .call { callee := .builtin .append, args := #[s, t], argTypes := #[24, 24] }) (B : Nat) (v : Value) (mm mm2 : List (List Int)) (hs : a.eval s = v) (hown : OwnX wr B v mm) (hB : B ≤ wr.heap.size)
    (cs : Array Value) (n : Nat) (hn : n = mm2.length) (hcs : cs.size = n) (hcell : ∀ (k : Nat) (r : List Int), mm2[k]? = some r → ∃ a' c', cs[k]? = some (Value.slice a' r.length c') ∧ r.length ≤ c' ∧ ∃ lo hi, RI wr lo hi a' r ∧ B ≤ lo ∧ hi ≤ wr.heap.size ∧ ∀ g, v.ownBlock = some g → g < lo)
    (nw : Nat) (hx : a.eval t = .slice (some ⟨nw, 0, none⟩) n n) (hnw : nw = wr.heap.size) (hl : mm.length ≤ 1099511627776) (hl2 : mm2.length ≤ 1099511627776)
    (h : ∀ v' w', OwnX w' B v' (mm ++ mm2) → Below B wr w' → wpList Try.prog ops Q rest (a.put o.dst v') w') : wpList Try.prog ops Q (o :: rest) a (wr.alloc (.cells cs 23)) := by
  subst hnw hn
  have hlt0 := hown.lt
  obtain ⟨xs, h1, h2⟩ := hown
  have hxl : xs.length = mm.length := by have := h1.1; omega
  obtain ⟨i0, hi0, hz0, hz1, hz2⟩ := info_parts infoI
  have hbA := (Below.refl wr.heap.size wr).alloc (Nat.le_refl _) (.cells cs 23)
  have hcl : cs.toList.length = mm2.length := by simp [hcs]
  refine wpList_append_own_at _ hgd s t 24 ho B 23 i0 (.slice none 0 0) 1 24 undII hi0 hz0 hz1 hz2 rfl (by decide) v mm.length xs hs (World.ownsRow.alloc h1 _) ⟨wr.heap.size, 0, none⟩ mm2.length mm2.length cs.toList hx (by rw [hcl, Nat.mul_one])
    ?_ ?_ ?_ ?_ ?_ ?_
  · intro j u hu
    have := cell_of_row (wr.alloc (.cells cs 23)) wr.heap.size j cs 23 (0, 0) (heap_alloc_new wr _)
    have e : (⟨wr.heap.size, 0, none⟩ : Addr).add j = ⟨wr.heap.size, j, none⟩ := by unfold Addr.add; split <;> simp_all
    rw [e, this]
    simpa using hu
  · intro u hu
    obtain ⟨k, hk⟩ := List.getElem?_of_mem hu
    obtain ⟨r, hr⟩ := at_of_lt (show k < mm2.length by rw [← hcl]; exact lt_of_at hk)
    obtain ⟨a', c', e, _⟩ := hcell k r hr
    have : cs.toList[k]? = cs[k]? := by simp
    rw [this, e] at hk
    cases hk; rfl
  · unfold maxLen; omega
  · omega
  · simp; omega
  · intro v' w' g1 g2 g3 g4
    have hs2 := g2.size
    simp only [World.size_alloc] at hs2 g4
    have hBw : Below B wr w' := ((Below.refl B wr).alloc hB _).grown g2 (by simp; omega) fun k hk => (hlt0 k hk).1
    have hkeep : ∀ b, b < wr.heap.size → v.ownBlock ≠ some b → w'.heap[b]? = wr.heap[b]? := fun b hb hn => (g2.block b (by simp; omega) fun e => hn e.symm).trans (hbA.block b hb)
    have hnew : ∀ b, b < wr.heap.size → v.ownBlock ≠ some b → v'.ownBlock ≠ some b := fun b hb hn => by
      rcases g4 with g4 | g4
      · rw [g4]; exact hn
      · rw [g4]; intro e; cases e; omega
    refine h v' w' ⟨xs ++ cs.toList, by rw [List.length_append]; exact g1, fun k q e => ?_⟩ hBw
    rcases app_at e with ⟨hk, e⟩ | ⟨hk, e⟩
    · obtain ⟨a1, c1, e1, e2, e3⟩ := h2 k q e
      exact ⟨a1, c1, by rw [List.getElem?_append_left (by omega)]; exact e1, e2, e3.same fun b hb => ⟨⟨hb.1, by omega, hnew b hb.2.1 hb.2.2⟩, hkeep b hb.2.1 hb.2.2⟩⟩
    · obtain ⟨a', c', e1, hcap, lo, hi, hr, hlo, hhi, hoff⟩ := hcell _ q e
      refine ⟨a', c', by rw [List.getElem?_append_right (by omega), hxl]; simpa using e1, hcap, RIp.ofRI (lo := lo) (hi := hi) ?_ fun b hb1 hb2 => ⟨by omega, by omega, ?_⟩⟩
      · exact hr.same fun b hb1 hb2 => hkeep b (by omega) fun e => by have := hoff b e; omega
      · exact hnew b (by omega) fun e => by have := hoff b e; omega

end Go.Proofs.Ytghhmgapjniplaa
