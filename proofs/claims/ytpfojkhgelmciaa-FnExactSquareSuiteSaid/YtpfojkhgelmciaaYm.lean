/- Walks: DropFactor of the program. -/
import Derived.Test.YtpfojkhgelmciaaYl
import Derived.Test.YtpfojkhgelmciaaYe
import Derived.Test.YtpfojkhgelmciaaYf
namespace Go.Proofs.Ytpfojkhgelmciaa
open Go.RowKit

theorem drB_s {m : List Int} {s : List (List Int)} {f : Int} (h : (okM m && okS m s) = false) : drB m s f = false := by unfold drB; rw [h]; rfl
theorem drB_2 {m : List Int} {s : List (List Int)} {f : Int} (h : m.length < 2) : drB m s f = false := by unfold drB; rw [show decide (2 ≤ m.length) = false from by simp; omega]; simp
theorem drB_f {m : List Int} {s : List (List Int)} {f : Int} (h : inR f 0 ((m.length : Int) - 1) = false) : drB m s f = false := by unfold drB; rw [h]; simp
theorem drB_mk {m : List Int} {s : List (List Int)} {f : Int} (h : (okM m && okS m s) = true) (h2 : 2 ≤ m.length) (hf : inR f 0 ((m.length : Int) - 1) = true) : drB m s f = true := by unfold drB; rw [h, hf, show decide (2 ≤ m.length) = true from by simp; omega]; rfl
theorem dr_take {s : List (List Int)} {fn k : Nat} {r : List Int} (hr : s[k]? = some r) : ((s.map fun r => r.eraseIdx fn).take (k + 1)) = (s.map fun r => r.eraseIdx fn).take k ++ [r.eraseIdx fn] := by
  rw [take_snoc (x := r.eraseIdx fn)]
  rw [List.getElem?_map, hr]; rfl

/- Walks: DropFactor of the document's side; rows appended at a step of a region that draws its order. -/
open Go.RowKit

theorem run_appS {wr : World} (ty : TypeId) (B : Nat) (v : Value) (l : List Int) (hown : OwnL wr B v l) (k : List Int) (lo hi c : Nat) (ad : Addr) (hk : RI wr lo hi (some ad) k) (hl : l.length ≤ 1099511627776) (hkl : k.length ≤ 1099511627776) (hB : B ≤ wr.heap.size) :
    ∃ v' w', (Builtin.append_ #[22, 22] ty #[v, .slice (some ad) k.length c]).run Try.prog wr = .ok v' w' ∧ OwnL w' B v' (l ++ k) ∧ Below B wr w' := by
  obtain ⟨i0, hi0, hz0, hz1, hz2⟩ := info_parts infoInt
  obtain ⟨v', w', hr, g1, g2, _⟩ := run_append_own_at (P := Try.prog) wr B 22 ty 3 i0 (.int .i64 0) 1 8 undI hi0 hz0 hz1 hz2 rfl (by decide) v l.length (ints l) hown ad k.length c (ints k) (by rw [ints_len, Nat.mul_one])
    (fun j u hu => by
      simp only [ints, List.getElem?_map, Option.map_eq_some_iff] at hu
      obtain ⟨x, hx, rfl⟩ := hu
      obtain ⟨b', o', e1, _, _, x', e4, e5⟩ := hk j (lt_of_at hx)
      cases e1
      rw [hx] at e4
      cases e4
      rw [addrAdd]; exact e5)
    (ints_one k) (by unfold maxLen; omega) (by omega) hB
  exact ⟨v', w', hr, by unfold OwnL; rw [ints_app, List.length_append]; exact g1, (Below.refl B wr).grown g2 hB fun k hk => ((World.ownsRow.lt hown) k hk).1⟩
theorem step_appS {wr : World} {ops : Array Oper} {o : Oper} {a : Act} {K : Act → World → Prop} {Q : Exit → Act → World → Prop} {E : Prop} (hgd : o.guard = none) (s t : Operand)
    (ho : o.op = .call { callee := .builtin .append, args := #[s, t], argTypes := #[22, 22] }) (B : Nat) (v : Value) (l : List Int) (hs : a.eval s = v) (hown : OwnL wr B v l) (k : List Int) (lo hi c n : Nat) (ad : Addr) (hn : n = k.length)
    (hx : a.eval t = .slice (some ad) n c) (hk : RI wr lo hi (some ad) k) (hl : l.length ≤ 1099511627776) (hkl : k.length ≤ 1099511627776) (hB : B ≤ wr.heap.size)
    (h : ∀ v' w', OwnL w' B v' (l ++ k) → Below B wr w' → K (a.put o.dst v') w') : if Region.wanted o (yielded ops a.tmps) = true then Oper.wp Try.prog o a wr K Q else E := by
  subst hn
  have hw : Region.wanted o (yielded ops a.tmps) = true := by simp [Region.wanted, hgd]
  rw [if_pos hw]
  obtain ⟨v', w', hr, h1, h2⟩ := run_appS o.type B v l hown k lo hi c ad hk hl hkl hB
  unfold Oper.wp execOp
  simp only [ho, resolve, invoke, builtin, Sem.run_bind, Sem.run_pure, Result.andThen_ok, List.map_toArray, List.map_cons, List.map_nil, hs, hx, hr]
  exact h v' w' h1 h2
theorem run_appLL {W0 W : World} (ty : TypeId) (B : Nat) (v : Value) (mm mm2 : List (List Int)) (hown : OwnLL W0 B v mm) (hb : Below W0.heap.size W0 W) (hB : B ≤ W0.heap.size)
    (ad : Addr) (n c : Nat) (hn : n = mm2.length) (A2 : Nat → Option Addr) (C2 G2 : Nat → Nat) (hfam : Fam W W0.heap.size W.heap.size A2 G2 mm2)
    (hcell : ∀ k r, mm2[k]? = some r → W.cell? (ad.add k) = some (.slice (A2 k) r.length (C2 k)) ∧ r.length ≤ C2 k) (hl : mm.length ≤ 1099511627776) (hl2 : mm2.length ≤ 1099511627776) :
    ∃ v' w', (Builtin.append_ #[23, 23] ty #[v, .slice (some ad) n c]).run Try.prog W = .ok v' w' ∧ OwnLL w' B v' (mm ++ mm2) ∧ Below B W w' := by
  subst hn
  have hBW := hb.size
  have hlt0 := hown.lt
  obtain ⟨xs, A, C, G, h1, h2, h3, h4⟩ := hown
  have h1' : W.ownsRow B 22 1 v mm.length xs := World.ownsRow.kept h1 (row := none) ⟨hb.os, hb.tape, hb.output, hb.size, fun k hk _ => hb.block k hk⟩ (by cases v.ownBlock <;> simp)
  have h3' : Fam W B W0.heap.size A G mm := h3.same fun k r e he => hb.block _ (h3.rlo k r e he).2
  have hf := h3'.app hfam hB hBW
  have hxl : xs.length = mm.length := by have := h1.1; omega
  obtain ⟨i0, hi, hz0, hz1, hz2⟩ := info_parts infoI
  let news : List Value := (List.range mm2.length).map fun k => Value.slice (A2 k) (mm2.getD k []).length (C2 k)
  have hnl : news.length = mm2.length := by simp [news]
  have hnews : ∀ k r, mm2[k]? = some r → news[k]? = some (Value.slice (A2 k) r.length (C2 k)) := by
    intro k r e
    have hk := lt_of_at e
    simp [news, hk, List.getD]
    rw [(List.getElem?_eq_some_iff.1 e).2]
  obtain ⟨v', w', hr, g1, g2, g3, g4⟩ := run_append_own_at (P := Try.prog) W B 23 ty 22 i0 (.slice none 0 0) 1 24 undII hi hz0 hz1 hz2 rfl (by decide) v mm.length xs h1' ad mm2.length c news (by rw [hnl, Nat.mul_one])
    (fun j u hu => by
      obtain ⟨r, hr⟩ := at_of_lt (show j < mm2.length by rw [← hnl]; exact lt_of_at hu)
      rw [hnews j r hr] at hu
      cases hu
      exact (hcell j r hr).1)
    (fun u hu => by
      simp only [news, List.mem_map] at hu
      obtain ⟨k, _, rfl⟩ := hu
      rfl)
    (by unfold maxLen; omega) (by omega) (by omega)
  have hoff : ∀ g, v.ownBlock = some g → ∀ k r, (mm ++ mm2)[k]? = some r → r ≠ [] → cat2 mm.length G G2 k ≠ g := by
    intro g hg k r e he
    rcases app_at e with ⟨hk, e⟩ | ⟨hk, e⟩
    · rw [cat2_lt hk]; exact h4 g hg k r e he
    · rw [cat2_ge hk]
      have := (hlt0 g hg).2
      have := hfam.rlo _ r e he
      omega
  have hf' : Fam w' B W.heap.size (cat2 mm.length A A2) (cat2 mm.length G G2) (mm ++ mm2) := hf.same fun k r e he =>
    g2.block _ (hf.rlo k r e he).2 fun hg => hoff _ hg.symm k r e he rfl
  refine ⟨v', w', hr, ⟨xs ++ news, cat2 mm.length A A2, cat2 mm.length C C2, cat2 mm.length G G2, by rw [List.length_append]; exact g1, fun k r e => ?_, hf'.wide (Nat.le_refl _) g2.size, fun g hg k r e he => ?_⟩, ?_⟩
  · rcases app_at e with ⟨hk, e⟩ | ⟨hk, e⟩
    · rw [cat2_lt hk, cat2_lt hk, List.getElem?_append_left (by omega)]; exact h2 k r e
    · rw [cat2_ge hk, cat2_ge hk, List.getElem?_append_right (by omega), hxl]; exact ⟨hnews _ r e, (hcell _ r e).2⟩
  · rcases g4 with g4 | g4
    · exact hoff g (by rw [← g4]; exact hg) k r e he
    · rw [g4] at hg
      have := hf.rlo k r e he
      cases hg
      omega
  · exact (Below.refl B W).grown g2 (by omega) fun k hk => (hlt0 k hk).1
/-- .. of one row of a call's own, out of a box -/
theorem step_appL1 {W0 W : World} {ops : Array Oper} {o : Oper} {a : Act} {K : Act → World → Prop} {Q : Exit → Act → World → Prop} {E : Prop} (hgd : o.guard = none) (s t : Operand)
    (ho : o.op = .call { callee := .builtin .append, args := #[s, t], argTypes := #[23, 23] }) (B : Nat) (v : Value) (mm : List (List Int)) (hs : a.eval s = v) (hown : OwnLL W0 B v mm) (hb : Below W0.heap.size W0 W) (hB : B ≤ W0.heap.size)
    (r : List Int) (a' : Option Addr) (n c' : Nat) (hn : r.length = n) (hr : OIc W W0.heap.size W.heap.size a' c' r) (nw : Nat) (hx : a.eval t = .slice (some ⟨nw, 0, none⟩) 1 1) (hnw : nw = W.heap.size) (hl : mm.length ≤ 1099511627776)
    (h : ∀ v' w', OwnLL w' B v' (mm ++ [r]) → Below B W w' → K (a.put o.dst v') w') : if Region.wanted o (yielded ops a.tmps) = true then Oper.wp Try.prog o a (W.alloc (.cells #[.slice a' n c'] 22)) K Q else E := by
  subst hnw
  have hO := OII.oneN (t := 22) (c := c') hn hr hb.size (Nat.le_refl _)
  have hb3 := hb.alloc hb.size (.cells #[.slice a' n c'] 22)
  obtain ⟨A3, C3, G3, hf3, hc3⟩ := Fam.ofOII hO
  have hw : Region.wanted o (yielded ops a.tmps) = true := by simp [Region.wanted, hgd]
  rw [if_pos hw]
  obtain ⟨v', w', hrn, h1, h2⟩ := run_appLL (W0 := W0) (W := W.alloc (.cells #[.slice a' n c'] 22)) o.type B v mm [r] hown hb3 hB ⟨W.heap.size, 0, none⟩ 1 1 rfl A3 C3 G3 hf3 hc3 hl (by simp)
  unfold Oper.wp execOp
  simp only [ho, resolve, invoke, builtin, Sem.run_bind, Sem.run_pure, Result.andThen_ok, List.map_toArray, List.map_cons, List.map_nil, hs, hx, hrn]
  refine h v' w' h1 ?_
  exact ((Below.refl B W).alloc (Nat.le_trans hB hb.size) _).trans h2

end Go.Proofs.Ytpfojkhgelmciaa
