/- Appending a row to a row of one's own, in a region that draws its order. -/
import Derived.Test.YtehoagbpgahopaaYl
import Derived.Test.YtehoagbpgahopaaOwnL
namespace Go.Proofs.Ytehoagbpgahopaa
open Go.RowKit

theorem run_appSg {wr : World} (ty : TypeId) (B : Nat) (v : Value) (l : List Int) (hown : OwnL wr B v l) (k : List Int) (lo hi c : Nat) (ad : Addr) (hk : RI wr lo hi (some ad) k) (hl : l.length ≤ 1099511627776) (hkl : k.length ≤ 1099511627776) (hB : B ≤ wr.heap.size) :
    ∃ v' w', (Builtin.append_ #[23, 23] ty #[v, .slice (some ad) k.length c]).run Try.prog wr = .ok v' w' ∧ OwnL w' B v' (l ++ k) ∧ Below B wr w' ∧ wr.grownBy w' v.ownBlock := by
  obtain ⟨i0, hi0, hz0, hz1, hz2⟩ := info_parts infoInt
  obtain ⟨v', w', hr, g1, g2, _⟩ := run_append_own_at (P := Try.prog) wr B 23 ty 3 i0 (.int .i64 0) 1 8 undI hi0 hz0 hz1 hz2 rfl (by decide) v l.length (ints l) hown ad k.length c (ints k) (by rw [ints_len, Nat.mul_one])
    (fun j u hu => by
      simp only [ints, List.getElem?_map, Option.map_eq_some_iff] at hu
      obtain ⟨x, hx, rfl⟩ := hu
      obtain ⟨b', o', e1, _, _, x', e4, e5⟩ := hk j (lt_of_at hx)
      cases e1
      rw [hx] at e4
      cases e4
      rw [addrAddI]; exact e5)
    (ints_one k) (by unfold maxLen; omega) (by omega) hB
  exact ⟨v', w', hr, by unfold OwnL; rw [ints_app, List.length_append]; exact g1, (Below.refl B wr).grown g2 hB fun k hk => ((World.ownsRow.lt hown) k hk).1, g2⟩
theorem step_appSg {wr : World} {ops : Array Oper} {o : Oper} {a : Act} {K : Act → World → Prop} {Q : Exit → Act → World → Prop} {E : Prop} (hgd : o.guard = none) (s t : Operand)
    (ho : o.op = .call { callee := .builtin .append, args := #[s, t], argTypes := #[23, 23] }) (B : Nat) (v : Value) (l : List Int) (hs : a.eval s = v) (hown : OwnL wr B v l) (k : List Int) (lo hi c n : Nat) (ad : Addr) (hn : n = k.length)
    (hx : a.eval t = .slice (some ad) n c) (hk : RI wr lo hi (some ad) k) (hl : l.length ≤ 1099511627776) (hkl : k.length ≤ 1099511627776) (hB : B ≤ wr.heap.size)
    (h : ∀ v' w', OwnL w' B v' (l ++ k) → Below B wr w' → wr.grownBy w' v.ownBlock → K (a.put o.dst v') w') : if Region.wanted o (yielded ops a.tmps) = true then Oper.wp Try.prog o a wr K Q else E := by
  subst hn
  have hw : Region.wanted o (yielded ops a.tmps) = true := by simp [Region.wanted, hgd]
  rw [if_pos hw]
  obtain ⟨v', w', hr, h1, h2, h3⟩ := run_appSg o.type B v l hown k lo hi c ad hk hl hkl hB
  unfold Oper.wp execOp
  simp only [ho, resolve, invoke, builtin, Sem.run_bind, Sem.run_pure, Result.andThen_ok, List.map_toArray, List.map_cons, List.map_nil, hs, hx, hr]
  exact h v' w' h1 h2 h3

end Go.Proofs.Ytehoagbpgahopaa
