/- A law's argument of bools, opened. -/
import Derived.Test.YtbdbfbobcdepgaaOpen
import Derived.Test.YtbdbfbobcdepgaaVq
import Derived.Deep.Grids
namespace Go.Proofs.Ytbdbfbobcdepgaa
open Go.ChangeShapes Go.WideShapes Go.ChangeAt Go.RowKit

theorem undBoB : Try.prog.underlying 4 = some .bool := by kernel_rfl
theorem cellsBo : Try.prog.cellsOf 4 = 1 := by kernel_rfl

section
variable {H : Type} {enc : TypeId × Value → H} {W : World} {base : Nat}
set_option maxRecDepth 100000 in
/-- an argument of type []bool -/
theorem arg_B {v : Value} {d : DataW H} {p : List MemPlace} (hv : Value.okWide Try.prog W .any base 38 v) (h : DataW.Trod enc Try.prog W 0 (fun _ => true) true 38 v d p) :
    ∃ (m : List Bool) (a : Option Addr) (c : Nat), v = .slice a m.length c ∧ RBo W 0 W.heap.size a m ∧ m.length ≤ 9223372036854775807 := by
  obtain ⟨a, len, cap, rfl⟩ := okWide_slice undB hv
  obtain ⟨fuel, hf⟩ := h
  rcases Go.Deep.open_bools undB undBoB cellsBo hf with ⟨hcs, _⟩ | ⟨x, l, c, Z, hcs, _, hl, hm, _, hcell⟩
  · simp [Value.cells] at hcs
    obtain ⟨rfl, rfl, rfl⟩ := hcs
    exact ⟨[], none, 0, rfl, (OBo.nil _ _ _ _).ri, by simp⟩
  · simp [Value.cells] at hcs
    obtain ⟨rfl, rfl, rfl⟩ := hcs
    unfold maxLen at hm
    have hlen : ((List.range len).map Z).length = len := by simp
    refine ⟨(List.range len).map Z, some x, cap, by rw [hlen], fun k hk => ?_, by omega⟩
    rw [hlen] at hk
    have h0 := hcell 0 (by omega)
    have hk1 := hcell k (by omega)
    obtain ⟨b, off, spot⟩ := x
    have hspot : spot = none := by simpa [Addr.add] using World.cell?_spot h0
    subst hspot
    rw [addr_add] at hk1
    exact ⟨b, off, rfl, Nat.zero_le _, World.block_lt_of_cell? W _ hk1, Z k, by simp [hk], hk1⟩
end

end Go.Proofs.Ytbdbfbobcdepgaa
