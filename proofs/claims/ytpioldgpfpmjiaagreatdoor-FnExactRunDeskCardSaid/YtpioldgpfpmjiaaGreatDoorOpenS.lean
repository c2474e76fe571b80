/- A law's argument of texts, opened. -/
import Derived.Test.YtpioldgpfpmjiaaGreatDoorOpen
import Derived.Test.YtpioldgpfpmjiaaGreatDoorKq
import Derived.Deep.Strs
namespace Go.Proofs.YtpioldgpfpmjiaaGreatDoor
open Go.ChangeShapes Go.WideShapes Go.ChangeAt Go.RowKit

theorem cellsStr : Tryz.prog.cellsOf 9 = 1 := by kernel_rfl

section
variable {H : Type} {enc : TypeId × Value → H} {W : World} {base : Nat}
set_option maxRecDepth 100000 in
/-- an argument of type []string -/
theorem arg_S {v : Value} {d : DataW H} {p : List MemPlace} (hv : Value.okWide Tryz.prog W .any base 22 v) (h : DataW.Trod enc Tryz.prog W 0 (fun _ => true) true 22 v d p) :
    ∃ (m : List ByteArray) (a : Option Addr) (c : Nat), v = .slice a m.length c ∧ RSt W W.heap.size a m ∧ m.length ≤ 9223372036854775807 ∧ ∀ p ∈ m, p.size ≤ 9223372036854775807 := by
  obtain ⟨a, len, cap, rfl⟩ := okWide_slice undSt hv
  obtain ⟨fuel, hf⟩ := h
  rcases Go.Deep.open_strs undSt undStr cellsStr hf with ⟨hcs, _⟩ | ⟨x, l, c, mm, Sx, hcs, _, hl, hm, hmm, _, hcell⟩
  · simp [Value.cells] at hcs
    obtain ⟨rfl, rfl, rfl⟩ := hcs
    exact ⟨[], none, 0, rfl, fun k p e => by simp at e, by simp, by simp⟩
  · simp [Value.cells] at hcs
    obtain ⟨rfl, rfl, rfl⟩ := hcs
    unfold maxLen at hm
    have hmc : len ≤ mm := by rw [hmm]; split <;> omega
    have hlen : ((List.range len).map Sx).length = len := by simp
    refine ⟨(List.range len).map Sx, some x, cap, by rw [hlen], fun k p e => ?_, by omega, fun p hp => ?_⟩
    · have hk := lt_of_at e
      rw [hlen] at hk
      have h0 := (hcell 0 (by omega)).1
      have hk1 := (hcell k (by omega)).1
      obtain ⟨b, off, spot⟩ := x
      have hspot : spot = none := by simpa [Addr.add] using World.cell?_spot h0
      subst hspot
      rw [addr_add] at hk1
      have e2 : Sx k = p := by simpa [hk] using e
      rw [e2] at hk1
      exact ⟨b, off, rfl, World.block_lt_of_cell? W _ hk1, hk1⟩
    · simp only [List.mem_map, List.mem_range] at hp
      obtain ⟨k, hk, rfl⟩ := hp
      have h2 := (hcell k (by omega)).2
      unfold maxLen at h2
      omega
end

end Go.Proofs.YtpioldgpfpmjiaaGreatDoor
