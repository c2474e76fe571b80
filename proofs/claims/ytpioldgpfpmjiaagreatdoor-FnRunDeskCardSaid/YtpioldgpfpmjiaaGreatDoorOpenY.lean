/- A law's argument of bytes, opened. -/
import Derived.Test.YtpioldgpfpmjiaaGreatDoorOpen
import Derived.Test.YtpioldgpfpmjiaaGreatDoorRd
namespace Go.Proofs.YtpioldgpfpmjiaaGreatDoor
open Go.ChangeShapes Go.WideShapes Go.ChangeAt Go.RowKit

theorem cellsU8 : Tryz.prog.cellsOf 5 = 1 := by kernel_rfl
theorem wf_u8_b {x : Int} (h : (Lit.int .u8 x).wf = true) : 0 ≤ x ∧ x < 256 := by
  simp [Lit.wf, IntKind.min, IntKind.max, IntKind.bits, IntKind.signed] at h
  omega

section
variable {H : Type} {enc : TypeId × Value → H} {W : World} {base : Nat}
set_option maxRecDepth 100000 in
/-- an argument of type []byte -/
theorem arg_Y {v : Value} {d : DataW H} {p : List MemPlace} (hv : Value.okWide Tryz.prog W .any base 28 v) (h : DataW.Trod enc Tryz.prog W 0 (fun _ => true) true 28 v d p) :
    ∃ (n : Nat) (a : Option Addr) (c : Nat), v = .slice a n c ∧ RB W W.heap.size a n ∧ n ≤ c := by
  obtain ⟨a, len, cap, rfl⟩ := okWide_slice undY hv
  obtain ⟨fuel, hf⟩ := h
  rcases open_ints undY undU8 cellsU8 hf with ⟨hcs, _⟩ | ⟨x, l, c, zs, hcs, _, hl, hm, hz, _, hcell, hwf⟩
  · simp [Value.cells] at hcs
    obtain ⟨rfl, rfl, rfl⟩ := hcs
    exact ⟨0, none, 0, rfl, fun k hk => by omega, Nat.le_refl _⟩
  · simp [Value.cells] at hcs
    obtain ⟨rfl, rfl, rfl⟩ := hcs
    have hz' : zs.length = cap := by simpa using hz
    refine ⟨len, some x, cap, rfl, fun k hk => ?_, hl⟩
    have h0 := hcell 0 (by omega)
    have hk1 := hcell k (by omega)
    obtain ⟨b, off, spot⟩ := x
    have hspot : spot = none := by simpa [Addr.add] using World.cell?_spot h0
    subst hspot
    rw [addr_add] at hk1
    have hb := wf_u8_b (hwf (zs.getD k 0) (by rw [List.getD_eq_getElem?_getD]; obtain ⟨y, hy⟩ := at_of_lt (show k < zs.length by omega); rw [hy]; exact List.mem_of_getElem? hy))
    refine ⟨b, off, (zs.getD k 0).toNat, rfl, World.block_lt_of_cell? W _ hk1, by omega, ?_⟩
    rw [show (((zs.getD k 0).toNat : Nat) : Int) = zs.getD k 0 by omega]
    exact hk1
end

end Go.Proofs.YtpioldgpfpmjiaaGreatDoor
