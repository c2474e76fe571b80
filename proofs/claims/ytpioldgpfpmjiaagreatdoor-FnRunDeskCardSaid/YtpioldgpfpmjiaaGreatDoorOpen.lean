/- A law's arguments, opened: what the reading of each says to the walk. -/
import Derived.Test.YtpioldgpfpmjiaaGreatDoorRows
import Derived.Test.YtpioldgpfpmjiaaGreatDoorFacts
import Derived.ProofKit
import Derived.OpenShut
import Derived.ShutString
import Derived.ChangeOld
import Derived.Below
import Derived.Deep.Matrix
namespace Go.Proofs.YtpioldgpfpmjiaaGreatDoor
open Go.ChangeShapes Go.WideShapes Go.ChangeAt Go.RowKit
open Go.ChangeMaps (open_string shut_string)

theorem own : ownKnob Tryz.prog.godebug = none := by kernel_rfl
theorem laidOut : laidOutB Tryz.prog = true := by kernel_rfl
theorem cellsInt : Tryz.prog.cellsOf 3 = 1 := by kernel_rfl
theorem cellsI : Tryz.prog.cellsOf 45 = 1 := by kernel_rfl
theorem undBool : Tryz.prog.underlying 4 = some .bool := by kernel_rfl
theorem undStr : Tryz.prog.underlying 9 = some .string := by kernel_rfl

theorem addr_add (b o k : Nat) : (⟨b, o, none⟩ : Addr).add k = ⟨b, o + k, none⟩ := by unfold Addr.add; split <;> simp_all
theorem ri_of {w : World} {x : Addr} {zs : List Int} {len : Nat} (hl : len ≤ zs.length) (h : ∀ i, i < zs.length → w.cell? (x.add i) = some (.int .i64 (zs.getD i 0))) :
    RI w 0 w.heap.size (some x) (zs.take len) := by
  intro k hk
  have hk2 : k < len := by simp at hk; omega
  have h00 := h 0 (by omega)
  have h0 := h k (by omega)
  obtain ⟨b, off, spot⟩ := x
  have hspot : spot = none := by simpa [Addr.add] using World.cell?_spot h00
  subst hspot
  have h1 : w.cell? ⟨b, off + k, none⟩ = some (.int .i64 (zs.getD k 0)) := by rw [← addr_add]; exact h0
  refine ⟨b, off, rfl, Nat.zero_le _, World.block_lt_of_cell? w _ h1, zs.getD k 0, ?_, h1⟩
  have hz : k < zs.length := by omega
  rw [List.getElem?_take_of_lt hk2]; simp [List.getD, hz]

section
variable {H : Type} {enc : TypeId × Value → H} {W : World} {base : Nat}
set_option maxRecDepth 100000 in
/-- an argument of type []int -/
theorem arg_I {v : Value} {d : DataW H} {p : List MemPlace} (hv : Value.okWide Tryz.prog W .any base 45 v) (h : DataW.Trod enc Tryz.prog W 0 (fun _ => true) true 45 v d p) :
    ∃ (m : List Int) (a : Option Addr) (c : Nat), v = .slice a m.length c ∧ RI W 0 W.heap.size a m ∧ m.length ≤ 9223372036854775807 := by
  obtain ⟨a, len, cap, rfl⟩ := okWide_slice undI hv
  obtain ⟨fuel, hf⟩ := h
  rcases open_ints undI undInt cellsInt hf with ⟨hcs, _⟩ | ⟨x, l, c, zs, hcs, _, hl, hm, hz, _, hcell, _⟩
  · simp [Value.cells] at hcs
    obtain ⟨rfl, rfl, rfl⟩ := hcs
    exact ⟨[], none, 0, rfl, RI.nil _ _ _ _, by simp⟩
  · simp [Value.cells] at hcs
    obtain ⟨rfl, rfl, rfl⟩ := hcs
    have hz' : zs.length = cap := by simpa using hz
    have hlen : (zs.take len).length = len := by simp; omega
    refine ⟨zs.take len, some x, cap, by rw [hlen], ri_of (by omega) hcell, ?_⟩
    unfold maxLen at hm; omega
set_option maxRecDepth 100000 in
/-- an argument of type [][]int -/
theorem arg_II {v : Value} {d : DataW H} {p : List MemPlace} (hv : Value.okWide Tryz.prog W .any base 49 v) (h : DataW.Trod enc Tryz.prog W 0 (fun _ => true) true 49 v d p) :
    ∃ (m : List (List Int)) (a : Option Addr) (c : Nat), v = .slice a m.length c ∧ RII W 0 W.heap.size a m ∧ m.length ≤ 9223372036854775807 ∧ ∀ r ∈ m, r.length ≤ 9223372036854775807 := by
  obtain ⟨a, len, cap, rfl⟩ := okWide_slice undII hv
  obtain ⟨fuel, hf⟩ := h
  rcases Go.Deep.open_int_rows undII undI undInt cellsI cellsInt hf with ⟨hcs, _⟩ | ⟨x, l, c, A, L, C, Z, hcs, _, hl, hm, _, hrow⟩
  · simp [Value.cells] at hcs
    obtain ⟨rfl, rfl, rfl⟩ := hcs
    exact ⟨[], none, 0, rfl, RII.nil _ _ _ _, by simp, by simp⟩
  · simp [Value.cells] at hcs
    obtain ⟨rfl, rfl, rfl⟩ := hcs
    unfold maxLen at hm
    have hlen : ((List.range len).map fun r => (Z r).take (L r)).length = len := by simp
    refine ⟨(List.range len).map fun r => (Z r).take (L r), some x, cap, by rw [hlen], ?_, by omega, ?_⟩
    · intro k hk
      rw [hlen] at hk
      obtain ⟨h00, _⟩ := hrow 0 (by omega)
      obtain ⟨h0, h2, h3, h4, _, h6, h7⟩ := hrow k (by omega)
      obtain ⟨b, off, spot⟩ := x
      have hspot : spot = none := by simpa [Addr.add] using World.cell?_spot h00
      subst hspot
      have h1 : W.cell? ⟨b, off + k, none⟩ = some (.slice (A k) (L k) (C k)) := by rw [← addr_add]; exact h0
      have hlen2 : ((Z k).take (L k)).length = L k := by simp; omega
      refine ⟨b, off, A k, C k, (Z k).take (L k), rfl, Nat.zero_le _, World.block_lt_of_cell? W _ h1, by simp [hk], by rw [hlen2]; exact h1, ?_, by rw [hlen2]; exact h2⟩
      cases hA : A k with
      | none =>
        have := h6 hA
        rw [show (Z k).take (L k) = [] by rw [List.take_eq_nil_iff]; right; apply List.eq_nil_of_length_eq_zero; omega]
        exact RI.nil _ _ _ _
      | some a' => exact ri_of (by omega) (fun i hi => (h7 a' hA).2 i (by omega))
    · intro r hr
      simp only [List.mem_map, List.mem_range] at hr
      obtain ⟨k, hk, rfl⟩ := hr
      obtain ⟨_, h2, h3, h4, _⟩ := hrow k (by omega)
      unfold maxLen at h3
      simp; omega
set_option maxRecDepth 100000 in
/-- an argument of type int -/
theorem arg_n {v : Value} {d : DataW H} {p : List MemPlace} (hv : Value.okWide Tryz.prog W .any base 3 v) (h : DataW.Trod enc Tryz.prog W 0 (fun _ => true) true 3 v d p) :
    ∃ t : Int, v = .int .i64 t ∧ -9223372036854775808 ≤ t ∧ t ≤ 9223372036854775807 ∧ ∀ W' sp, DataW.Trod enc Tryz.prog W' 0 sp true 3 v d p := by
  obtain ⟨t, rfl, rfl, rfl, wt⟩ := open_int undInt hv h
  have := bounds_i64 wt
  exact ⟨t, rfl, by omega, by omega, fun _ _ => shut_int undInt wt⟩
set_option maxRecDepth 100000 in
/-- an argument of type string -/
theorem arg_s {v : Value} {d : DataW H} {p : List MemPlace} (hv : Value.okWide Tryz.prog W .any base 9 v) (h : DataW.Trod enc Tryz.prog W 0 (fun _ => true) true 9 v d p) :
    ∃ s : ByteArray, v = .string s ∧ s.size ≤ 9223372036854775807 ∧ ∀ W' sp, DataW.Trod enc Tryz.prog W' 0 sp true 9 v d p := by
  obtain ⟨s, rfl, rfl, rfl, hs⟩ := open_string undStr hv h
  have hs2 := hs
  unfold maxLen at hs2
  exact ⟨s, rfl, by omega, fun _ _ => shut_string undStr hs⟩
end

end Go.Proofs.YtpioldgpfpmjiaaGreatDoor
