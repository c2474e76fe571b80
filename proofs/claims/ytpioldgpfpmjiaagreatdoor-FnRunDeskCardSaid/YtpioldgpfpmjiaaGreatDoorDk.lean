/- What the row's list gives the walk of the desk: two sentinels, a table of the library. -/
import Derived.Test.YtpioldgpfpmjiaaGreatDoorRows
import Derived.Test.YtpioldgpfpmjiaaGreatDoorOpen
import Derived.Test.YtpioldgpfpmjiaaGreatDoorKq
import Derived.Stop.LaidErr
import Derived.Stop.LaidTwo
import Derived.RowKitTokens
import Derived.Lib.LaidTab
namespace Go.Proofs.YtpioldgpfpmjiaaGreatDoor
open Go.ChangeShapes Go.WideShapes Go.ChangeAt Go.RowKit

theorem laidTl {P : Program} {x : String × DataW Unit} {r : List (String × DataW Unit)} {w : World} (h : laidMet P (x :: r) w) : laidMet P r w := by
  obtain ⟨ps, ⟨g, t, cs, fuel, p, q, h1, h2, h3, h4, h5, e⟩, hn, hr⟩ := h
  refine ⟨q, h5, ?_, fun b off hb => hr b off (by rw [e]; simp [hb])⟩
  rw [e] at hn
  exact (List.nodup_append.1 hn).2.1

theorem gE0 : Tryz.prog.globalNamed "loop.example/coveringtests/impl.errWrong" = some 0 := by kernel_rfl
theorem gE1 : Tryz.prog.globalNamed "loop.example/coveringtests/impl.errWhat" = some 1 := by kernel_rfl
theorem gE0T : (Tryz.prog.globals[0]?).map (·.type) = some 37 := by kernel_rfl
theorem gE1T : (Tryz.prog.globals[1]?).map (·.type) = some 37 := by kernel_rfl
theorem gP : Tryz.prog.globalNamed "internal/strconv.uint64pow10" = some 5 := by kernel_rfl
theorem gPT : (Tryz.prog.globals[5]?).map (·.type) = some 157 := by kernel_rfl
theorem starE : "*" ++ "errors.errorString" = "*errors.errorString" := by decide
theorem rowE (u : TypeId) (h : Tryz.prog.typeName? 3 u = some "*errors.errorString") : u = 165 :=
  typeName_ptr_named (nm := "errors.errorString") (by rw [starE]; kernel_rfl) (by kernel_rfl) (by decide) u (by rw [starE]; exact h)

theorem deskOf {W : World} (h : laidMet Tryz.prog Rows.fnExactRunDeskRow.laid W) : ∃ x0 x1, DeskW W x0 x1 ∧ W.var? Tryz.prog "loop.example/coveringtests/impl.errWrong" = some #[.iface 165 (.pointer (some x0))] ∧ W.var? Tryz.prog "loop.example/coveringtests/impl.errWhat" = some #[.iface 165 (.pointer (some x1))] := by
  have h1 := laidTl h
  have h2 := laidTl h1
  have h3 := laidTl h2
  have h4 := laidTl h3
  have htab : Lib.TabIs Tryz.prog W "internal/strconv.uint64pow10" .u64 Lib.pow10Tab := Lib.tabIs_of_head gP gPT Tryz.underlying157 Tryz.underlying150 (by kernel_rfl) (by kernel_rfl) h2
  obtain ⟨a0, a1, s0, s1, c0, c1, t0, t1, hv0, hv1, hc0, hs0, hz0, hc1, hs1, hz1, hne, hb0, hb1⟩ := laid_sentinels2 h4 gE0 gE0T gE1 gE1T Tryz.underlying37 rowE Tryz.underlying165 Tryz.underlying189 rfl rfl Tryz.underlying9 (by kernel_rfl) (by kernel_rfl)
  exact ⟨a0, a1, ⟨by simpa using World.var?_cell gE0 hv0 0, by simpa using World.var?_cell gE1 hv1 0, hne, ⟨c0, t0, hb0⟩, ⟨c1, t1, hb1⟩, htab⟩, hv0, hv1⟩

/-- both variables, read -/
theorem varsE {H : Type} (enc : TypeId × Value → H) {X : World} {a0 a1 : Addr} (x0 : X.var? Tryz.prog "loop.example/coveringtests/impl.errWrong" = some #[.iface 165 (.pointer (some a0))]) (x1 : X.var? Tryz.prog "loop.example/coveringtests/impl.errWhat" = some #[.iface 165 (.pointer (some a1))]) (sp : Nat → Bool) :
    DataW.TrodVars enc Tryz.prog X sp ["loop.example/coveringtests/impl.errWrong", "loop.example/coveringtests/impl.errWhat"] [tok enc (.iface 165 (.pointer (some a0))), tok enc (.iface 165 (.pointer (some a1)))] [.cell 0 0, .cell 1 0] :=
  vars_read2 enc gE0 gE0T Tryz.underlying37 x0 trivial gE1 gE1T Tryz.underlying37 x1 trivial sp

end Go.Proofs.YtpioldgpfpmjiaaGreatDoor
