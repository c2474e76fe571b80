/- Closed facts of this translation: its types. -/
import Derived.Test.YtpioldgpfpmjiaaGreatDoorMem
namespace Go.Proofs.YtpioldgpfpmjiaaGreatDoor
open Go.RowKit

theorem undI : Tryz.prog.underlying 45 = some (.slice 3) := by kernel_rfl
theorem undII : Tryz.prog.underlying 49 = some (.slice 45) := by kernel_rfl
theorem undInt : Tryz.prog.underlying 3 = some (.int .i64) := by kernel_rfl
theorem sizeInt (w : World) : (sizeOf 3).run Tryz.prog w = .ok 1 w := by kernel_rfl
theorem sizeI (w : World) : (sizeOf 45).run Tryz.prog w = .ok 1 w := by kernel_rfl
theorem infoInt : (Tryz.prog.info? 3).map (fun i => (i.zero, i.size, i.bytes)) = some (some (.int .i64 0), 1, 8) := by kernel_rfl
theorem infoI : (Tryz.prog.info? 45).map (fun i => (i.zero, i.size, i.bytes)) = some (some (.slice none 0 0), 1, 24) := by kernel_rfl

theorem idxI {a : Option Addr} {len k b o : Nat} (ha : a = some ⟨b, o, none⟩) (hk : k < len) (cap : Nat) (wx : World) :
    (Instr.indexAt 45 (.slice a len cap) (.int .i64 (k : Int))).run Tryz.prog wx = .ok (.pointer (some ⟨b, o + k, none⟩)) wx := idx_run undI sizeInt ha hk cap wx
theorem idxII {a : Option Addr} {len k b o : Nat} (ha : a = some ⟨b, o, none⟩) (hk : k < len) (cap : Nat) (wx : World) :
    (Instr.indexAt 49 (.slice a len cap) (.int .i64 (k : Int))).run Tryz.prog wx = .ok (.pointer (some ⟨b, o + k, none⟩)) wx := idx_run undII sizeI ha hk cap wx

end Go.Proofs.YtpioldgpfpmjiaaGreatDoor
