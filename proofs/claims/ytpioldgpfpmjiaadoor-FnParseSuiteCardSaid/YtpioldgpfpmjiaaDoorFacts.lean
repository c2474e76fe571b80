/- Closed facts of this translation: its types. -/
import Derived.Test.YtpioldgpfpmjiaaDoorMem
namespace Go.Proofs.YtpioldgpfpmjiaaDoor
open Go.RowKit

theorem undI : Tryd.prog.underlying 23 = some (.slice 3) := by kernel_rfl
theorem undII : Tryd.prog.underlying 24 = some (.slice 23) := by kernel_rfl
theorem undInt : Tryd.prog.underlying 3 = some (.int .i64) := by kernel_rfl
theorem sizeInt (w : World) : (sizeOf 3).run Tryd.prog w = .ok 1 w := by kernel_rfl
theorem sizeI (w : World) : (sizeOf 23).run Tryd.prog w = .ok 1 w := by kernel_rfl
theorem infoInt : (Tryd.prog.info? 3).map (fun i => (i.zero, i.size, i.bytes)) = some (some (.int .i64 0), 1, 8) := by kernel_rfl
theorem infoI : (Tryd.prog.info? 23).map (fun i => (i.zero, i.size, i.bytes)) = some (some (.slice none 0 0), 1, 24) := by kernel_rfl

theorem idxI {a : Option Addr} {len k b o : Nat} (ha : a = some ⟨b, o, none⟩) (hk : k < len) (cap : Nat) (wx : World) :
    (Instr.indexAt 23 (.slice a len cap) (.int .i64 (k : Int))).run Tryd.prog wx = .ok (.pointer (some ⟨b, o + k, none⟩)) wx := idx_run undI sizeInt ha hk cap wx
theorem idxII {a : Option Addr} {len k b o : Nat} (ha : a = some ⟨b, o, none⟩) (hk : k < len) (cap : Nat) (wx : World) :
    (Instr.indexAt 24 (.slice a len cap) (.int .i64 (k : Int))).run Tryd.prog wx = .ok (.pointer (some ⟨b, o + k, none⟩)) wx := idx_run undII sizeI ha hk cap wx

end Go.Proofs.YtpioldgpfpmjiaaDoor
