/- Closed facts of this translation: its types. -/
import Derived.Test.YteoiclkipfdgpaaMem
namespace Go.Proofs.Yteoiclkipfdgpaa
open Go.RowKit

theorem undI : Try.prog.underlying 22 = some (.slice 3) := by kernel_rfl
theorem undII : Try.prog.underlying 23 = some (.slice 22) := by kernel_rfl
theorem undInt : Try.prog.underlying 3 = some (.int .i64) := by kernel_rfl
theorem sizeInt (w : World) : (sizeOf 3).run Try.prog w = .ok 1 w := by kernel_rfl
theorem sizeI (w : World) : (sizeOf 22).run Try.prog w = .ok 1 w := by kernel_rfl
theorem infoInt : (Try.prog.info? 3).map (fun i => (i.zero, i.size, i.bytes)) = some (some (.int .i64 0), 1, 8) := by kernel_rfl
theorem infoI : (Try.prog.info? 22).map (fun i => (i.zero, i.size, i.bytes)) = some (some (.slice none 0 0), 1, 24) := by kernel_rfl

theorem idxI {a : Option Addr} {len k b o : Nat} (ha : a = some ⟨b, o, none⟩) (hk : k < len) (cap : Nat) (wx : World) :
    (Instr.indexAt 22 (.slice a len cap) (.int .i64 (k : Int))).run Try.prog wx = .ok (.pointer (some ⟨b, o + k, none⟩)) wx := idx_run undI sizeInt ha hk cap wx
theorem idxII {a : Option Addr} {len k b o : Nat} (ha : a = some ⟨b, o, none⟩) (hk : k < len) (cap : Nat) (wx : World) :
    (Instr.indexAt 23 (.slice a len cap) (.int .i64 (k : Int))).run Try.prog wx = .ok (.pointer (some ⟨b, o + k, none⟩)) wx := idx_run undII sizeI ha hk cap wx

end Go.Proofs.Yteoiclkipfdgpaa
