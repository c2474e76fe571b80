/- strings.Join, by the library's contract. -/
import Derived.Test.YtpioldgpfpmjiaaGreatDoorOwn
import Derived.Shelf.Strings.OnBuilder
namespace Go.Proofs.YtpioldgpfpmjiaaGreatDoor
open Go Go.Shelf Go.RowKit

def joinRen : Ren where
  f := fun x => match x with
    | 156 => 87
    | 165 => 106
    | 166 => 13
    | 169 => 16
    | 240 => 33
    | 241 => 116
    | 276 => 46
    | 277 => 123
    | n => n
  t := fun x => match x with
    | 31 => 22
    | 9 => 9
    | 3 => 3
    | 4 => 4
    | 0 => 0
    | 20 => 20
    | 72 => 35
    | 76 => 38
    | 70 => 33
    | 37 => 28
    | 75 => 37
    | 127 => 65
    | 164 => 77
    | 5 => 5
    | 80 => 41
    | n => n
  g := fun n => n

set_option maxRecDepth 100000 in
theorem joinLays : Lays.n156 Tryz.prog joinRen := by
  constructor <;> first | kernel_rfl | (intro w; kernel_rfl)

set_option maxRecDepth 100000 in
theorem joinExtra : Builder.Extra Tryz.prog joinRen := by
  refine { t5 := ?_, a5 := ?_, z5 := ?_, v5 := ?_, infoByte := ?_, cellsByte := ?_, sizeByte := ?_, neB5 := ?_, toX72 := ?_ } <;> first | kernel_rfl | (intro w; kernel_rfl) | (constructor <;> first | kernel_rfl | (intro w; kernel_rfl)) | decide

theorem x_Join (bk o c : Nat) (xs : List ByteArray) (sep : ByteArray) (w : World) (hcells : ∀ (j : Nat) x, xs[j]? = some x → w.cell? ⟨bk, o + j, none⟩ = some (.string x))
    (hbk : bk < w.heap.size) (hN : xs.length ≤ 140737488355328) (hcap : xs.length ≤ c) (hlen : (Lib.join (xs.map (·.data.toList)) sep.data.toList).length ≤ 140737488355328) :
    Calls Tryz.prog 87 #[.slice (some ⟨bk, o, none⟩) xs.length c, .string sep] w fun e w' => e = .returned (.string ⟨(Lib.join (xs.map (·.data.toList)) sep.data.toList).toArray⟩) ∧ Below w.heap.size w w' :=
  Any.strings_Join joinLays joinExtra bk o c xs sep w hcells hbk hN hcap hlen

end Go.Proofs.YtpioldgpfpmjiaaGreatDoor
