/- Walks: texts of patterns, read. -/
import Derived.Test.YtfhncfbgdjeloaaOwn
import Derived.Test.YtfhncfbgdjeloaaWc
namespace Go.Proofs.Ytfhncfbgdjeloaa
open Go.RowKit

def rdB (c : UInt8) : Int := if c = 46 then -1 else if c < 48 ∨ 57 < c then 4 else (c.toNat : Int) - 48
def rdL (s : ByteArray) : List Int := s.data.toList.map rdB
theorem rdL_len (s : ByteArray) : (rdL s).length = s.size := by simp [rdL]
theorem rdL_snoc (s : ByteArray) {k : Nat} (h : k < s.size) : (rdL s).take (k + 1) = (rdL s).take k ++ [rdB s[k]] := by
  have e : (rdL s)[k]? = some (rdB s[k]) := by
    have h' : k < s.data.toList.length := by simpa using h
    simp only [rdL, List.getElem?_map, List.getElem?_eq_getElem h', Option.map_some]; rfl
  exact take_snoc e

theorem rdB_dot {c : UInt8} (h : c = 46) : rdB c = -1 := by unfold rdB; rw [if_pos h]
theorem rdB_other {c : UInt8} (h : c ≠ 46) (h' : (c.toNat : Int) < 48 ∨ 57 < (c.toNat : Int)) : rdB c = 4 := by
  unfold rdB; rw [if_neg h, if_pos]
  rw [UInt8.lt_iff_toNat_lt, UInt8.lt_iff_toNat_lt]
  simp; omega
theorem rdB_digit {c : UInt8} (h : c ≠ 46) (h' : 48 ≤ (c.toNat : Int)) (h'' : (c.toNat : Int) ≤ 57) : rdB c = (c.toNat : Int) - 48 := by
  unfold rdB; rw [if_neg h, if_neg]
  rw [UInt8.lt_iff_toNat_lt, UInt8.lt_iff_toNat_lt]
  simp; omega
theorem byte_ne {c : UInt8} (h : c ≠ 46) : ((c.toNat : Int) == 46) = false := by
  rw [beq_eq_false_iff_ne]; intro he
  apply h
  apply UInt8.toNat_inj.1
  show c.toNat = 46
  omega

end Go.Proofs.Ytfhncfbgdjeloaa
