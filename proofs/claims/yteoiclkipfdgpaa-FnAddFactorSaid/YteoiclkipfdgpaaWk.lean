/- Walks: texts of patterns, read. -/
import Derived.Test.YteoiclkipfdgpaaOwn
import Derived.Test.YteoiclkipfdgpaaWc
import Derived.Test.YteoiclkipfdgpaaWa
namespace Go.Proofs.Yteoiclkipfdgpaa
open Go.RowKit

def rdB (c : UInt8) : Int := if c = 46 then -1 else if c < 48 ∨ 57 < c then 4 else (c.toNat : Int) - 48
def rdL (s : ByteArray) : List Int := s.data.toList.map rdB
theorem rdL_len (s : ByteArray) : (rdL s).length = s.size := by simp [rdL]
theorem rdL_snoc (s : ByteArray) {k : Nat} (h : k < s.size) : (rdL s).take (k + 1) = (rdL s).take k ++ [rdB s[k]] := by
  have e : (rdL s)[k]? = some (rdB s[k]) := by
    have h' : k < s.data.toList.length := by simpa using h
    simp only [rdL, List.getElem?_map, List.getElem?_eq_getElem h', Option.map_some]; rfl
  exact take_snoc e

theorem rdB_dot {c : UInt8} (h : c = 46) : rdB c = -1 := by unfold rdB; rw [if_pos h]
theorem rdB_other {c : UInt8} (h : c ≠ 46) (h' : (c.toNat : Int) < 48 ∨ 57 < (c.toNat : Int)) : rdB c = 4 := by
  unfold rdB; rw [if_neg h, if_pos]
  rw [UInt8.lt_iff_toNat_lt, UInt8.lt_iff_toNat_lt]
  simp; omega
theorem rdB_digit {c : UInt8} (h : c ≠ 46) (h' : 48 ≤ (c.toNat : Int)) (h'' : (c.toNat : Int) ≤ 57) : rdB c = (c.toNat : Int) - 48 := by
  unfold rdB; rw [if_neg h, if_neg]
  rw [UInt8.lt_iff_toNat_lt, UInt8.lt_iff_toNat_lt]
  simp; omega
theorem byte_ne {c : UInt8} (h : c ≠ 46) : ((c.toNat : Int) == 46) = false := by
  rw [beq_eq_false_iff_ne]; intro he
  apply h
  apply UInt8.toNat_inj.1
  show c.toNat = 46
  omega

/- Walks: ParsePattern. -/
open Go.RowKit

/-- A call that makes a slice of numbers of its own, and tells whether there is one. -/
def NewIB (w : World) (l : List Int) (b : Bool) (e : Ending) (w' : World) : Prop :=
  ∃ a c, e = .returned (.tuple #[.slice a l.length c, .bool b]) ∧ OI w' w.heap.size w'.heap.size a l ∧ Below w.heap.size w w'
def ppB (m : List Int) (s : ByteArray) : Bool := okM m && okP m (rdL s)
def ppL (m : List Int) (s : ByteArray) : List Int := if okM m && okP m (rdL s) then rdL s else []
theorem pp_yes {m : List Int} {s : ByteArray} (h : okM m = true) (h' : okP m (rdL s) = true) : ppL m s = rdL s ∧ ppB m s = true := by unfold ppL ppB; rw [h, h']; exact ⟨rfl, rfl⟩
theorem pp_no {m : List Int} {s : ByteArray} (h : okM m = false ∨ okP m (rdL s) = false) : ppL m s = [] ∧ ppB m s = false := by
  unfold ppL ppB
  rcases h with h | h <;> rw [h] <;> simp
theorem ppL_len (m : List Int) (s : ByteArray) : (ppL m s).length ≤ s.size := by
  unfold ppL
  split
  · rw [rdL_len]; exact Nat.le_refl _
  · exact Nat.zero_le _
theorem NewIB.none {w w' : World} {l : List Int} {b : Bool} (h : l = [] ∧ b = false) (hb : Below w.heap.size w w') : NewIB w l b (.returned (.tuple #[.slice none 0 0, .bool false])) w' := by
  obtain ⟨rfl, rfl⟩ := h
  exact ⟨_, _, rfl, OI.nil _ _ _ _, hb⟩
theorem NewIB.some {w w' : World} {l l' : List Int} {b : Bool} {a : Option Addr} {c n : Nat} (h : l = l' ∧ b = true) (hn : n = l'.length) (ho : OI w' w.heap.size w'.heap.size a l') (hb : Below w.heap.size w w') :
    NewIB w l b (.returned (.tuple #[.slice a n c, .bool true])) w' := by
  obtain ⟨rfl, rfl⟩ := h
  subst hn
  exact ⟨_, _, rfl, ho, hb⟩

/-- what the loop over the letters comes to at one of them -/
theorem pp_letter {c : UInt8} {y : Int} (h1 : 1 ≤ y) (h3 : y ≤ 3) :
    (c = 46 ∧ rdB c = -1 ∧ inR (rdB c) (-1) (y - 1) = true) ∨ (c ≠ 46 ∧ 48 ≤ (c.toNat : Int) ∧ (c.toNat : Int) - 48 < y ∧ rdB c = (c.toNat : Int) - 48 ∧ inR (rdB c) (-1) (y - 1) = true) ∨
    (c ≠ 46 ∧ (c.toNat : Int) < 48 ∧ inR (rdB c) (-1) (y - 1) = false) ∨ (c ≠ 46 ∧ 48 ≤ (c.toNat : Int) ∧ y ≤ (c.toNat : Int) - 48 ∧ inR (rdB c) (-1) (y - 1) = false) := by
  by_cases hc : c = 46
  · have := rdB_dot hc
    exact .inl ⟨hc, this, inR_true.2 (by omega)⟩
  by_cases h48 : 48 ≤ (c.toNat : Int)
  · by_cases hy : (c.toNat : Int) - 48 < y
    · have := rdB_digit hc h48 (by omega)
      exact .inr (.inl ⟨hc, h48, hy, this, inR_true.2 (by omega)⟩)
    · refine .inr (.inr (.inr ⟨hc, h48, by omega, inR_false.2 ?_⟩))
      by_cases h57 : (c.toNat : Int) ≤ 57
      · have := rdB_digit hc h48 h57; omega
      · have := rdB_other hc (.inr (by omega)); omega
  · have := rdB_other hc (.inl (by omega))
    exact .inr (.inr (.inl ⟨hc, by omega, inR_false.2 (by omega)⟩))
theorem rdL_at (s : ByteArray) {k : Nat} (h : k < s.size) : (rdL s)[k]? = some (rdB s[k]) := by
  have h' : k < s.data.toList.length := by simpa using h
  simp only [rdL, List.getElem?_map, List.getElem?_eq_getElem h', Option.map_some]; rfl

end Go.Proofs.Yteoiclkipfdgpaa
