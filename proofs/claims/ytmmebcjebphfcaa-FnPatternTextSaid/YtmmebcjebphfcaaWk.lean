/- Walks: texts of patterns, read. -/
import Derived.Test.YtmmebcjebphfcaaOwn
import Derived.Test.YtmmebcjebphfcaaWc
namespace Go.Proofs.Ytmmebcjebphfcaa
open Go.RowKit

def rdB (c : UInt8) : Int := if c = 46 then -1 else if c < 48 ∨ 57 < c then 4 else (c.toNat : Int) - 48
def rdL (s : ByteArray) : List Int := s.data.toList.map rdB
theorem rdL_len (s : ByteArray) : (rdL s).length = s.size := by simp [rdL]
theorem rdL_snoc (s : ByteArray) {k : Nat} (h : k < s.size) : (rdL s).take (k + 1) = (rdL s).take k ++ [rdB s[k]] := by
  have e : (rdL s)[k]? = some (rdB s[k]) := by
    have h' : k < s.data.toList.length := by simpa using h
    simp only [rdL, List.getElem?_map, List.getElem?_eq_getElem h', Option.map_some]; rfl
  exact take_snoc e

theorem rdB_dot {c : UInt8} (h : c = 46) : rdB c = -1 := by unfold rdB; rw [if_pos h]
theorem rdB_other {c : UInt8} (h : c ≠ 46) (h' : (c.toNat : Int) < 48 ∨ 57 < (c.toNat : Int)) : rdB c = 4 := by
  unfold rdB; rw [if_neg h, if_pos]
  rw [UInt8.lt_iff_toNat_lt, UInt8.lt_iff_toNat_lt]
  simp; omega
theorem rdB_digit {c : UInt8} (h : c ≠ 46) (h' : 48 ≤ (c.toNat : Int)) (h'' : (c.toNat : Int) ≤ 57) : rdB c = (c.toNat : Int) - 48 := by
  unfold rdB; rw [if_neg h, if_neg]
  rw [UInt8.lt_iff_toNat_lt, UInt8.lt_iff_toNat_lt]
  simp; omega
theorem byte_ne {c : UInt8} (h : c ≠ 46) : ((c.toNat : Int) == 46) = false := by
  rw [beq_eq_false_iff_ne]; intro he
  apply h
  apply UInt8.toNat_inj.1
  show c.toNat = 46
  omega

set_option maxHeartbeats 1000000 in
theorem s_readDigits {s : ByteArray} {w : World} (hs : s.size ≤ 1048576) :
    Calls Try.prog 97 #[.string s] w (NewI w (rdL s)) := by
  have hst := OwnL.made w w.heap.size (Nat.le_refl _)
  go_enter Try.func97, Try.ntmps97
  go_wp2
  go_loopw [3, 4] (fun v i wr => ∃ (k : Nat) (l : List Int), k ≤ s.size ∧ i = .int .i64 k ∧ l.length ≤ k ∧ OwnL wr w.heap.size v l ∧ Hid (l = (rdL s).take k) ∧ Below w.heap.size w wr) (fun _ i _ => s.size - (intOf i).toNat)
  case atStart => exact ⟨0, [], Nat.zero_le _, rfl, Nat.le_refl _, hst, by simp [Hid], (Below.refl _ _).alloc (Nat.le_refl _) _⟩
  case round =>
    obtain ⟨k, l, hk, rfl, hlk, hown, hl, hBl⟩ := hrel
    have hBs := hBl.size
    clear hst
    by_cases hlt : k < s.size
    · have hsn := Lib.hid (rdL_snoc s hlt)
      have step : ∀ x, rdB s[k] = x → Hid (l ++ [x] = (rdL s).take (k + 1)) := fun x hx => by show _ = _; rw [hsn.out, hx, ← hl.out]
      have HS := Lib.hid step; clear step
      have hb := UInt8.toNat_lt s[k]
      by_cases hc : s[k] = 46
      · have HX := HS.out _ (rdB_dot hc)
        have hc1 : ((s[k].toNat : Int) == 46) = true := by rw [hc]; rfl
        clear hc
        go_wp2_with (first
          | (at_builtin; refine wpList_app1 rfl _ _ rfl w.heap.size _ _ rfl hown _ rfl (by omega) (by omega) ?_; intro v' w1 hown1 hb1)
          | go_in)
        have hBl1 := hBl.trans hb1
        clear hown hb1 hBl
        go_wp2
        go_roundw
        case rel => exact ⟨k + 1, _, by omega, by go_num, by simp; omega, hown1, HX, hBl1⟩
        case measure => simp [intOf]; omega
      · have hc1 := byte_ne hc
        by_cases h48 : 48 ≤ (s[k].toNat : Int)
        · by_cases h57 : (s[k].toNat : Int) ≤ 57
          · have HX := HS.out _ (rdB_digit hc h48 h57)
            clear hc
            go_wp2_with (first
              | (at_builtin; refine wpList_app1 rfl _ _ rfl w.heap.size _ _ rfl hown _ rfl (by omega) (by omega) ?_; intro v' w1 hown1 hb1)
              | go_in)
            have hBl1 := hBl.trans hb1
            clear hown hb1 hBl
            go_wp2
            go_roundw
            case rel => exact ⟨k + 1, _, by omega, by go_num, by simp; omega, hown1, HX, hBl1⟩
            case measure => simp [intOf]; omega
          · have HX := HS.out _ (rdB_other hc (.inr (by omega)))
            clear hc
            go_wp2_with (first
              | (at_builtin; refine wpList_app1 rfl _ _ rfl w.heap.size _ _ rfl hown _ rfl (by omega) (by omega) ?_; intro v' w1 hown1 hb1)
              | go_in)
            have hBl1 := hBl.trans hb1
            clear hown hb1 hBl
            go_wp2
            go_roundw
            case rel => exact ⟨k + 1, _, by omega, by go_num, by simp; omega, hown1, HX, hBl1⟩
            case measure => simp [intOf]; omega
        · have HX := HS.out _ (rdB_other hc (.inl (by omega)))
          clear hc
          go_wp2_with (first
            | (at_builtin; refine wpList_app1 rfl _ _ rfl w.heap.size _ _ rfl hown _ rfl (by omega) (by omega) ?_; intro v' w1 hown1 hb1)
            | go_in)
          have hBl1 := hBl.trans hb1
          clear hown hb1 hBl
          go_wp2
          go_roundw
          case rel => exact ⟨k + 1, _, by omega, by go_num, by simp; omega, hown1, HX, hBl1⟩
          case measure => simp [intOf]; omega
    · go_wp2
      go_ret
      have h := hl.out
      rw [List.take_of_length_le (by rw [rdL_len]; omega)] at h
      subst h
      obtain ⟨a, c, rfl, hoi⟩ := hown.slice
      exact ⟨a, c, rfl, hoi, hBl⟩

end Go.Proofs.Ytmmebcjebphfcaa
