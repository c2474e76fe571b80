/- The walk of FnExactValidModel: it returns true and writes nothing that was there. -/
import Derived.Test.YtlfmjlkemcjhdaaWa
import Derived.Test.YtlfmjlkemcjhdaaWb
namespace Go.Proofs.Ytlfmjlkemcjhdaa
open Go.RowKit

set_option maxHeartbeats 400000 in
theorem law_ValidModel {m : List Int} {a : Option Addr} {c : Nat} {w : World} (hm : RI w 0 w.heap.size a m) (hl : m.length ≤ 9223372036854775807) :
    Calls Try.prog 3 #[.slice a m.length c] w (Tru w) := by
  by_cases hbig : m.length ≤ 1048576
  case neg =>
    go_enter Try.func3, Try.ntmps3
    go_wp2
    go_ret
    exact ⟨rfl, Below.refl _ _⟩
  go_enter Try.func3, Try.ntmps3
  go_wp2_with fail
  refine (l_toIntS hm (Nat.le_refl _) (by omega) (by omega)).mono ?_
  rintro e w1 ⟨a1, c1, rfl, h1, hb1⟩
  have hs1 := hb1.size
  go_wp2_with fail
  refine (s_ValidModel h1.ri hl).mono ?_
  rintro e w' ⟨rfl, n1, rfl⟩
  have hB1 := bdrew hb1 n1
  have hm1 := hm.below hB1 (Nat.le_refl _)
  go_wp2_with fail
  refine (l_toIntS hm1 (by simp only [World.heap_drewN]; omega) (by omega) (by omega)).mono ?_
  rintro e w2 ⟨a2, c2, rfl, h2, hb2⟩
  have hs2 := hb2.size
  simp only [World.heap_drewN] at hs2
  go_wp2_with fail
  refine (i_ValidModel h2.ri hl).mono ?_
  rintro e w' ⟨rfl, n2, rfl⟩
  have hne : (okM m != okM m) = false := by simp
  have hB2 := bdrew (bnext hB1 hb2) n2
  have hm2 := hm.below hB2 (Nat.le_refl _)
  go_wp2_with fail
  refine (l_toIntS hm2 (by simp only [World.heap_drewN]; omega) (by omega) (by omega)).mono ?_
  rintro e w3 ⟨a3, c3, rfl, h3, hb3⟩
  have hB3 := bnext hB2 hb3
  have h2' := h2.ri.below ((bdrew (Below.refl _ w2) n2).trans hb3) (Nat.le_refl _)
  go_wp2_with fail
  refine (l_eqIntS h2' h3.ri (by omega) (by omega)).mono ?_
  rintro e w' ⟨rfl, n3, rfl⟩
  have hB4 := bdrew hB3 n3
  have heq : eqI m m = true := eqI_true.2 rfl
  go_wp2
  go_ret
  exact ⟨rfl, hB4⟩

end Go.Proofs.Ytlfmjlkemcjhdaa
