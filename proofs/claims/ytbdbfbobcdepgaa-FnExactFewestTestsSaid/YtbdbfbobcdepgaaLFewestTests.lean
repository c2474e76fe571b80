/- The walk of FnExactFewestTests: it returns true and writes nothing that was there. -/
import Derived.Test.YtbdbfbobcdepgaaWj
import Derived.Test.YtbdbfbobcdepgaaJl
import Derived.Test.YtbdbfbobcdepgaaJm
namespace Go.Proofs.Ytbdbfbobcdepgaa
open Go.RowKit

set_option maxRecDepth 100000 in
set_option maxHeartbeats 4000000 in
theorem law_FewestTests {m0 : List Int} {a0 : Option Addr} {c0 : Nat} {t1 : Int} {w : World} (f0 : RI w 0 w.heap.size a0 m0) (l0 : m0.length ≤ 9223372036854775807) (f1 : -9223372036854775808 ≤ t1) (l1 : t1 ≤ 9223372036854775807) :
    Calls Try.prog 5 #[.slice a0 m0.length c0, .int .i64 t1] w (Tru w) := by
  by_cases hb0 : m0.length ≤ 1048576
  case neg =>
    go_enter Try.func5, Try.ntmps5
    go_wp2
    go_ret
    exact ⟨rfl, Below.refl _ _⟩
  go_enter Try.func5, Try.ntmps5
  go_wp2_with fail
  refine (l_toIntS f0 (by omega) (by omega) (by omega)).mono ?_
  rintro e w1 ⟨y0a, y0c, rfl, y0, b1⟩
  have z1 := b1.size
  have f0 := f0.below b1 (by omega)
  have B1 := b1
  go_wp2_with fail
  refine (s_FewestTests y0.ri l0 f1 l1 (by omega)).mono ?_
  rintro e w2 ⟨rfl, b2⟩
  have z2 := b2.size
  have f0 := f0.below b2 (by omega)
  have y0 := y0.below b2 (by omega)
  have B2 := bnext B1 b2
  go_wp2_with fail
  refine (l_toIntS f0 (by omega) (by omega) (by omega)).mono ?_
  rintro e w3 ⟨x0a, x0c, rfl, x0, b3⟩
  have z3 := b3.size
  have f0 := f0.below b3 (by omega)
  have B3 := bnext B2 b3
  go_wp2_with fail
  refine (i_FewestTests x0.ri l0 f1 l1 (by omega)).mono ?_
  rintro e w4 ⟨rfl, b4⟩
  have z4 := b4.size
  have f0 := f0.below b4 (by omega)
  have x0 := x0.below b4 (by omega)
  have B4 := bnext B3 b4
  have hne0 : ((fwV m0 t1) != (fwV m0 t1)) = false := bne_self_eq_false _
  go_wp2_with fail
  refine (l_toIntS f0 (by omega) (by omega) (by omega)).mono ?_
  rintro e w5 ⟨u0a, u0c, rfl, u0, b5⟩
  have z5 := b5.size
  have f0 := f0.below b5 (by omega)
  have x0 := x0.below b5 (by omega)
  have B5 := bnext B4 b5
  go_wp2_with fail
  refine (l_eqIntS x0.ri u0.ri (by omega) (by omega)).mono ?_
  rintro e w6 ⟨rfl, d6⟩
  have b6 := Dr.below d6 w5.heap.size
  have z6 := Dr.le d6
  have x0 := x0.below b6 (by omega)
  have u0 := u0.below b6 (by omega)
  have B6 := bnext B5 b6
  have heq0 : eqI m0 m0 = true := eqI_true.2 rfl
  go_wp2
  go_ret
  exact ⟨rfl, B6⟩

end Go.Proofs.Ytbdbfbobcdepgaa
