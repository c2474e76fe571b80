/- The walk of FnExactShows: it returns true and writes nothing that was there. -/
import Derived.Test.YtangmlppnnohiaaUg
namespace Go.Proofs.Ytangmlppnnohiaa
open Go.RowKit

set_option maxRecDepth 100000 in
set_option maxHeartbeats 4000000 in
theorem law_Shows {t0 : Int} {m1 : List Int} {a1 : Option Addr} {c1 : Nat} {m2 : List Int} {a2 : Option Addr} {c2 : Nat} {w : World} (f0 : -9223372036854775808 ≤ t0) (l0 : t0 ≤ 9223372036854775807) (f1 : RI w 0 w.heap.size a1 m1) (l1 : m1.length ≤ 9223372036854775807) (f2 : RI w 0 w.heap.size a2 m2) (l2 : m2.length ≤ 9223372036854775807) :
    Calls Try.prog 5 #[.int .i64 t0, .slice a1 m1.length c1, .slice a2 m2.length c2] w (Tru w) := by
  by_cases hb1 : m1.length ≤ 1048576
  case neg =>
    go_enter Try.func5, Try.ntmps5
    go_wp2
    go_ret
    exact ⟨rfl, Below.refl _ _⟩
  by_cases hb2 : m2.length ≤ 1048576
  case neg =>
    go_enter Try.func5, Try.ntmps5
    go_wp2
    go_ret
    exact ⟨rfl, Below.refl _ _⟩
  go_enter Try.func5, Try.ntmps5
  go_wp2_with fail
  refine (l_toIntS f1 (by omega) (by omega) (by omega)).mono ?_
  rintro e w1 ⟨y1a, y1c, rfl, y1, b1⟩
  have z1 := b1.size
  have f1 := f1.below b1 (by omega)
  have f2 := f2.below b1 (by omega)
  have B1 := b1
  go_wp2_with fail
  refine (l_toIntS f2 (by omega) (by omega) (by omega)).mono ?_
  rintro e w2 ⟨y2a, y2c, rfl, y2, b2⟩
  have z2 := b2.size
  have f1 := f1.below b2 (by omega)
  have f2 := f2.below b2 (by omega)
  have y1 := y1.below b2 (by omega)
  have B2 := bnext B1 b2
  go_wp2_with fail
  refine (s_Shows f0 l0 y1.ri l1 y2.ri l2).mono ?_
  rintro e w3 ⟨rfl, d3⟩
  have b3 := Dr.below d3 w2.heap.size
  have z3 := Dr.le d3
  have f1 := f1.below b3 (by omega)
  have f2 := f2.below b3 (by omega)
  have y1 := y1.below b3 (by omega)
  have y2 := y2.below b3 (by omega)
  have B3 := bnext B2 b3
  go_wp2_with fail
  refine (l_toIntS f1 (by omega) (by omega) (by omega)).mono ?_
  rintro e w4 ⟨x1a, x1c, rfl, x1, b4⟩
  have z4 := b4.size
  have f1 := f1.below b4 (by omega)
  have f2 := f2.below b4 (by omega)
  have B4 := bnext B3 b4
  go_wp2_with fail
  refine (l_toIntS f2 (by omega) (by omega) (by omega)).mono ?_
  rintro e w5 ⟨x2a, x2c, rfl, x2, b5⟩
  have z5 := b5.size
  have f1 := f1.below b5 (by omega)
  have f2 := f2.below b5 (by omega)
  have x1 := x1.below b5 (by omega)
  have B5 := bnext B4 b5
  go_wp2_with fail
  refine (i_Shows f0 l0 x1.ri l1 x2.ri l2 x1.cap (by omega) (by omega)).mono ?_
  rintro e w6 ⟨rfl, b6⟩
  have z6 := b6.size
  have f1 := f1.below b6 (by omega)
  have f2 := f2.below b6 (by omega)
  have x1 := x1.below b6 (by omega)
  have x2 := x2.below b6 (by omega)
  have B6 := bnext B5 b6
  have hne0 : ((swB t0 m1 m2) != (swB t0 m1 m2)) = false := bne_self_eq_false _
  go_wp2_with fail
  refine (l_toIntS f1 (by omega) (by omega) (by omega)).mono ?_
  rintro e w7 ⟨u1a, u1c, rfl, u1, b7⟩
  have z7 := b7.size
  have f1 := f1.below b7 (by omega)
  have f2 := f2.below b7 (by omega)
  have x1 := x1.below b7 (by omega)
  have x2 := x2.below b7 (by omega)
  have B7 := bnext B6 b7
  go_wp2_with fail
  refine (l_eqIntS x1.ri u1.ri (by omega) (by omega)).mono ?_
  rintro e w8 ⟨rfl, d8⟩
  have b8 := Dr.below d8 w7.heap.size
  have z8 := Dr.le d8
  have f2 := f2.below b8 (by omega)
  have x1 := x1.below b8 (by omega)
  have x2 := x2.below b8 (by omega)
  have u1 := u1.below b8 (by omega)
  have B8 := bnext B7 b8
  have heq1 : eqI m1 m1 = true := eqI_true.2 rfl
  go_wp2_with fail
  refine (l_toIntS f2 (by omega) (by omega) (by omega)).mono ?_
  rintro e w9 ⟨u2a, u2c, rfl, u2, b9⟩
  have z9 := b9.size
  have f2 := f2.below b9 (by omega)
  have x2 := x2.below b9 (by omega)
  have B9 := bnext B8 b9
  go_wp2_with fail
  refine (l_eqIntS x2.ri u2.ri (by omega) (by omega)).mono ?_
  rintro e w10 ⟨rfl, d10⟩
  have b10 := Dr.below d10 w9.heap.size
  have z10 := Dr.le d10
  have x2 := x2.below b10 (by omega)
  have u2 := u2.below b10 (by omega)
  have B10 := bnext B9 b10
  have heq2 : eqI m2 m2 = true := eqI_true.2 rfl
  go_wp2
  go_ret
  exact ⟨rfl, B10⟩

end Go.Proofs.Ytangmlppnnohiaa
