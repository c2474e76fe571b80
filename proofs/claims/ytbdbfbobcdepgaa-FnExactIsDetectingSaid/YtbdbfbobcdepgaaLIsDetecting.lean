/- The walk of FnExactIsDetecting: it returns true and writes nothing that was there. -/
import Derived.Test.YtbdbfbobcdepgaaWj
import Derived.Test.YtbdbfbobcdepgaaJj
namespace Go.Proofs.Ytbdbfbobcdepgaa
open Go.RowKit

set_option maxRecDepth 100000 in
set_option maxHeartbeats 4000000 in
theorem law_IsDetecting {m0 : List Int} {a0 : Option Addr} {c0 : Nat} {m1 : List (List Int)} {a1 : Option Addr} {c1 : Nat} {t2 : Int} {w : World} (f0 : RI w 0 w.heap.size a0 m0) (l0 : m0.length ≤ 9223372036854775807) (f1 : RII w 0 w.heap.size a1 m1) (l1 : m1.length ≤ 9223372036854775807) (g1 : ∀ r ∈ m1, r.length ≤ 9223372036854775807) (f2 : -9223372036854775808 ≤ t2) (l2 : t2 ≤ 9223372036854775807) :
    Calls Try.prog 11 #[.slice a0 m0.length c0, .slice a1 m1.length c1, .int .i64 t2] w (Tru w) := by
  by_cases hb0 : m0.length ≤ 1048576
  case neg =>
    go_enter Try.func11, Try.ntmps11
    go_wp2
    go_ret
    exact ⟨rfl, Below.refl _ _⟩
  by_cases hb1 : 0 ≤ szII m1 1048576
  case neg =>
    go_enter Try.func11, Try.ntmps11
    go_wp2_with fail
    refine (l_szIntSS f1 l1 g1 (by omega) (by omega)).mono ?_
    rintro e z1 ⟨rfl, d1⟩
    go_wp2
    go_ret
    exact ⟨rfl, Dr.below d1 _⟩
  have H20_1 := Lib.hid (szII_rows hb1 (by omega))
  have hL_1 := H20_1.out.1
  go_enter Try.func11, Try.ntmps11
  go_wp2_with fail
  refine (l_szIntSS f1 l1 g1 (by omega) (by omega)).mono ?_
  rintro e w1 ⟨rfl, d1⟩
  have b1 := Dr.below d1 w.heap.size
  have z1 := Dr.le d1
  have f0 := f0.below b1 (by omega)
  have f1 := f1.below b1 (by omega)
  have B1 := b1
  go_wp2_with fail
  refine (l_toIntS f0 (by omega) (by omega) (by omega)).mono ?_
  rintro e w2 ⟨y0a, y0c, rfl, y0, b2⟩
  have z2 := b2.size
  have f0 := f0.below b2 (by omega)
  have f1 := f1.below b2 (by omega)
  have B2 := bnext B1 b2
  go_wp2_with fail
  refine (l_toIntSS f1 (by omega) H20_1.out.1 H20_1.out.2.1).mono ?_
  rintro e w3 ⟨y1a, y1c, rfl, y1, b3⟩
  have z3 := b3.size
  have f0 := f0.below b3 (by omega)
  have f1 := f1.below b3 (by omega)
  have y0 := y0.below b3 (by omega)
  have B3 := bnext B2 b3
  go_wp2_with fail
  refine (s_IsDetecting y0.ri l0 y1.rii l1 g1 f2 l2 (by omega) (by omega)).mono ?_
  rintro e w4 ⟨rfl, b4⟩
  have z4 := b4.size
  have f0 := f0.below b4 (by omega)
  have f1 := f1.below b4 (by omega)
  have y0 := y0.below b4 (by omega)
  have y1 := y1.below b4 (by omega)
  have B4 := bnext B3 b4
  go_wp2_with fail
  refine (l_toIntS f0 (by omega) (by omega) (by omega)).mono ?_
  rintro e w5 ⟨x0a, x0c, rfl, x0, b5⟩
  have z5 := b5.size
  have f0 := f0.below b5 (by omega)
  have f1 := f1.below b5 (by omega)
  have B5 := bnext B4 b5
  go_wp2_with fail
  refine (l_toIntSS f1 (by omega) H20_1.out.1 H20_1.out.2.1).mono ?_
  rintro e w6 ⟨x1a, x1c, rfl, x1, b6⟩
  have z6 := b6.size
  have f0 := f0.below b6 (by omega)
  have f1 := f1.below b6 (by omega)
  have x0 := x0.below b6 (by omega)
  have B6 := bnext B5 b6
  go_wp2_with fail
  refine (i_IsDetecting x0.ri l0 x1.rii l1 g1 f2 l2 (by omega) (by omega)).mono ?_
  rintro e w7 ⟨rfl, b7⟩
  have z7 := b7.size
  have f0 := f0.below b7 (by omega)
  have f1 := f1.below b7 (by omega)
  have x0 := x0.below b7 (by omega)
  have x1 := x1.below b7 (by omega)
  have B7 := bnext B6 b7
  have hne0 : ((idB m0 m1 t2) != (idB m0 m1 t2)) = false := bne_self_eq_false _
  go_wp2_with fail
  refine (l_toIntS f0 (by omega) (by omega) (by omega)).mono ?_
  rintro e w8 ⟨u0a, u0c, rfl, u0, b8⟩
  have z8 := b8.size
  have f0 := f0.below b8 (by omega)
  have f1 := f1.below b8 (by omega)
  have x0 := x0.below b8 (by omega)
  have x1 := x1.below b8 (by omega)
  have B8 := bnext B7 b8
  go_wp2_with fail
  refine (l_eqIntS x0.ri u0.ri (by omega) (by omega)).mono ?_
  rintro e w9 ⟨rfl, d9⟩
  have b9 := Dr.below d9 w8.heap.size
  have z9 := Dr.le d9
  have f1 := f1.below b9 (by omega)
  have x0 := x0.below b9 (by omega)
  have x1 := x1.below b9 (by omega)
  have u0 := u0.below b9 (by omega)
  have B9 := bnext B8 b9
  have heq0 : eqI m0 m0 = true := eqI_true.2 rfl
  go_wp2_with fail
  refine (l_toIntSS f1 (by omega) H20_1.out.1 H20_1.out.2.1).mono ?_
  rintro e w10 ⟨u1a, u1c, rfl, u1, b10⟩
  have z10 := b10.size
  have f1 := f1.below b10 (by omega)
  have x1 := x1.below b10 (by omega)
  have B10 := bnext B9 b10
  go_wp2_with fail
  refine (l_eqIntSS x1.rii u1.rii (by omega) (by omega) (fun r hr => by have := H20_1.out.2.1 r hr; omega) (fun r hr => by have := H20_1.out.2.1 r hr; omega)).mono ?_
  rintro e w11 ⟨rfl, d11⟩
  have b11 := Dr.below d11 w10.heap.size
  have z11 := Dr.le d11
  have x1 := x1.below b11 (by omega)
  have u1 := u1.below b11 (by omega)
  have B11 := bnext B10 b11
  have heq1 : eqII m1 m1 = true := eqII_true.2 rfl
  go_wp2
  go_ret
  exact ⟨rfl, B11⟩

end Go.Proofs.Ytbdbfbobcdepgaa
