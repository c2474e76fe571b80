/- The walk of FnExactIsAllowedCovering: it returns true and writes nothing that was there. -/
import Derived.Test.YtbdbfbobcdepgaaZl
namespace Go.Proofs.Ytbdbfbobcdepgaa
open Go.RowKit

set_option maxRecDepth 100000 in
set_option maxHeartbeats 4000000 in
theorem law_IsAllowedCovering {m0 : List Int} {a0 : Option Addr} {c0 : Nat} {m1 : List (List Int)} {a1 : Option Addr} {c1 : Nat} {m2 : List (List Int)} {a2 : Option Addr} {c2 : Nat} {t3 : Int} {w : World} (f0 : RI w 0 w.heap.size a0 m0) (l0 : m0.length ≤ 9223372036854775807) (f1 : RII w 0 w.heap.size a1 m1) (l1 : m1.length ≤ 9223372036854775807) (g1 : ∀ r ∈ m1, r.length ≤ 9223372036854775807) (f2 : RII w 0 w.heap.size a2 m2) (l2 : m2.length ≤ 9223372036854775807) (g2 : ∀ r ∈ m2, r.length ≤ 9223372036854775807) (f3 : -9223372036854775808 ≤ t3) (l3 : t3 ≤ 9223372036854775807) :
    Calls Try.prog 20 #[.slice a0 m0.length c0, .slice a1 m1.length c1, .slice a2 m2.length c2, .int .i64 t3] w (Tru w) := by
  by_cases hb0 : m0.length ≤ 1048576
  case neg =>
    go_enter Try.func20, Try.ntmps20
    go_wp2
    go_ret
    exact ⟨rfl, Below.refl _ _⟩
  by_cases hb1 : 0 ≤ szII m1 1048576
  case neg =>
    go_enter Try.func20, Try.ntmps20
    go_wp2_with fail
    refine (l_szIntSS f1 l1 g1 (by omega) (by omega)).mono ?_
    rintro e z1 ⟨rfl, d1⟩
    go_wp2
    go_ret
    exact ⟨rfl, Dr.below d1 _⟩
  have hq1 := (szII_le hb1).2
  by_cases hb2 : 0 ≤ szII m2 (szII m1 1048576)
  case neg =>
    go_enter Try.func20, Try.ntmps20
    go_wp2_with fail
    refine (l_szIntSS f1 l1 g1 (by omega) (by omega)).mono ?_
    rintro e z1 ⟨rfl, d1⟩
    go_wp2_with fail
    refine (l_szIntSS (f2.dr d1) l2 g2 (by omega) (by omega)).mono ?_
    rintro e z2 ⟨rfl, d2⟩
    go_wp2
    go_ret
    exact ⟨rfl, Dr.below (Dr.trans d1 d2) _⟩
  have hq2 := (szII_le hb2).2
  have H20_1 := Lib.hid (szII_rows hb1 (by omega))
  have hL_1 := H20_1.out.1
  have H20_2 := Lib.hid (szII_rows hb2 (by omega))
  have hL_2 := H20_2.out.1
  go_enter Try.func20, Try.ntmps20
  go_wp2_with fail
  refine (l_szIntSS f1 l1 g1 (by omega) (by omega)).mono ?_
  rintro e w1 ⟨rfl, d1⟩
  have b1 := Dr.below d1 w.heap.size
  have z1 := Dr.le d1
  have f0 := f0.below b1 (by omega)
  have f1 := f1.below b1 (by omega)
  have f2 := f2.below b1 (by omega)
  have B1 := b1
  go_wp2_with fail
  refine (l_szIntSS f2 l2 g2 (by omega) (by omega)).mono ?_
  rintro e w2 ⟨rfl, d2⟩
  have b2 := Dr.below d2 w1.heap.size
  have z2 := Dr.le d2
  have f0 := f0.below b2 (by omega)
  have f1 := f1.below b2 (by omega)
  have f2 := f2.below b2 (by omega)
  have B2 := bnext B1 b2
  go_wp2_with fail
  refine (l_toIntS f0 (by omega) (by omega) (by omega)).mono ?_
  rintro e w3 ⟨y0a, y0c, rfl, y0, b3⟩
  have z3 := b3.size
  have f0 := f0.below b3 (by omega)
  have f1 := f1.below b3 (by omega)
  have f2 := f2.below b3 (by omega)
  have B3 := bnext B2 b3
  go_wp2_with fail
  refine (l_toIntSS f1 (by omega) H20_1.out.1 H20_1.out.2.1).mono ?_
  rintro e w4 ⟨y1a, y1c, rfl, y1, b4⟩
  have z4 := b4.size
  have f0 := f0.below b4 (by omega)
  have f1 := f1.below b4 (by omega)
  have f2 := f2.below b4 (by omega)
  have y0 := y0.below b4 (by omega)
  have B4 := bnext B3 b4
  go_wp2_with fail
  refine (l_toIntSS f2 (by omega) H20_2.out.1 H20_2.out.2.1).mono ?_
  rintro e w5 ⟨y2a, y2c, rfl, y2, b5⟩
  have z5 := b5.size
  have f0 := f0.below b5 (by omega)
  have f1 := f1.below b5 (by omega)
  have f2 := f2.below b5 (by omega)
  have y0 := y0.below b5 (by omega)
  have y1 := y1.below b5 (by omega)
  have B5 := bnext B4 b5
  go_wp2_with fail
  refine (s_IsAllowedCovering y0.ri l0 y1.rii l1 g1 y2.rii l2 g2 f3 l3 (by omega) (by omega) (by omega)).mono ?_
  rintro e w6 ⟨rfl, b6⟩
  have z6 := b6.size
  have f0 := f0.below b6 (by omega)
  have f1 := f1.below b6 (by omega)
  have f2 := f2.below b6 (by omega)
  have y0 := y0.below b6 (by omega)
  have y1 := y1.below b6 (by omega)
  have y2 := y2.below b6 (by omega)
  have B6 := bnext B5 b6
  go_wp2_with fail
  refine (l_toIntS f0 (by omega) (by omega) (by omega)).mono ?_
  rintro e w7 ⟨x0a, x0c, rfl, x0, b7⟩
  have z7 := b7.size
  have f0 := f0.below b7 (by omega)
  have f1 := f1.below b7 (by omega)
  have f2 := f2.below b7 (by omega)
  have B7 := bnext B6 b7
  go_wp2_with fail
  refine (l_toIntSS f1 (by omega) H20_1.out.1 H20_1.out.2.1).mono ?_
  rintro e w8 ⟨x1a, x1c, rfl, x1, b8⟩
  have z8 := b8.size
  have f0 := f0.below b8 (by omega)
  have f1 := f1.below b8 (by omega)
  have f2 := f2.below b8 (by omega)
  have x0 := x0.below b8 (by omega)
  have B8 := bnext B7 b8
  go_wp2_with fail
  refine (l_toIntSS f2 (by omega) H20_2.out.1 H20_2.out.2.1).mono ?_
  rintro e w9 ⟨x2a, x2c, rfl, x2, b9⟩
  have z9 := b9.size
  have f0 := f0.below b9 (by omega)
  have f1 := f1.below b9 (by omega)
  have f2 := f2.below b9 (by omega)
  have x0 := x0.below b9 (by omega)
  have x1 := x1.below b9 (by omega)
  have B9 := bnext B8 b9
  go_wp2_with fail
  refine (i_IsAllowedCovering x0.ri l0 x1.rii l1 g1 x2.rii l2 g2 f3 l3 (by omega) (by omega) (by omega)).mono ?_
  rintro e w10 ⟨rfl, b10⟩
  have z10 := b10.size
  have f0 := f0.below b10 (by omega)
  have f1 := f1.below b10 (by omega)
  have f2 := f2.below b10 (by omega)
  have x0 := x0.below b10 (by omega)
  have x1 := x1.below b10 (by omega)
  have x2 := x2.below b10 (by omega)
  have B10 := bnext B9 b10
  have hne0 : ((iaB m0 m1 m2 t3) != (iaB m0 m1 m2 t3)) = false := bne_self_eq_false _
  go_wp2_with fail
  refine (l_toIntS f0 (by omega) (by omega) (by omega)).mono ?_
  rintro e w11 ⟨u0a, u0c, rfl, u0, b11⟩
  have z11 := b11.size
  have f0 := f0.below b11 (by omega)
  have f1 := f1.below b11 (by omega)
  have f2 := f2.below b11 (by omega)
  have x0 := x0.below b11 (by omega)
  have x1 := x1.below b11 (by omega)
  have x2 := x2.below b11 (by omega)
  have B11 := bnext B10 b11
  go_wp2_with fail
  refine (l_eqIntS x0.ri u0.ri (by omega) (by omega)).mono ?_
  rintro e w12 ⟨rfl, d12⟩
  have b12 := Dr.below d12 w11.heap.size
  have z12 := Dr.le d12
  have f1 := f1.below b12 (by omega)
  have f2 := f2.below b12 (by omega)
  have x0 := x0.below b12 (by omega)
  have x1 := x1.below b12 (by omega)
  have x2 := x2.below b12 (by omega)
  have u0 := u0.below b12 (by omega)
  have B12 := bnext B11 b12
  have heq0 : eqI m0 m0 = true := eqI_true.2 rfl
  go_wp2_with fail
  refine (l_toIntSS f1 (by omega) H20_1.out.1 H20_1.out.2.1).mono ?_
  rintro e w13 ⟨u1a, u1c, rfl, u1, b13⟩
  have z13 := b13.size
  have f1 := f1.below b13 (by omega)
  have f2 := f2.below b13 (by omega)
  have x1 := x1.below b13 (by omega)
  have x2 := x2.below b13 (by omega)
  have B13 := bnext B12 b13
  go_wp2_with fail
  refine (l_eqIntSS x1.rii u1.rii (by omega) (by omega) (fun r hr => by have := H20_1.out.2.1 r hr; omega) (fun r hr => by have := H20_1.out.2.1 r hr; omega)).mono ?_
  rintro e w14 ⟨rfl, d14⟩
  have b14 := Dr.below d14 w13.heap.size
  have z14 := Dr.le d14
  have f2 := f2.below b14 (by omega)
  have x1 := x1.below b14 (by omega)
  have x2 := x2.below b14 (by omega)
  have u1 := u1.below b14 (by omega)
  have B14 := bnext B13 b14
  have heq1 : eqII m1 m1 = true := eqII_true.2 rfl
  go_wp2_with fail
  refine (l_toIntSS f2 (by omega) H20_2.out.1 H20_2.out.2.1).mono ?_
  rintro e w15 ⟨u2a, u2c, rfl, u2, b15⟩
  have z15 := b15.size
  have f2 := f2.below b15 (by omega)
  have x2 := x2.below b15 (by omega)
  have B15 := bnext B14 b15
  go_wp2_with fail
  refine (l_eqIntSS x2.rii u2.rii (by omega) (by omega) (fun r hr => by have := H20_2.out.2.1 r hr; omega) (fun r hr => by have := H20_2.out.2.1 r hr; omega)).mono ?_
  rintro e w16 ⟨rfl, d16⟩
  have b16 := Dr.below d16 w15.heap.size
  have z16 := Dr.le d16
  have x2 := x2.below b16 (by omega)
  have u2 := u2.below b16 (by omega)
  have B16 := bnext B15 b16
  have heq2 : eqII m2 m2 = true := eqII_true.2 rfl
  go_wp2
  go_ret
  exact ⟨rfl, B16⟩

end Go.Proofs.Ytbdbfbobcdepgaa
