/- The walk of FnExactResultsOf: it returns true and writes nothing that was there. -/
import Derived.Test.YtpikecbmooendaaVr
namespace Go.Proofs.Ytpikecbmooendaa
open Go.RowKit

set_option maxRecDepth 100000 in
set_option maxHeartbeats 4000000 in
theorem law_ResultsOf {m0 : List Int} {a0 : Option Addr} {c0 : Nat} {m1 : List (List Int)} {a1 : Option Addr} {c1 : Nat} {m2 : List (List Int)} {a2 : Option Addr} {c2 : Nat} {w : World} (f0 : RI w 0 w.heap.size a0 m0) (l0 : m0.length ≤ 9223372036854775807) (f1 : RII w 0 w.heap.size a1 m1) (l1 : m1.length ≤ 9223372036854775807) (g1 : ∀ r ∈ m1, r.length ≤ 9223372036854775807) (f2 : RII w 0 w.heap.size a2 m2) (l2 : m2.length ≤ 9223372036854775807) (g2 : ∀ r ∈ m2, r.length ≤ 9223372036854775807) :
    Calls Try.prog 14 #[.slice a0 m0.length c0, .slice a1 m1.length c1, .slice a2 m2.length c2] w (Tru w) := by
  by_cases hb0 : m0.length ≤ 1048576
  case neg =>
    go_enter Try.func14, Try.ntmps14
    go_wp2
    go_ret
    exact ⟨rfl, Below.refl _ _⟩
  by_cases hb1 : 0 ≤ szII m1 1048576
  case neg =>
    go_enter Try.func14, Try.ntmps14
    go_wp2_with fail
    refine (l_szIntSS f1 l1 g1 (by omega) (by omega)).mono ?_
    rintro e z1 ⟨rfl, d1⟩
    go_wp2
    go_ret
    exact ⟨rfl, Dr.below d1 _⟩
  have hq1 := (szII_le hb1).2
  by_cases hb2 : 0 ≤ szII m2 (szII m1 1048576)
  case neg =>
    go_enter Try.func14, Try.ntmps14
    go_wp2_with fail
    refine (l_szIntSS f1 l1 g1 (by omega) (by omega)).mono ?_
    rintro e z1 ⟨rfl, d1⟩
    go_wp2_with fail
    refine (l_szIntSS (f2.dr d1) l2 g2 (by omega) (by omega)).mono ?_
    rintro e z2 ⟨rfl, d2⟩
    go_wp2
    go_ret
    exact ⟨rfl, Dr.below (Dr.trans d1 d2) _⟩
  have hq2 := (szII_le hb2).2
  have H20_1 := Lib.hid (szII_rows hb1 (by omega))
  have hL_1 := H20_1.out.1
  have H20_2 := Lib.hid (szII_rows hb2 (by omega))
  have hL_2 := H20_2.out.1
  go_enter Try.func14, Try.ntmps14
  go_wp2_with fail
  refine (l_szIntSS f1 l1 g1 (by omega) (by omega)).mono ?_
  rintro e w1 ⟨rfl, d1⟩
  have b1 := Dr.below d1 w.heap.size
  have z1 := Dr.le d1
  have f0 := f0.below b1 (by omega)
  have f1 := f1.below b1 (by omega)
  have f2 := f2.below b1 (by omega)
  have B1 := b1
  go_wp2_with fail
  refine (l_szIntSS f2 l2 g2 (by omega) (by omega)).mono ?_
  rintro e w2 ⟨rfl, d2⟩
  have b2 := Dr.below d2 w1.heap.size
  have z2 := Dr.le d2
  have f0 := f0.below b2 (by omega)
  have f1 := f1.below b2 (by omega)
  have f2 := f2.below b2 (by omega)
  have B2 := bnext B1 b2
  have hL := @roL_len m0 m1 m2
  go_wp2_with fail
  refine (l_toIntS f0 (by omega) (by omega) (by omega)).mono ?_
  rintro e w3 ⟨y0a, y0c, rfl, y0, b3⟩
  have z3 := b3.size
  have f0 := f0.below b3 (by omega)
  have f1 := f1.below b3 (by omega)
  have f2 := f2.below b3 (by omega)
  have B3 := bnext B2 b3
  go_wp2_with fail
  refine (l_toIntSS f1 (by omega) H20_1.out.1 H20_1.out.2.1).mono ?_
  rintro e w4 ⟨y1a, y1c, rfl, y1, b4⟩
  have z4 := b4.size
  have f0 := f0.below b4 (by omega)
  have f1 := f1.below b4 (by omega)
  have f2 := f2.below b4 (by omega)
  have y0 := y0.below b4 (by omega)
  have B4 := bnext B3 b4
  go_wp2_with fail
  refine (l_toIntSS f2 (by omega) H20_2.out.1 H20_2.out.2.1).mono ?_
  rintro e w5 ⟨y2a, y2c, rfl, y2, b5⟩
  have z5 := b5.size
  have f0 := f0.below b5 (by omega)
  have f1 := f1.below b5 (by omega)
  have f2 := f2.below b5 (by omega)
  have y0 := y0.below b5 (by omega)
  have y1 := y1.below b5 (by omega)
  have B5 := bnext B4 b5
  go_wp2_with fail
  refine (s_ResultsOf y0.ri l0 y1.rii l1 g1 y2.rii l2 g2 (by omega) (by omega)).mono ?_
  rintro e w6 ⟨Wa, Wc, rfl, W, b6⟩
  have z6 := b6.size
  have f0 := f0.below b6 (by omega)
  have f1 := f1.below b6 (by omega)
  have f2 := f2.below b6 (by omega)
  have y0 := y0.below b6 (by omega)
  have y1 := y1.below b6 (by omega)
  have y2 := y2.below b6 (by omega)
  have B6 := bnext B5 b6
  go_wp2_with fail
  refine (l_toIntS f0 (by omega) (by omega) (by omega)).mono ?_
  rintro e w7 ⟨x0a, x0c, rfl, x0, b7⟩
  have z7 := b7.size
  have f0 := f0.below b7 (by omega)
  have f1 := f1.below b7 (by omega)
  have f2 := f2.below b7 (by omega)
  have W := W.below b7 (by omega)
  have B7 := bnext B6 b7
  go_wp2_with fail
  refine (l_toIntSS f1 (by omega) H20_1.out.1 H20_1.out.2.1).mono ?_
  rintro e w8 ⟨x1a, x1c, rfl, x1, b8⟩
  have z8 := b8.size
  have f0 := f0.below b8 (by omega)
  have f1 := f1.below b8 (by omega)
  have f2 := f2.below b8 (by omega)
  have W := W.below b8 (by omega)
  have x0 := x0.below b8 (by omega)
  have B8 := bnext B7 b8
  go_wp2_with fail
  refine (l_toIntSS f2 (by omega) H20_2.out.1 H20_2.out.2.1).mono ?_
  rintro e w9 ⟨x2a, x2c, rfl, x2, b9⟩
  have z9 := b9.size
  have f0 := f0.below b9 (by omega)
  have f1 := f1.below b9 (by omega)
  have f2 := f2.below b9 (by omega)
  have W := W.below b9 (by omega)
  have x0 := x0.below b9 (by omega)
  have x1 := x1.below b9 (by omega)
  have B9 := bnext B8 b9
  go_wp2_with fail
  refine (i_ResultsOf x0.ri l0 x1.rii l1 g1 x2.rii l2 g2 (by omega) (by omega)).mono ?_
  rintro e w10 ⟨Ga, Gc, rfl, G, b10⟩
  have z10 := b10.size
  have f0 := f0.below b10 (by omega)
  have f1 := f1.below b10 (by omega)
  have f2 := f2.below b10 (by omega)
  have W := W.below b10 (by omega)
  have x0 := x0.below b10 (by omega)
  have x1 := x1.below b10 (by omega)
  have x2 := x2.below b10 (by omega)
  have B10 := bnext B9 b10
  have heqL : eqBo (roL m0 m1 m2) (roL m0 m1 m2) = true := eqBo_true.2 rfl
  go_wp2_with fail
  refine (l_eqBoolS G.ri W.ri (by omega) (by omega)).mono ?_
  rintro e w11 ⟨rfl, d11⟩
  have b11 := Dr.below d11 w10.heap.size
  have z11 := Dr.le d11
  have f0 := f0.below b11 (by omega)
  have f1 := f1.below b11 (by omega)
  have f2 := f2.below b11 (by omega)
  have W := W.below b11 (by omega)
  have x0 := x0.below b11 (by omega)
  have x1 := x1.below b11 (by omega)
  have x2 := x2.below b11 (by omega)
  have G := G.below b11 (by omega)
  have B11 := bnext B10 b11
  go_wp2_with fail
  refine (l_toIntS f0 (by omega) (by omega) (by omega)).mono ?_
  rintro e w12 ⟨u0a, u0c, rfl, u0, b12⟩
  have z12 := b12.size
  have f0 := f0.below b12 (by omega)
  have f1 := f1.below b12 (by omega)
  have f2 := f2.below b12 (by omega)
  have W := W.below b12 (by omega)
  have x0 := x0.below b12 (by omega)
  have x1 := x1.below b12 (by omega)
  have x2 := x2.below b12 (by omega)
  have G := G.below b12 (by omega)
  have B12 := bnext B11 b12
  go_wp2_with fail
  refine (l_eqIntS x0.ri u0.ri (by omega) (by omega)).mono ?_
  rintro e w13 ⟨rfl, d13⟩
  have b13 := Dr.below d13 w12.heap.size
  have z13 := Dr.le d13
  have f0 := f0.below b13 (by omega)
  have f1 := f1.below b13 (by omega)
  have f2 := f2.below b13 (by omega)
  have W := W.below b13 (by omega)
  have x0 := x0.below b13 (by omega)
  have x1 := x1.below b13 (by omega)
  have x2 := x2.below b13 (by omega)
  have G := G.below b13 (by omega)
  have u0 := u0.below b13 (by omega)
  have B13 := bnext B12 b13
  have heq0 : eqI m0 m0 = true := eqI_true.2 rfl
  go_wp2_with fail
  refine (l_toIntSS f1 (by omega) H20_1.out.1 H20_1.out.2.1).mono ?_
  rintro e w14 ⟨u1a, u1c, rfl, u1, b14⟩
  have z14 := b14.size
  have f0 := f0.below b14 (by omega)
  have f1 := f1.below b14 (by omega)
  have f2 := f2.below b14 (by omega)
  have W := W.below b14 (by omega)
  have x0 := x0.below b14 (by omega)
  have x1 := x1.below b14 (by omega)
  have x2 := x2.below b14 (by omega)
  have G := G.below b14 (by omega)
  have B14 := bnext B13 b14
  go_wp2_with fail
  refine (l_eqIntSS x1.rii u1.rii (by omega) (by omega) (fun r hr => by have := H20_1.out.2.1 r hr; omega) (fun r hr => by have := H20_1.out.2.1 r hr; omega)).mono ?_
  rintro e w15 ⟨rfl, d15⟩
  have b15 := Dr.below d15 w14.heap.size
  have z15 := Dr.le d15
  have f0 := f0.below b15 (by omega)
  have f1 := f1.below b15 (by omega)
  have f2 := f2.below b15 (by omega)
  have W := W.below b15 (by omega)
  have x0 := x0.below b15 (by omega)
  have x1 := x1.below b15 (by omega)
  have x2 := x2.below b15 (by omega)
  have G := G.below b15 (by omega)
  have u1 := u1.below b15 (by omega)
  have B15 := bnext B14 b15
  have heq1 : eqII m1 m1 = true := eqII_true.2 rfl
  go_wp2_with fail
  refine (l_toIntSS f2 (by omega) H20_2.out.1 H20_2.out.2.1).mono ?_
  rintro e w16 ⟨u2a, u2c, rfl, u2, b16⟩
  have z16 := b16.size
  have f0 := f0.below b16 (by omega)
  have f1 := f1.below b16 (by omega)
  have f2 := f2.below b16 (by omega)
  have W := W.below b16 (by omega)
  have x0 := x0.below b16 (by omega)
  have x1 := x1.below b16 (by omega)
  have x2 := x2.below b16 (by omega)
  have G := G.below b16 (by omega)
  have B16 := bnext B15 b16
  go_wp2_with fail
  refine (l_eqIntSS x2.rii u2.rii (by omega) (by omega) (fun r hr => by have := H20_2.out.2.1 r hr; omega) (fun r hr => by have := H20_2.out.2.1 r hr; omega)).mono ?_
  rintro e w17 ⟨rfl, d17⟩
  have b17 := Dr.below d17 w16.heap.size
  have z17 := Dr.le d17
  have f0 := f0.below b17 (by omega)
  have f1 := f1.below b17 (by omega)
  have f2 := f2.below b17 (by omega)
  have W := W.below b17 (by omega)
  have x0 := x0.below b17 (by omega)
  have x1 := x1.below b17 (by omega)
  have x2 := x2.below b17 (by omega)
  have G := G.below b17 (by omega)
  have u2 := u2.below b17 (by omega)
  have B17 := bnext B16 b17
  have heq2 : eqII m2 m2 = true := eqII_true.2 rfl
  go_wp2_with fail
  refine (l_markIntS x0.oi (by omega) (by omega) (by omega)).mono ?_
  rintro e w18 ⟨rfl, x0, u18, e18⟩
  have z18 := eq_le e18
  clear e18
  have f0 := f0.upd u18 (by omega) (by omega)
  have f1 := f1.upd u18 (by omega) (by omega)
  have f2 := f2.upd u18 (by omega) (by omega)
  have W := W.upd u18 (by omega) (by omega)
  have x1 := x1.upd u18 (by omega) (by omega)
  have x2 := x2.upd u18 (by omega) (by omega)
  have G := G.upd u18 (by omega) (by omega)
  have B18 := bupd B17 u18 (by omega)
  clear u18
  have hS_1 := H20_1.out.2.2
  go_wp2_with fail
  refine (l_markIntSS x1.oii (by omega) (by omega) (by omega) (by omega) (by omega)).mono ?_
  rintro e w19 ⟨rfl, x1, u19, e19⟩
  have z19 := eq_le e19
  clear e19
  have f0 := f0.upd u19 (by omega) (by omega)
  have f1 := f1.upd u19 (by omega) (by omega)
  have f2 := f2.upd u19 (by omega) (by omega)
  have W := W.upd u19 (by omega) (by omega)
  have x2 := x2.upd u19 (by omega) (by omega)
  have G := G.upd u19 (by omega) (by omega)
  have B19 := bupd B18 u19 (by omega)
  clear u19
  have hS_2 := H20_2.out.2.2
  go_wp2_with fail
  refine (l_markIntSS x2.oii (by omega) (by omega) (by omega) (by omega) (by omega)).mono ?_
  rintro e w20 ⟨rfl, x2, u20, e20⟩
  have z20 := eq_le e20
  clear e20
  have f0 := f0.upd u20 (by omega) (by omega)
  have f1 := f1.upd u20 (by omega) (by omega)
  have f2 := f2.upd u20 (by omega) (by omega)
  have W := W.upd u20 (by omega) (by omega)
  have G := G.upd u20 (by omega) (by omega)
  have B20 := bupd B19 u20 (by omega)
  clear u20
  have hk0 : 0 ≤ 1 + (m0.length : Int) + (sumL m1 : Int) + (sumL m2 : Int) := by omega
  go_wp2_with fail
  refine (l_eqBoolS G.ri W.ri (by omega) (by omega)).mono ?_
  rintro e w21 ⟨rfl, d21⟩
  have b21 := Dr.below d21 w20.heap.size
  have z21 := Dr.le d21
  have f0 := f0.below b21 (by omega)
  have f1 := f1.below b21 (by omega)
  have f2 := f2.below b21 (by omega)
  have W := W.below b21 (by omega)
  have G := G.below b21 (by omega)
  have B21 := bnext B20 b21
  go_wp2_with fail
  refine (l_markBoolS G.ob (by omega) (by omega) (by omega)).mono ?_
  rintro e w22 ⟨rfl, G, u22, e22⟩
  have z22 := eq_le e22
  clear e22
  have f0 := f0.upd u22 (by omega) (by omega)
  have f1 := f1.upd u22 (by omega) (by omega)
  have f2 := f2.upd u22 (by omega) (by omega)
  have W := W.upd u22 (by omega) (by omega)
  have B22 := bupd B21 u22 (by omega)
  clear u22
  go_wp2_with fail
  refine (l_heldBoolS G.ri (by omega) (by omega) (by omega)).mono ?_
  rintro e w23 ⟨rfl, d23⟩
  have b23 := Dr.below d23 w22.heap.size
  have z23 := Dr.le d23
  have f0 := f0.below b23 (by omega)
  have f1 := f1.below b23 (by omega)
  have f2 := f2.below b23 (by omega)
  have W := W.below b23 (by omega)
  have G := G.below b23 (by omega)
  have B23 := bnext B22 b23
  go_wp2_with fail
  refine (l_toIntS f0 (by omega) (by omega) (by omega)).mono ?_
  rintro e w24 ⟨v0a, v0c, rfl, v0, b24⟩
  have z24 := b24.size
  have f0 := f0.below b24 (by omega)
  have f1 := f1.below b24 (by omega)
  have f2 := f2.below b24 (by omega)
  have W := W.below b24 (by omega)
  have G := G.below b24 (by omega)
  have B24 := bnext B23 b24
  go_wp2_with fail
  refine (l_toIntSS f1 (by omega) H20_1.out.1 H20_1.out.2.1).mono ?_
  rintro e w25 ⟨v1a, v1c, rfl, v1, b25⟩
  have z25 := b25.size
  have f1 := f1.below b25 (by omega)
  have f2 := f2.below b25 (by omega)
  have W := W.below b25 (by omega)
  have G := G.below b25 (by omega)
  have v0 := v0.below b25 (by omega)
  have B25 := bnext B24 b25
  go_wp2_with fail
  refine (l_toIntSS f2 (by omega) H20_2.out.1 H20_2.out.2.1).mono ?_
  rintro e w26 ⟨v2a, v2c, rfl, v2, b26⟩
  have z26 := b26.size
  have f2 := f2.below b26 (by omega)
  have W := W.below b26 (by omega)
  have G := G.below b26 (by omega)
  have v0 := v0.below b26 (by omega)
  have v1 := v1.below b26 (by omega)
  have B26 := bnext B25 b26
  go_wp2_with fail
  refine (i_ResultsOf v0.ri l0 v1.rii l1 g1 v2.rii l2 g2 (by omega) (by omega)).mono ?_
  rintro e w27 ⟨Ka, Kc, rfl, K, b27⟩
  have z27 := b27.size
  have W := W.below b27 (by omega)
  have G := G.below b27 (by omega)
  have v0 := v0.below b27 (by omega)
  have v1 := v1.below b27 (by omega)
  have v2 := v2.below b27 (by omega)
  have B27 := bnext B26 b27
  go_wp2_with fail
  refine (l_eqBoolS K.ri W.ri (by omega) (by omega)).mono ?_
  rintro e w28 ⟨rfl, d28⟩
  have b28 := Dr.below d28 w27.heap.size
  have z28 := Dr.le d28
  have W := W.below b28 (by omega)
  have G := G.below b28 (by omega)
  have K := K.below b28 (by omega)
  have B28 := bnext B27 b28
  go_wp2_with fail
  refine (l_heldBoolS G.ri (by omega) (by omega) (by omega)).mono ?_
  rintro e w29 ⟨rfl, d29⟩
  have b29 := Dr.below d29 w28.heap.size
  have z29 := Dr.le d29
  have G := G.below b29 (by omega)
  have B29 := bnext B28 b29
  go_wp2
  go_ret
  exact ⟨rfl, B29⟩

end Go.Proofs.Ytpikecbmooendaa
