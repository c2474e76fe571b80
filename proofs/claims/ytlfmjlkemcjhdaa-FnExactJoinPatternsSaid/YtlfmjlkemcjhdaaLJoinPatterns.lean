/- The walk of FnExactJoinPatterns: it returns true and writes nothing that was there. -/
import Derived.Test.YtlfmjlkemcjhdaaWj
import Derived.Test.YtlfmjlkemcjhdaaWn
namespace Go.Proofs.Ytlfmjlkemcjhdaa
open Go.RowKit

set_option maxRecDepth 100000 in
set_option maxHeartbeats 4000000 in
theorem law_JoinPatterns {m0 : List Int} {a0 : Option Addr} {c0 : Nat} {m1 : List Int} {a1 : Option Addr} {c1 : Nat} {m2 : List Int} {a2 : Option Addr} {c2 : Nat} {w : World} (f0 : RI w 0 w.heap.size a0 m0) (l0 : m0.length ≤ 9223372036854775807) (f1 : RI w 0 w.heap.size a1 m1) (l1 : m1.length ≤ 9223372036854775807) (f2 : RI w 0 w.heap.size a2 m2) (l2 : m2.length ≤ 9223372036854775807) :
    Calls Try.prog 18 #[.slice a0 m0.length c0, .slice a1 m1.length c1, .slice a2 m2.length c2] w (Tru w) := by
  by_cases hb0 : m0.length ≤ 1048576
  case neg =>
    go_enter Try.func18, Try.ntmps18
    go_wp2
    go_ret
    exact ⟨rfl, Below.refl _ _⟩
  by_cases hb1 : m1.length ≤ 1048576
  case neg =>
    go_enter Try.func18, Try.ntmps18
    go_wp2
    go_ret
    exact ⟨rfl, Below.refl _ _⟩
  by_cases hb2 : m2.length ≤ 1048576
  case neg =>
    go_enter Try.func18, Try.ntmps18
    go_wp2
    go_ret
    exact ⟨rfl, Below.refl _ _⟩
  go_enter Try.func18, Try.ntmps18
  have hL := @jpL_len m0 m1 m2
  have hne : ((jpB m0 m1 m2) != (jpB m0 m1 m2)) = false := by simp
  go_wp2_with fail
  refine (l_toIntS f0 (by omega) (by omega) (by omega)).mono ?_
  rintro e w1 ⟨y0a, y0c, rfl, y0, b1⟩
  have z1 := b1.size
  have f0 := f0.below b1 (by omega)
  have f1 := f1.below b1 (by omega)
  have f2 := f2.below b1 (by omega)
  have B1 := b1
  go_wp2_with fail
  refine (l_toIntS f1 (by omega) (by omega) (by omega)).mono ?_
  rintro e w2 ⟨y1a, y1c, rfl, y1, b2⟩
  have z2 := b2.size
  have f0 := f0.below b2 (by omega)
  have f1 := f1.below b2 (by omega)
  have f2 := f2.below b2 (by omega)
  have y0 := y0.below b2 (by omega)
  have B2 := bnext B1 b2
  go_wp2_with fail
  refine (l_toIntS f2 (by omega) (by omega) (by omega)).mono ?_
  rintro e w3 ⟨y2a, y2c, rfl, y2, b3⟩
  have z3 := b3.size
  have f0 := f0.below b3 (by omega)
  have f1 := f1.below b3 (by omega)
  have f2 := f2.below b3 (by omega)
  have y0 := y0.below b3 (by omega)
  have y1 := y1.below b3 (by omega)
  have B3 := bnext B2 b3
  go_wp2_with fail
  refine (s_JoinPatterns y0.ri l0 y1.ri l1 y2.ri l2 (by omega) (by omega)).mono ?_
  rintro e w4 ⟨Wa, Wc, rfl, W, b4⟩
  have z4 := b4.size
  have f0 := f0.below b4 (by omega)
  have f1 := f1.below b4 (by omega)
  have f2 := f2.below b4 (by omega)
  have y0 := y0.below b4 (by omega)
  have y1 := y1.below b4 (by omega)
  have y2 := y2.below b4 (by omega)
  have B4 := bnext B3 b4
  go_wp2_with fail
  refine (l_toIntS f0 (by omega) (by omega) (by omega)).mono ?_
  rintro e w5 ⟨x0a, x0c, rfl, x0, b5⟩
  have z5 := b5.size
  have f0 := f0.below b5 (by omega)
  have f1 := f1.below b5 (by omega)
  have f2 := f2.below b5 (by omega)
  have W := W.below b5 (by omega)
  have B5 := bnext B4 b5
  go_wp2_with fail
  refine (l_toIntS f1 (by omega) (by omega) (by omega)).mono ?_
  rintro e w6 ⟨x1a, x1c, rfl, x1, b6⟩
  have z6 := b6.size
  have f0 := f0.below b6 (by omega)
  have f1 := f1.below b6 (by omega)
  have f2 := f2.below b6 (by omega)
  have W := W.below b6 (by omega)
  have x0 := x0.below b6 (by omega)
  have B6 := bnext B5 b6
  go_wp2_with fail
  refine (l_toIntS f2 (by omega) (by omega) (by omega)).mono ?_
  rintro e w7 ⟨x2a, x2c, rfl, x2, b7⟩
  have z7 := b7.size
  have f0 := f0.below b7 (by omega)
  have f1 := f1.below b7 (by omega)
  have f2 := f2.below b7 (by omega)
  have W := W.below b7 (by omega)
  have x0 := x0.below b7 (by omega)
  have x1 := x1.below b7 (by omega)
  have B7 := bnext B6 b7
  go_wp2_with fail
  refine (i_JoinPatterns x0.ri l0 x1.ri l1 x2.ri l2 (by omega) (by omega)).mono ?_
  rintro e w8 ⟨Ga, Gc, rfl, G, b8⟩
  have z8 := b8.size
  have f0 := f0.below b8 (by omega)
  have f1 := f1.below b8 (by omega)
  have f2 := f2.below b8 (by omega)
  have W := W.below b8 (by omega)
  have x0 := x0.below b8 (by omega)
  have x1 := x1.below b8 (by omega)
  have x2 := x2.below b8 (by omega)
  have B8 := bnext B7 b8
  have heqL : eqI (jpL m0 m1 m2) (jpL m0 m1 m2) = true := eqI_true.2 rfl
  go_wp2_with fail
  refine (l_eqIntS G.ri W.ri (by omega) (by omega)).mono ?_
  rintro e w9 ⟨rfl, d9⟩
  have b9 := Dr.below d9 w8.heap.size
  have z9 := Dr.le d9
  have f0 := f0.below b9 (by omega)
  have f1 := f1.below b9 (by omega)
  have f2 := f2.below b9 (by omega)
  have W := W.below b9 (by omega)
  have x0 := x0.below b9 (by omega)
  have x1 := x1.below b9 (by omega)
  have x2 := x2.below b9 (by omega)
  have G := G.below b9 (by omega)
  have B9 := bnext B8 b9
  go_wp2_with fail
  refine (l_toIntS f0 (by omega) (by omega) (by omega)).mono ?_
  rintro e w10 ⟨u0a, u0c, rfl, u0, b10⟩
  have z10 := b10.size
  have f0 := f0.below b10 (by omega)
  have f1 := f1.below b10 (by omega)
  have f2 := f2.below b10 (by omega)
  have W := W.below b10 (by omega)
  have x0 := x0.below b10 (by omega)
  have x1 := x1.below b10 (by omega)
  have x2 := x2.below b10 (by omega)
  have G := G.below b10 (by omega)
  have B10 := bnext B9 b10
  go_wp2_with fail
  refine (l_eqIntS x0.ri u0.ri (by omega) (by omega)).mono ?_
  rintro e w11 ⟨rfl, d11⟩
  have b11 := Dr.below d11 w10.heap.size
  have z11 := Dr.le d11
  have f0 := f0.below b11 (by omega)
  have f1 := f1.below b11 (by omega)
  have f2 := f2.below b11 (by omega)
  have W := W.below b11 (by omega)
  have x0 := x0.below b11 (by omega)
  have x1 := x1.below b11 (by omega)
  have x2 := x2.below b11 (by omega)
  have G := G.below b11 (by omega)
  have u0 := u0.below b11 (by omega)
  have B11 := bnext B10 b11
  have heq0 : eqI m0 m0 = true := eqI_true.2 rfl
  go_wp2_with fail
  refine (l_toIntS f1 (by omega) (by omega) (by omega)).mono ?_
  rintro e w12 ⟨u1a, u1c, rfl, u1, b12⟩
  have z12 := b12.size
  have f0 := f0.below b12 (by omega)
  have f1 := f1.below b12 (by omega)
  have f2 := f2.below b12 (by omega)
  have W := W.below b12 (by omega)
  have x0 := x0.below b12 (by omega)
  have x1 := x1.below b12 (by omega)
  have x2 := x2.below b12 (by omega)
  have G := G.below b12 (by omega)
  have B12 := bnext B11 b12
  go_wp2_with fail
  refine (l_eqIntS x1.ri u1.ri (by omega) (by omega)).mono ?_
  rintro e w13 ⟨rfl, d13⟩
  have b13 := Dr.below d13 w12.heap.size
  have z13 := Dr.le d13
  have f0 := f0.below b13 (by omega)
  have f1 := f1.below b13 (by omega)
  have f2 := f2.below b13 (by omega)
  have W := W.below b13 (by omega)
  have x0 := x0.below b13 (by omega)
  have x1 := x1.below b13 (by omega)
  have x2 := x2.below b13 (by omega)
  have G := G.below b13 (by omega)
  have u1 := u1.below b13 (by omega)
  have B13 := bnext B12 b13
  have heq1 : eqI m1 m1 = true := eqI_true.2 rfl
  go_wp2_with fail
  refine (l_toIntS f2 (by omega) (by omega) (by omega)).mono ?_
  rintro e w14 ⟨u2a, u2c, rfl, u2, b14⟩
  have z14 := b14.size
  have f0 := f0.below b14 (by omega)
  have f1 := f1.below b14 (by omega)
  have f2 := f2.below b14 (by omega)
  have W := W.below b14 (by omega)
  have x0 := x0.below b14 (by omega)
  have x1 := x1.below b14 (by omega)
  have x2 := x2.below b14 (by omega)
  have G := G.below b14 (by omega)
  have B14 := bnext B13 b14
  go_wp2_with fail
  refine (l_eqIntS x2.ri u2.ri (by omega) (by omega)).mono ?_
  rintro e w15 ⟨rfl, d15⟩
  have b15 := Dr.below d15 w14.heap.size
  have z15 := Dr.le d15
  have f0 := f0.below b15 (by omega)
  have f1 := f1.below b15 (by omega)
  have f2 := f2.below b15 (by omega)
  have W := W.below b15 (by omega)
  have x0 := x0.below b15 (by omega)
  have x1 := x1.below b15 (by omega)
  have x2 := x2.below b15 (by omega)
  have G := G.below b15 (by omega)
  have u2 := u2.below b15 (by omega)
  have B15 := bnext B14 b15
  have heq2 : eqI m2 m2 = true := eqI_true.2 rfl
  go_wp2_with fail
  refine (l_markIntS x0 (by omega) (by omega) (by omega)).mono ?_
  rintro e w16 ⟨rfl, x0, u16, e16⟩
  have z16 := eq_le e16
  clear e16
  have f0 := f0.upd u16 (by omega) (by omega)
  have f1 := f1.upd u16 (by omega) (by omega)
  have f2 := f2.upd u16 (by omega) (by omega)
  have W := W.upd u16 (by omega) (by omega)
  have x1 := x1.upd u16 (by omega) (by omega)
  have x2 := x2.upd u16 (by omega) (by omega)
  have G := G.upd u16 (by omega) (by omega)
  have B16 := bupd B15 u16 (by omega)
  clear u16
  go_wp2_with fail
  refine (l_markIntS x1 (by omega) (by omega) (by omega)).mono ?_
  rintro e w17 ⟨rfl, x1, u17, e17⟩
  have z17 := eq_le e17
  clear e17
  have f0 := f0.upd u17 (by omega) (by omega)
  have f1 := f1.upd u17 (by omega) (by omega)
  have f2 := f2.upd u17 (by omega) (by omega)
  have W := W.upd u17 (by omega) (by omega)
  have x2 := x2.upd u17 (by omega) (by omega)
  have G := G.upd u17 (by omega) (by omega)
  have B17 := bupd B16 u17 (by omega)
  clear u17
  go_wp2_with fail
  refine (l_markIntS x2 (by omega) (by omega) (by omega)).mono ?_
  rintro e w18 ⟨rfl, x2, u18, e18⟩
  have z18 := eq_le e18
  clear e18
  have f0 := f0.upd u18 (by omega) (by omega)
  have f1 := f1.upd u18 (by omega) (by omega)
  have f2 := f2.upd u18 (by omega) (by omega)
  have W := W.upd u18 (by omega) (by omega)
  have G := G.upd u18 (by omega) (by omega)
  have B18 := bupd B17 u18 (by omega)
  clear u18
  have hk0 : 0 ≤ 1 + (m0.length : Int) + (m1.length : Int) + (m2.length : Int) := by omega
  go_wp2_with fail
  refine (l_eqIntS G.ri W.ri (by omega) (by omega)).mono ?_
  rintro e w19 ⟨rfl, d19⟩
  have b19 := Dr.below d19 w18.heap.size
  have z19 := Dr.le d19
  have f0 := f0.below b19 (by omega)
  have f1 := f1.below b19 (by omega)
  have f2 := f2.below b19 (by omega)
  have W := W.below b19 (by omega)
  have G := G.below b19 (by omega)
  have B19 := bnext B18 b19
  go_wp2_with fail
  refine (l_markIntS G (by omega) (by omega) (by omega)).mono ?_
  rintro e w20 ⟨rfl, G, u20, e20⟩
  have z20 := eq_le e20
  clear e20
  have f0 := f0.upd u20 (by omega) (by omega)
  have f1 := f1.upd u20 (by omega) (by omega)
  have f2 := f2.upd u20 (by omega) (by omega)
  have W := W.upd u20 (by omega) (by omega)
  have B20 := bupd B19 u20 (by omega)
  clear u20
  go_wp2_with fail
  refine (l_heldIntS G.ri (by omega) (by omega) (by omega)).mono ?_
  rintro e w21 ⟨rfl, d21⟩
  have b21 := Dr.below d21 w20.heap.size
  have z21 := Dr.le d21
  have f0 := f0.below b21 (by omega)
  have f1 := f1.below b21 (by omega)
  have f2 := f2.below b21 (by omega)
  have W := W.below b21 (by omega)
  have G := G.below b21 (by omega)
  have B21 := bnext B20 b21
  go_wp2_with fail
  refine (l_toIntS f0 (by omega) (by omega) (by omega)).mono ?_
  rintro e w22 ⟨v0a, v0c, rfl, v0, b22⟩
  have z22 := b22.size
  have f0 := f0.below b22 (by omega)
  have f1 := f1.below b22 (by omega)
  have f2 := f2.below b22 (by omega)
  have W := W.below b22 (by omega)
  have G := G.below b22 (by omega)
  have B22 := bnext B21 b22
  go_wp2_with fail
  refine (l_toIntS f1 (by omega) (by omega) (by omega)).mono ?_
  rintro e w23 ⟨v1a, v1c, rfl, v1, b23⟩
  have z23 := b23.size
  have f1 := f1.below b23 (by omega)
  have f2 := f2.below b23 (by omega)
  have W := W.below b23 (by omega)
  have G := G.below b23 (by omega)
  have v0 := v0.below b23 (by omega)
  have B23 := bnext B22 b23
  go_wp2_with fail
  refine (l_toIntS f2 (by omega) (by omega) (by omega)).mono ?_
  rintro e w24 ⟨v2a, v2c, rfl, v2, b24⟩
  have z24 := b24.size
  have f2 := f2.below b24 (by omega)
  have W := W.below b24 (by omega)
  have G := G.below b24 (by omega)
  have v0 := v0.below b24 (by omega)
  have v1 := v1.below b24 (by omega)
  have B24 := bnext B23 b24
  go_wp2_with fail
  refine (i_JoinPatterns v0.ri l0 v1.ri l1 v2.ri l2 (by omega) (by omega)).mono ?_
  rintro e w25 ⟨Ka, Kc, rfl, K, b25⟩
  have z25 := b25.size
  have W := W.below b25 (by omega)
  have G := G.below b25 (by omega)
  have v0 := v0.below b25 (by omega)
  have v1 := v1.below b25 (by omega)
  have v2 := v2.below b25 (by omega)
  have B25 := bnext B24 b25
  go_wp2_with fail
  refine (l_eqIntS K.ri W.ri (by omega) (by omega)).mono ?_
  rintro e w26 ⟨rfl, d26⟩
  have b26 := Dr.below d26 w25.heap.size
  have z26 := Dr.le d26
  have W := W.below b26 (by omega)
  have G := G.below b26 (by omega)
  have K := K.below b26 (by omega)
  have B26 := bnext B25 b26
  go_wp2_with fail
  refine (l_heldIntS G.ri (by omega) (by omega) (by omega)).mono ?_
  rintro e w27 ⟨rfl, d27⟩
  have b27 := Dr.below d27 w26.heap.size
  have z27 := Dr.le d27
  have G := G.below b27 (by omega)
  have B27 := bnext B26 b27
  go_wp2
  go_ret
  exact ⟨rfl, B27⟩

end Go.Proofs.Ytlfmjlkemcjhdaa
