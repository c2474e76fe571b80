/- The walk of FnExactShrinkFailure: it returns true and writes nothing that was there. -/
import Derived.Test.YtbdbfbobcdepgaaWj
import Derived.Test.YtbdbfbobcdepgaaTh
namespace Go.Proofs.Ytbdbfbobcdepgaa
open Go.RowKit

set_option maxRecDepth 100000 in
set_option maxHeartbeats 4000000 in
theorem law_ShrinkFailure {m0 : List Int} {a0 : Option Addr} {c0 : Nat} {m1 : List (List Int)} {a1 : Option Addr} {c1 : Nat} {m2 : List Int} {a2 : Option Addr} {c2 : Nat} {m3 : List Int} {a3 : Option Addr} {c3 : Nat} {w : World} (f0 : RI w 0 w.heap.size a0 m0) (l0 : m0.length ≤ 9223372036854775807) (f1 : RII w 0 w.heap.size a1 m1) (l1 : m1.length ≤ 9223372036854775807) (g1 : ∀ r ∈ m1, r.length ≤ 9223372036854775807) (f2 : RI w 0 w.heap.size a2 m2) (l2 : m2.length ≤ 9223372036854775807) (f3 : RI w 0 w.heap.size a3 m3) (l3 : m3.length ≤ 9223372036854775807) :
    Calls Try.prog 14 #[.slice a0 m0.length c0, .slice a1 m1.length c1, .slice a2 m2.length c2, .slice a3 m3.length c3] w (Tru w) := by
  by_cases hb0 : m0.length ≤ 1048576
  case neg =>
    go_enter Try.func14, Try.ntmps14
    go_wp2
    go_ret
    exact ⟨rfl, Below.refl _ _⟩
  by_cases hb2 : m2.length ≤ 1048576
  case neg =>
    go_enter Try.func14, Try.ntmps14
    go_wp2
    go_ret
    exact ⟨rfl, Below.refl _ _⟩
  by_cases hb3 : m3.length ≤ 1048576
  case neg =>
    go_enter Try.func14, Try.ntmps14
    go_wp2
    go_ret
    exact ⟨rfl, Below.refl _ _⟩
  by_cases hb1 : 0 ≤ szII m1 1048576
  case neg =>
    go_enter Try.func14, Try.ntmps14
    go_wp2_with fail
    refine (l_szIntSS f1 l1 g1 (by omega) (by omega)).mono ?_
    rintro e z1 ⟨rfl, d1⟩
    go_wp2
    go_ret
    exact ⟨rfl, Dr.below d1 _⟩
  have H20_1 := Lib.hid (szII_rows hb1 (by omega))
  have hL_1 := H20_1.out.1
  go_enter Try.func14, Try.ntmps14
  go_wp2_with fail
  refine (l_szIntSS f1 l1 g1 (by omega) (by omega)).mono ?_
  rintro e w1 ⟨rfl, d1⟩
  have b1 := Dr.below d1 w.heap.size
  have z1 := Dr.le d1
  have f0 := f0.below b1 (by omega)
  have f1 := f1.below b1 (by omega)
  have f2 := f2.below b1 (by omega)
  have f3 := f3.below b1 (by omega)
  have B1 := b1
  have hL := @shL_len m0 m1 m2 m3
  have hne : ((shB' m0 m1 m2 m3) != (shB' m0 m1 m2 m3)) = false := by simp
  go_wp2_with fail
  refine (l_toIntS f0 (by omega) (by omega) (by omega)).mono ?_
  rintro e w2 ⟨y0a, y0c, rfl, y0, b2⟩
  have z2 := b2.size
  have f0 := f0.below b2 (by omega)
  have f1 := f1.below b2 (by omega)
  have f2 := f2.below b2 (by omega)
  have f3 := f3.below b2 (by omega)
  have B2 := bnext B1 b2
  go_wp2_with fail
  refine (l_toIntSS f1 (by omega) H20_1.out.1 H20_1.out.2.1).mono ?_
  rintro e w3 ⟨y1a, y1c, rfl, y1, b3⟩
  have z3 := b3.size
  have f0 := f0.below b3 (by omega)
  have f1 := f1.below b3 (by omega)
  have f2 := f2.below b3 (by omega)
  have f3 := f3.below b3 (by omega)
  have y0 := y0.below b3 (by omega)
  have B3 := bnext B2 b3
  go_wp2_with fail
  refine (l_toIntS f2 (by omega) (by omega) (by omega)).mono ?_
  rintro e w4 ⟨y2a, y2c, rfl, y2, b4⟩
  have z4 := b4.size
  have f0 := f0.below b4 (by omega)
  have f1 := f1.below b4 (by omega)
  have f2 := f2.below b4 (by omega)
  have f3 := f3.below b4 (by omega)
  have y0 := y0.below b4 (by omega)
  have y1 := y1.below b4 (by omega)
  have B4 := bnext B3 b4
  go_wp2_with fail
  refine (l_toIntS f3 (by omega) (by omega) (by omega)).mono ?_
  rintro e w5 ⟨y3a, y3c, rfl, y3, b5⟩
  have z5 := b5.size
  have f0 := f0.below b5 (by omega)
  have f1 := f1.below b5 (by omega)
  have f2 := f2.below b5 (by omega)
  have f3 := f3.below b5 (by omega)
  have y0 := y0.below b5 (by omega)
  have y1 := y1.below b5 (by omega)
  have y2 := y2.below b5 (by omega)
  have B5 := bnext B4 b5
  go_wp2_with fail
  refine (s_ShrinkFailure y0.ri l0 y1.rii l1 g1 y2.ri l2 y3.ri l3 (by omega) (by omega) (by omega) (by omega)).mono ?_
  rintro e w6 ⟨Wa, Wc, rfl, W, b6⟩
  have z6 := b6.size
  have f0 := f0.below b6 (by omega)
  have f1 := f1.below b6 (by omega)
  have f2 := f2.below b6 (by omega)
  have f3 := f3.below b6 (by omega)
  have y0 := y0.below b6 (by omega)
  have y1 := y1.below b6 (by omega)
  have y2 := y2.below b6 (by omega)
  have y3 := y3.below b6 (by omega)
  have B6 := bnext B5 b6
  go_wp2_with fail
  refine (l_toIntS f0 (by omega) (by omega) (by omega)).mono ?_
  rintro e w7 ⟨x0a, x0c, rfl, x0, b7⟩
  have z7 := b7.size
  have f0 := f0.below b7 (by omega)
  have f1 := f1.below b7 (by omega)
  have f2 := f2.below b7 (by omega)
  have f3 := f3.below b7 (by omega)
  have W := W.below b7 (by omega)
  have B7 := bnext B6 b7
  go_wp2_with fail
  refine (l_toIntSS f1 (by omega) H20_1.out.1 H20_1.out.2.1).mono ?_
  rintro e w8 ⟨x1a, x1c, rfl, x1, b8⟩
  have z8 := b8.size
  have f0 := f0.below b8 (by omega)
  have f1 := f1.below b8 (by omega)
  have f2 := f2.below b8 (by omega)
  have f3 := f3.below b8 (by omega)
  have W := W.below b8 (by omega)
  have x0 := x0.below b8 (by omega)
  have B8 := bnext B7 b8
  go_wp2_with fail
  refine (l_toIntS f2 (by omega) (by omega) (by omega)).mono ?_
  rintro e w9 ⟨x2a, x2c, rfl, x2, b9⟩
  have z9 := b9.size
  have f0 := f0.below b9 (by omega)
  have f1 := f1.below b9 (by omega)
  have f2 := f2.below b9 (by omega)
  have f3 := f3.below b9 (by omega)
  have W := W.below b9 (by omega)
  have x0 := x0.below b9 (by omega)
  have x1 := x1.below b9 (by omega)
  have B9 := bnext B8 b9
  go_wp2_with fail
  refine (l_toIntS f3 (by omega) (by omega) (by omega)).mono ?_
  rintro e w10 ⟨x3a, x3c, rfl, x3, b10⟩
  have z10 := b10.size
  have f0 := f0.below b10 (by omega)
  have f1 := f1.below b10 (by omega)
  have f2 := f2.below b10 (by omega)
  have f3 := f3.below b10 (by omega)
  have W := W.below b10 (by omega)
  have x0 := x0.below b10 (by omega)
  have x1 := x1.below b10 (by omega)
  have x2 := x2.below b10 (by omega)
  have B10 := bnext B9 b10
  go_wp2_with fail
  refine (i_ShrinkFailure x0.ri l0 x1.rii l1 g1 x2.ri l2 x3.ri l3 (by omega) (by omega) (by omega) (by omega)).mono ?_
  rintro e w11 ⟨Ga, Gc, rfl, G, b11⟩
  have z11 := b11.size
  have f0 := f0.below b11 (by omega)
  have f1 := f1.below b11 (by omega)
  have f2 := f2.below b11 (by omega)
  have f3 := f3.below b11 (by omega)
  have W := W.below b11 (by omega)
  have x0 := x0.below b11 (by omega)
  have x1 := x1.below b11 (by omega)
  have x2 := x2.below b11 (by omega)
  have x3 := x3.below b11 (by omega)
  have B11 := bnext B10 b11
  have heqL : eqI (shL m0 m1 m2 m3) (shL m0 m1 m2 m3) = true := eqI_true.2 rfl
  go_wp2_with fail
  refine (l_eqIntS G.ri W.ri (by omega) (by omega)).mono ?_
  rintro e w12 ⟨rfl, d12⟩
  have b12 := Dr.below d12 w11.heap.size
  have z12 := Dr.le d12
  have f0 := f0.below b12 (by omega)
  have f1 := f1.below b12 (by omega)
  have f2 := f2.below b12 (by omega)
  have f3 := f3.below b12 (by omega)
  have W := W.below b12 (by omega)
  have x0 := x0.below b12 (by omega)
  have x1 := x1.below b12 (by omega)
  have x2 := x2.below b12 (by omega)
  have x3 := x3.below b12 (by omega)
  have G := G.below b12 (by omega)
  have B12 := bnext B11 b12
  go_wp2_with fail
  refine (l_toIntS f0 (by omega) (by omega) (by omega)).mono ?_
  rintro e w13 ⟨u0a, u0c, rfl, u0, b13⟩
  have z13 := b13.size
  have f0 := f0.below b13 (by omega)
  have f1 := f1.below b13 (by omega)
  have f2 := f2.below b13 (by omega)
  have f3 := f3.below b13 (by omega)
  have W := W.below b13 (by omega)
  have x0 := x0.below b13 (by omega)
  have x1 := x1.below b13 (by omega)
  have x2 := x2.below b13 (by omega)
  have x3 := x3.below b13 (by omega)
  have G := G.below b13 (by omega)
  have B13 := bnext B12 b13
  go_wp2_with fail
  refine (l_eqIntS x0.ri u0.ri (by omega) (by omega)).mono ?_
  rintro e w14 ⟨rfl, d14⟩
  have b14 := Dr.below d14 w13.heap.size
  have z14 := Dr.le d14
  have f0 := f0.below b14 (by omega)
  have f1 := f1.below b14 (by omega)
  have f2 := f2.below b14 (by omega)
  have f3 := f3.below b14 (by omega)
  have W := W.below b14 (by omega)
  have x0 := x0.below b14 (by omega)
  have x1 := x1.below b14 (by omega)
  have x2 := x2.below b14 (by omega)
  have x3 := x3.below b14 (by omega)
  have G := G.below b14 (by omega)
  have u0 := u0.below b14 (by omega)
  have B14 := bnext B13 b14
  have heq0 : eqI m0 m0 = true := eqI_true.2 rfl
  go_wp2_with fail
  refine (l_toIntSS f1 (by omega) H20_1.out.1 H20_1.out.2.1).mono ?_
  rintro e w15 ⟨u1a, u1c, rfl, u1, b15⟩
  have z15 := b15.size
  have f0 := f0.below b15 (by omega)
  have f1 := f1.below b15 (by omega)
  have f2 := f2.below b15 (by omega)
  have f3 := f3.below b15 (by omega)
  have W := W.below b15 (by omega)
  have x0 := x0.below b15 (by omega)
  have x1 := x1.below b15 (by omega)
  have x2 := x2.below b15 (by omega)
  have x3 := x3.below b15 (by omega)
  have G := G.below b15 (by omega)
  have B15 := bnext B14 b15
  go_wp2_with fail
  refine (l_eqIntSS x1.rii u1.rii (by omega) (by omega) (fun r hr => by have := H20_1.out.2.1 r hr; omega) (fun r hr => by have := H20_1.out.2.1 r hr; omega)).mono ?_
  rintro e w16 ⟨rfl, d16⟩
  have b16 := Dr.below d16 w15.heap.size
  have z16 := Dr.le d16
  have f0 := f0.below b16 (by omega)
  have f1 := f1.below b16 (by omega)
  have f2 := f2.below b16 (by omega)
  have f3 := f3.below b16 (by omega)
  have W := W.below b16 (by omega)
  have x0 := x0.below b16 (by omega)
  have x1 := x1.below b16 (by omega)
  have x2 := x2.below b16 (by omega)
  have x3 := x3.below b16 (by omega)
  have G := G.below b16 (by omega)
  have u1 := u1.below b16 (by omega)
  have B16 := bnext B15 b16
  have heq1 : eqII m1 m1 = true := eqII_true.2 rfl
  go_wp2_with fail
  refine (l_toIntS f2 (by omega) (by omega) (by omega)).mono ?_
  rintro e w17 ⟨u2a, u2c, rfl, u2, b17⟩
  have z17 := b17.size
  have f0 := f0.below b17 (by omega)
  have f1 := f1.below b17 (by omega)
  have f2 := f2.below b17 (by omega)
  have f3 := f3.below b17 (by omega)
  have W := W.below b17 (by omega)
  have x0 := x0.below b17 (by omega)
  have x1 := x1.below b17 (by omega)
  have x2 := x2.below b17 (by omega)
  have x3 := x3.below b17 (by omega)
  have G := G.below b17 (by omega)
  have B17 := bnext B16 b17
  go_wp2_with fail
  refine (l_eqIntS x2.ri u2.ri (by omega) (by omega)).mono ?_
  rintro e w18 ⟨rfl, d18⟩
  have b18 := Dr.below d18 w17.heap.size
  have z18 := Dr.le d18
  have f0 := f0.below b18 (by omega)
  have f1 := f1.below b18 (by omega)
  have f2 := f2.below b18 (by omega)
  have f3 := f3.below b18 (by omega)
  have W := W.below b18 (by omega)
  have x0 := x0.below b18 (by omega)
  have x1 := x1.below b18 (by omega)
  have x2 := x2.below b18 (by omega)
  have x3 := x3.below b18 (by omega)
  have G := G.below b18 (by omega)
  have u2 := u2.below b18 (by omega)
  have B18 := bnext B17 b18
  have heq2 : eqI m2 m2 = true := eqI_true.2 rfl
  go_wp2_with fail
  refine (l_toIntS f3 (by omega) (by omega) (by omega)).mono ?_
  rintro e w19 ⟨u3a, u3c, rfl, u3, b19⟩
  have z19 := b19.size
  have f0 := f0.below b19 (by omega)
  have f1 := f1.below b19 (by omega)
  have f2 := f2.below b19 (by omega)
  have f3 := f3.below b19 (by omega)
  have W := W.below b19 (by omega)
  have x0 := x0.below b19 (by omega)
  have x1 := x1.below b19 (by omega)
  have x2 := x2.below b19 (by omega)
  have x3 := x3.below b19 (by omega)
  have G := G.below b19 (by omega)
  have B19 := bnext B18 b19
  go_wp2_with fail
  refine (l_eqIntS x3.ri u3.ri (by omega) (by omega)).mono ?_
  rintro e w20 ⟨rfl, d20⟩
  have b20 := Dr.below d20 w19.heap.size
  have z20 := Dr.le d20
  have f0 := f0.below b20 (by omega)
  have f1 := f1.below b20 (by omega)
  have f2 := f2.below b20 (by omega)
  have f3 := f3.below b20 (by omega)
  have W := W.below b20 (by omega)
  have x0 := x0.below b20 (by omega)
  have x1 := x1.below b20 (by omega)
  have x2 := x2.below b20 (by omega)
  have x3 := x3.below b20 (by omega)
  have G := G.below b20 (by omega)
  have u3 := u3.below b20 (by omega)
  have B20 := bnext B19 b20
  have heq3 : eqI m3 m3 = true := eqI_true.2 rfl
  go_wp2_with fail
  refine (l_markIntS x0.oi (by omega) (by omega) (by omega)).mono ?_
  rintro e w21 ⟨rfl, x0, u21, e21⟩
  have z21 := eq_le e21
  clear e21
  have f0 := f0.upd u21 (by omega) (by omega)
  have f1 := f1.upd u21 (by omega) (by omega)
  have f2 := f2.upd u21 (by omega) (by omega)
  have f3 := f3.upd u21 (by omega) (by omega)
  have W := W.upd u21 (by omega) (by omega)
  have x1 := x1.upd u21 (by omega) (by omega)
  have x2 := x2.upd u21 (by omega) (by omega)
  have x3 := x3.upd u21 (by omega) (by omega)
  have G := G.upd u21 (by omega) (by omega)
  have B21 := bupd B20 u21 (by omega)
  clear u21
  have hS_1 := H20_1.out.2.2
  go_wp2_with fail
  refine (l_markIntSS x1.oii (by omega) (by omega) (by omega) (by omega) (by omega)).mono ?_
  rintro e w22 ⟨rfl, x1, u22, e22⟩
  have z22 := eq_le e22
  clear e22
  have f0 := f0.upd u22 (by omega) (by omega)
  have f1 := f1.upd u22 (by omega) (by omega)
  have f2 := f2.upd u22 (by omega) (by omega)
  have f3 := f3.upd u22 (by omega) (by omega)
  have W := W.upd u22 (by omega) (by omega)
  have x2 := x2.upd u22 (by omega) (by omega)
  have x3 := x3.upd u22 (by omega) (by omega)
  have G := G.upd u22 (by omega) (by omega)
  have B22 := bupd B21 u22 (by omega)
  clear u22
  go_wp2_with fail
  refine (l_markIntS x2.oi (by omega) (by omega) (by omega)).mono ?_
  rintro e w23 ⟨rfl, x2, u23, e23⟩
  have z23 := eq_le e23
  clear e23
  have f0 := f0.upd u23 (by omega) (by omega)
  have f1 := f1.upd u23 (by omega) (by omega)
  have f2 := f2.upd u23 (by omega) (by omega)
  have f3 := f3.upd u23 (by omega) (by omega)
  have W := W.upd u23 (by omega) (by omega)
  have x3 := x3.upd u23 (by omega) (by omega)
  have G := G.upd u23 (by omega) (by omega)
  have B23 := bupd B22 u23 (by omega)
  clear u23
  go_wp2_with fail
  refine (l_markIntS x3.oi (by omega) (by omega) (by omega)).mono ?_
  rintro e w24 ⟨rfl, x3, u24, e24⟩
  have z24 := eq_le e24
  clear e24
  have f0 := f0.upd u24 (by omega) (by omega)
  have f1 := f1.upd u24 (by omega) (by omega)
  have f2 := f2.upd u24 (by omega) (by omega)
  have f3 := f3.upd u24 (by omega) (by omega)
  have W := W.upd u24 (by omega) (by omega)
  have G := G.upd u24 (by omega) (by omega)
  have B24 := bupd B23 u24 (by omega)
  clear u24
  have hk0 : 0 ≤ 1 + (m0.length : Int) + (sumL m1 : Int) + (m2.length : Int) + (m3.length : Int) := by omega
  go_wp2_with fail
  refine (l_eqIntS G.ri W.ri (by omega) (by omega)).mono ?_
  rintro e w25 ⟨rfl, d25⟩
  have b25 := Dr.below d25 w24.heap.size
  have z25 := Dr.le d25
  have f0 := f0.below b25 (by omega)
  have f1 := f1.below b25 (by omega)
  have f2 := f2.below b25 (by omega)
  have f3 := f3.below b25 (by omega)
  have W := W.below b25 (by omega)
  have G := G.below b25 (by omega)
  have B25 := bnext B24 b25
  go_wp2_with fail
  refine (l_markIntS G.oi (by omega) (by omega) (by omega)).mono ?_
  rintro e w26 ⟨rfl, G, u26, e26⟩
  have z26 := eq_le e26
  clear e26
  have f0 := f0.upd u26 (by omega) (by omega)
  have f1 := f1.upd u26 (by omega) (by omega)
  have f2 := f2.upd u26 (by omega) (by omega)
  have f3 := f3.upd u26 (by omega) (by omega)
  have W := W.upd u26 (by omega) (by omega)
  have B26 := bupd B25 u26 (by omega)
  clear u26
  go_wp2_with fail
  refine (l_heldIntS G.ri (by omega) (by omega) (by omega)).mono ?_
  rintro e w27 ⟨rfl, d27⟩
  have b27 := Dr.below d27 w26.heap.size
  have z27 := Dr.le d27
  have f0 := f0.below b27 (by omega)
  have f1 := f1.below b27 (by omega)
  have f2 := f2.below b27 (by omega)
  have f3 := f3.below b27 (by omega)
  have W := W.below b27 (by omega)
  have G := G.below b27 (by omega)
  have B27 := bnext B26 b27
  go_wp2_with fail
  refine (l_toIntS f0 (by omega) (by omega) (by omega)).mono ?_
  rintro e w28 ⟨v0a, v0c, rfl, v0, b28⟩
  have z28 := b28.size
  have f0 := f0.below b28 (by omega)
  have f1 := f1.below b28 (by omega)
  have f2 := f2.below b28 (by omega)
  have f3 := f3.below b28 (by omega)
  have W := W.below b28 (by omega)
  have G := G.below b28 (by omega)
  have B28 := bnext B27 b28
  go_wp2_with fail
  refine (l_toIntSS f1 (by omega) H20_1.out.1 H20_1.out.2.1).mono ?_
  rintro e w29 ⟨v1a, v1c, rfl, v1, b29⟩
  have z29 := b29.size
  have f1 := f1.below b29 (by omega)
  have f2 := f2.below b29 (by omega)
  have f3 := f3.below b29 (by omega)
  have W := W.below b29 (by omega)
  have G := G.below b29 (by omega)
  have v0 := v0.below b29 (by omega)
  have B29 := bnext B28 b29
  go_wp2_with fail
  refine (l_toIntS f2 (by omega) (by omega) (by omega)).mono ?_
  rintro e w30 ⟨v2a, v2c, rfl, v2, b30⟩
  have z30 := b30.size
  have f2 := f2.below b30 (by omega)
  have f3 := f3.below b30 (by omega)
  have W := W.below b30 (by omega)
  have G := G.below b30 (by omega)
  have v0 := v0.below b30 (by omega)
  have v1 := v1.below b30 (by omega)
  have B30 := bnext B29 b30
  go_wp2_with fail
  refine (l_toIntS f3 (by omega) (by omega) (by omega)).mono ?_
  rintro e w31 ⟨v3a, v3c, rfl, v3, b31⟩
  have z31 := b31.size
  have f3 := f3.below b31 (by omega)
  have W := W.below b31 (by omega)
  have G := G.below b31 (by omega)
  have v0 := v0.below b31 (by omega)
  have v1 := v1.below b31 (by omega)
  have v2 := v2.below b31 (by omega)
  have B31 := bnext B30 b31
  go_wp2_with fail
  refine (i_ShrinkFailure v0.ri l0 v1.rii l1 g1 v2.ri l2 v3.ri l3 (by omega) (by omega) (by omega) (by omega)).mono ?_
  rintro e w32 ⟨Ka, Kc, rfl, K, b32⟩
  have z32 := b32.size
  have W := W.below b32 (by omega)
  have G := G.below b32 (by omega)
  have v0 := v0.below b32 (by omega)
  have v1 := v1.below b32 (by omega)
  have v2 := v2.below b32 (by omega)
  have v3 := v3.below b32 (by omega)
  have B32 := bnext B31 b32
  go_wp2_with fail
  refine (l_eqIntS K.ri W.ri (by omega) (by omega)).mono ?_
  rintro e w33 ⟨rfl, d33⟩
  have b33 := Dr.below d33 w32.heap.size
  have z33 := Dr.le d33
  have W := W.below b33 (by omega)
  have G := G.below b33 (by omega)
  have K := K.below b33 (by omega)
  have B33 := bnext B32 b33
  go_wp2_with fail
  refine (l_heldIntS G.ri (by omega) (by omega) (by omega)).mono ?_
  rintro e w34 ⟨rfl, d34⟩
  have b34 := Dr.below d34 w33.heap.size
  have z34 := Dr.le d34
  have G := G.below b34 (by omega)
  have B34 := bnext B33 b34
  go_wp2
  go_ret
  exact ⟨rfl, B34⟩

end Go.Proofs.Ytbdbfbobcdepgaa
