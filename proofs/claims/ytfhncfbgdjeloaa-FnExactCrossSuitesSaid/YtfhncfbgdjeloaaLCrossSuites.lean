/- The walk of FnExactCrossSuites: it returns true and writes nothing that was there. -/
import Derived.Test.YtfhncfbgdjeloaaWj
import Derived.Test.YtfhncfbgdjeloaaYp
namespace Go.Proofs.Ytfhncfbgdjeloaa
open Go.RowKit

set_option maxRecDepth 100000 in
set_option maxHeartbeats 4000000 in
theorem law_CrossSuites {m0 : List Int} {a0 : Option Addr} {c0 : Nat} {m1 : List (List Int)} {a1 : Option Addr} {c1 : Nat} {m2 : List Int} {a2 : Option Addr} {c2 : Nat} {m3 : List (List Int)} {a3 : Option Addr} {c3 : Nat} {w : World} (f0 : RI w 0 w.heap.size a0 m0) (l0 : m0.length ≤ 9223372036854775807) (f1 : RII w 0 w.heap.size a1 m1) (l1 : m1.length ≤ 9223372036854775807) (g1 : ∀ r ∈ m1, r.length ≤ 9223372036854775807) (f2 : RI w 0 w.heap.size a2 m2) (l2 : m2.length ≤ 9223372036854775807) (f3 : RII w 0 w.heap.size a3 m3) (l3 : m3.length ≤ 9223372036854775807) (g3 : ∀ r ∈ m3, r.length ≤ 9223372036854775807) :
    Calls Try.prog 14 #[.slice a0 m0.length c0, .slice a1 m1.length c1, .slice a2 m2.length c2, .slice a3 m3.length c3] w (Tru w) := by
  by_cases hb0 : m0.length ≤ 1048576
  case neg =>
    go_enter Try.func14, Try.ntmps14
    go_wp2
    go_ret
    exact ⟨rfl, Below.refl _ _⟩
  by_cases hb2 : m2.length ≤ 1048576
  case neg =>
    go_enter Try.func14, Try.ntmps14
    go_wp2
    go_ret
    exact ⟨rfl, Below.refl _ _⟩
  by_cases hb1 : 0 ≤ szII m1 1048576
  case neg =>
    go_enter Try.func14, Try.ntmps14
    go_wp2_with fail
    refine (l_szIntSS f1 l1 g1 (by omega) (by omega)).mono ?_
    rintro e z1 ⟨rfl, d1⟩
    go_wp2
    go_ret
    exact ⟨rfl, Dr.below d1 _⟩
  have hq1 := (szII_le hb1).2
  by_cases hb3 : 0 ≤ szII m3 (szII m1 1048576)
  case neg =>
    go_enter Try.func14, Try.ntmps14
    go_wp2_with fail
    refine (l_szIntSS f1 l1 g1 (by omega) (by omega)).mono ?_
    rintro e z1 ⟨rfl, d1⟩
    go_wp2_with fail
    refine (l_szIntSS (f3.dr d1) l3 g3 (by omega) (by omega)).mono ?_
    rintro e z3 ⟨rfl, d3⟩
    go_wp2
    go_ret
    exact ⟨rfl, Dr.below (Dr.trans d1 d3) _⟩
  have hq3 := (szII_le hb3).2
  have H20_1 := Lib.hid (szII_rows hb1 (by omega))
  have hL_1 := H20_1.out.1
  have H20_3 := Lib.hid (szII_rows hb3 (by omega))
  have hL_3 := H20_3.out.1
  go_enter Try.func14, Try.ntmps14
  go_wp2_with fail
  refine (l_szIntSS f1 l1 g1 (by omega) (by omega)).mono ?_
  rintro e w1 ⟨rfl, d1⟩
  have b1 := Dr.below d1 w.heap.size
  have z1 := Dr.le d1
  have f0 := f0.below b1 (by omega)
  have f1 := f1.below b1 (by omega)
  have f2 := f2.below b1 (by omega)
  have f3 := f3.below b1 (by omega)
  have B1 := b1
  go_wp2_with fail
  refine (l_szIntSS f3 l3 g3 (by omega) (by omega)).mono ?_
  rintro e w2 ⟨rfl, d2⟩
  have b2 := Dr.below d2 w1.heap.size
  have z2 := Dr.le d2
  have f0 := f0.below b2 (by omega)
  have f1 := f1.below b2 (by omega)
  have f2 := f2.below b2 (by omega)
  have f3 := f3.below b2 (by omega)
  have B2 := bnext B1 b2
  have hL := @crL_len m0 m2 m1 m3
  have hS := @crL_sum m0 m2 m1 m3
  have HL := Lib.hid (@crL_gr m0 m2 m1 m3)
  have hne : ((crB m0 m1 m2 m3) != (crB m0 m1 m2 m3)) = false := by simp
  go_wp2_with fail
  refine (l_toIntS f0 (by omega) (by omega) (by omega)).mono ?_
  rintro e w3 ⟨y0a, y0c, rfl, y0, b3⟩
  have z3 := b3.size
  have f0 := f0.below b3 (by omega)
  have f1 := f1.below b3 (by omega)
  have f2 := f2.below b3 (by omega)
  have f3 := f3.below b3 (by omega)
  have B3 := bnext B2 b3
  go_wp2_with fail
  refine (l_toIntSS f1 (by omega) H20_1.out.1 H20_1.out.2.1).mono ?_
  rintro e w4 ⟨y1a, y1c, rfl, y1, b4⟩
  have z4 := b4.size
  have f0 := f0.below b4 (by omega)
  have f1 := f1.below b4 (by omega)
  have f2 := f2.below b4 (by omega)
  have f3 := f3.below b4 (by omega)
  have y0 := y0.below b4 (by omega)
  have B4 := bnext B3 b4
  go_wp2_with fail
  refine (l_toIntS f2 (by omega) (by omega) (by omega)).mono ?_
  rintro e w5 ⟨y2a, y2c, rfl, y2, b5⟩
  have z5 := b5.size
  have f0 := f0.below b5 (by omega)
  have f1 := f1.below b5 (by omega)
  have f2 := f2.below b5 (by omega)
  have f3 := f3.below b5 (by omega)
  have y0 := y0.below b5 (by omega)
  have y1 := y1.below b5 (by omega)
  have B5 := bnext B4 b5
  go_wp2_with fail
  refine (l_toIntSS f3 (by omega) H20_3.out.1 H20_3.out.2.1).mono ?_
  rintro e w6 ⟨y3a, y3c, rfl, y3, b6⟩
  have z6 := b6.size
  have f0 := f0.below b6 (by omega)
  have f1 := f1.below b6 (by omega)
  have f2 := f2.below b6 (by omega)
  have f3 := f3.below b6 (by omega)
  have y0 := y0.below b6 (by omega)
  have y1 := y1.below b6 (by omega)
  have y2 := y2.below b6 (by omega)
  have B6 := bnext B5 b6
  go_wp2_with fail
  refine (s_CrossSuites y0.ri l0 y1.rii l1 g1 y2.ri l2 y3.rii l3 g3 (by omega) (by omega) (by omega) (by omega)).mono ?_
  rintro e w7 ⟨Wa, Wc, rfl, W, b7⟩
  have z7 := b7.size
  have f0 := f0.below b7 (by omega)
  have f1 := f1.below b7 (by omega)
  have f2 := f2.below b7 (by omega)
  have f3 := f3.below b7 (by omega)
  have y0 := y0.below b7 (by omega)
  have y1 := y1.below b7 (by omega)
  have y2 := y2.below b7 (by omega)
  have y3 := y3.below b7 (by omega)
  have B7 := bnext B6 b7
  go_wp2_with fail
  refine (l_toIntS f0 (by omega) (by omega) (by omega)).mono ?_
  rintro e w8 ⟨x0a, x0c, rfl, x0, b8⟩
  have z8 := b8.size
  have f0 := f0.below b8 (by omega)
  have f1 := f1.below b8 (by omega)
  have f2 := f2.below b8 (by omega)
  have f3 := f3.below b8 (by omega)
  have W := W.below b8 (by omega)
  have B8 := bnext B7 b8
  go_wp2_with fail
  refine (l_toIntSS f1 (by omega) H20_1.out.1 H20_1.out.2.1).mono ?_
  rintro e w9 ⟨x1a, x1c, rfl, x1, b9⟩
  have z9 := b9.size
  have f0 := f0.below b9 (by omega)
  have f1 := f1.below b9 (by omega)
  have f2 := f2.below b9 (by omega)
  have f3 := f3.below b9 (by omega)
  have W := W.below b9 (by omega)
  have x0 := x0.below b9 (by omega)
  have B9 := bnext B8 b9
  go_wp2_with fail
  refine (l_toIntS f2 (by omega) (by omega) (by omega)).mono ?_
  rintro e w10 ⟨x2a, x2c, rfl, x2, b10⟩
  have z10 := b10.size
  have f0 := f0.below b10 (by omega)
  have f1 := f1.below b10 (by omega)
  have f2 := f2.below b10 (by omega)
  have f3 := f3.below b10 (by omega)
  have W := W.below b10 (by omega)
  have x0 := x0.below b10 (by omega)
  have x1 := x1.below b10 (by omega)
  have B10 := bnext B9 b10
  go_wp2_with fail
  refine (l_toIntSS f3 (by omega) H20_3.out.1 H20_3.out.2.1).mono ?_
  rintro e w11 ⟨x3a, x3c, rfl, x3, b11⟩
  have z11 := b11.size
  have f0 := f0.below b11 (by omega)
  have f1 := f1.below b11 (by omega)
  have f2 := f2.below b11 (by omega)
  have f3 := f3.below b11 (by omega)
  have W := W.below b11 (by omega)
  have x0 := x0.below b11 (by omega)
  have x1 := x1.below b11 (by omega)
  have x2 := x2.below b11 (by omega)
  have B11 := bnext B10 b11
  go_wp2_with fail
  refine (i_CrossSuites x0.ri l0 x1.rii l1 g1 x2.ri l2 x3.rii l3 g3 (by omega) (by omega) (by omega) (by omega)).mono ?_
  rintro e w12 ⟨Ga, Gc, rfl, G, b12⟩
  have z12 := b12.size
  have f0 := f0.below b12 (by omega)
  have f1 := f1.below b12 (by omega)
  have f2 := f2.below b12 (by omega)
  have f3 := f3.below b12 (by omega)
  have W := W.below b12 (by omega)
  have x0 := x0.below b12 (by omega)
  have x1 := x1.below b12 (by omega)
  have x2 := x2.below b12 (by omega)
  have x3 := x3.below b12 (by omega)
  have B12 := bnext B11 b12
  have heqL : eqII (crL m0 m1 m2 m3) (crL m0 m1 m2 m3) = true := eqII_true.2 rfl
  go_wp2_with fail
  refine (l_eqIntSS G.rii W.rii (by omega) (by omega) HL.out.2 HL.out.2).mono ?_
  rintro e w13 ⟨rfl, d13⟩
  have b13 := Dr.below d13 w12.heap.size
  have z13 := Dr.le d13
  have f0 := f0.below b13 (by omega)
  have f1 := f1.below b13 (by omega)
  have f2 := f2.below b13 (by omega)
  have f3 := f3.below b13 (by omega)
  have W := W.below b13 (by omega)
  have x0 := x0.below b13 (by omega)
  have x1 := x1.below b13 (by omega)
  have x2 := x2.below b13 (by omega)
  have x3 := x3.below b13 (by omega)
  have G := G.below b13 (by omega)
  have B13 := bnext B12 b13
  go_wp2_with fail
  refine (l_toIntS f0 (by omega) (by omega) (by omega)).mono ?_
  rintro e w14 ⟨u0a, u0c, rfl, u0, b14⟩
  have z14 := b14.size
  have f0 := f0.below b14 (by omega)
  have f1 := f1.below b14 (by omega)
  have f2 := f2.below b14 (by omega)
  have f3 := f3.below b14 (by omega)
  have W := W.below b14 (by omega)
  have x0 := x0.below b14 (by omega)
  have x1 := x1.below b14 (by omega)
  have x2 := x2.below b14 (by omega)
  have x3 := x3.below b14 (by omega)
  have G := G.below b14 (by omega)
  have B14 := bnext B13 b14
  go_wp2_with fail
  refine (l_eqIntS x0.ri u0.ri (by omega) (by omega)).mono ?_
  rintro e w15 ⟨rfl, d15⟩
  have b15 := Dr.below d15 w14.heap.size
  have z15 := Dr.le d15
  have f0 := f0.below b15 (by omega)
  have f1 := f1.below b15 (by omega)
  have f2 := f2.below b15 (by omega)
  have f3 := f3.below b15 (by omega)
  have W := W.below b15 (by omega)
  have x0 := x0.below b15 (by omega)
  have x1 := x1.below b15 (by omega)
  have x2 := x2.below b15 (by omega)
  have x3 := x3.below b15 (by omega)
  have G := G.below b15 (by omega)
  have u0 := u0.below b15 (by omega)
  have B15 := bnext B14 b15
  have heq0 : eqI m0 m0 = true := eqI_true.2 rfl
  go_wp2_with fail
  refine (l_toIntSS f1 (by omega) H20_1.out.1 H20_1.out.2.1).mono ?_
  rintro e w16 ⟨u1a, u1c, rfl, u1, b16⟩
  have z16 := b16.size
  have f0 := f0.below b16 (by omega)
  have f1 := f1.below b16 (by omega)
  have f2 := f2.below b16 (by omega)
  have f3 := f3.below b16 (by omega)
  have W := W.below b16 (by omega)
  have x0 := x0.below b16 (by omega)
  have x1 := x1.below b16 (by omega)
  have x2 := x2.below b16 (by omega)
  have x3 := x3.below b16 (by omega)
  have G := G.below b16 (by omega)
  have B16 := bnext B15 b16
  go_wp2_with fail
  refine (l_eqIntSS x1.rii u1.rii (by omega) (by omega) (fun r hr => by have := H20_1.out.2.1 r hr; omega) (fun r hr => by have := H20_1.out.2.1 r hr; omega)).mono ?_
  rintro e w17 ⟨rfl, d17⟩
  have b17 := Dr.below d17 w16.heap.size
  have z17 := Dr.le d17
  have f0 := f0.below b17 (by omega)
  have f1 := f1.below b17 (by omega)
  have f2 := f2.below b17 (by omega)
  have f3 := f3.below b17 (by omega)
  have W := W.below b17 (by omega)
  have x0 := x0.below b17 (by omega)
  have x1 := x1.below b17 (by omega)
  have x2 := x2.below b17 (by omega)
  have x3 := x3.below b17 (by omega)
  have G := G.below b17 (by omega)
  have u1 := u1.below b17 (by omega)
  have B17 := bnext B16 b17
  have heq1 : eqII m1 m1 = true := eqII_true.2 rfl
  go_wp2_with fail
  refine (l_toIntS f2 (by omega) (by omega) (by omega)).mono ?_
  rintro e w18 ⟨u2a, u2c, rfl, u2, b18⟩
  have z18 := b18.size
  have f0 := f0.below b18 (by omega)
  have f1 := f1.below b18 (by omega)
  have f2 := f2.below b18 (by omega)
  have f3 := f3.below b18 (by omega)
  have W := W.below b18 (by omega)
  have x0 := x0.below b18 (by omega)
  have x1 := x1.below b18 (by omega)
  have x2 := x2.below b18 (by omega)
  have x3 := x3.below b18 (by omega)
  have G := G.below b18 (by omega)
  have B18 := bnext B17 b18
  go_wp2_with fail
  refine (l_eqIntS x2.ri u2.ri (by omega) (by omega)).mono ?_
  rintro e w19 ⟨rfl, d19⟩
  have b19 := Dr.below d19 w18.heap.size
  have z19 := Dr.le d19
  have f0 := f0.below b19 (by omega)
  have f1 := f1.below b19 (by omega)
  have f2 := f2.below b19 (by omega)
  have f3 := f3.below b19 (by omega)
  have W := W.below b19 (by omega)
  have x0 := x0.below b19 (by omega)
  have x1 := x1.below b19 (by omega)
  have x2 := x2.below b19 (by omega)
  have x3 := x3.below b19 (by omega)
  have G := G.below b19 (by omega)
  have u2 := u2.below b19 (by omega)
  have B19 := bnext B18 b19
  have heq2 : eqI m2 m2 = true := eqI_true.2 rfl
  go_wp2_with fail
  refine (l_toIntSS f3 (by omega) H20_3.out.1 H20_3.out.2.1).mono ?_
  rintro e w20 ⟨u3a, u3c, rfl, u3, b20⟩
  have z20 := b20.size
  have f0 := f0.below b20 (by omega)
  have f1 := f1.below b20 (by omega)
  have f2 := f2.below b20 (by omega)
  have f3 := f3.below b20 (by omega)
  have W := W.below b20 (by omega)
  have x0 := x0.below b20 (by omega)
  have x1 := x1.below b20 (by omega)
  have x2 := x2.below b20 (by omega)
  have x3 := x3.below b20 (by omega)
  have G := G.below b20 (by omega)
  have B20 := bnext B19 b20
  go_wp2_with fail
  refine (l_eqIntSS x3.rii u3.rii (by omega) (by omega) (fun r hr => by have := H20_3.out.2.1 r hr; omega) (fun r hr => by have := H20_3.out.2.1 r hr; omega)).mono ?_
  rintro e w21 ⟨rfl, d21⟩
  have b21 := Dr.below d21 w20.heap.size
  have z21 := Dr.le d21
  have f0 := f0.below b21 (by omega)
  have f1 := f1.below b21 (by omega)
  have f2 := f2.below b21 (by omega)
  have f3 := f3.below b21 (by omega)
  have W := W.below b21 (by omega)
  have x0 := x0.below b21 (by omega)
  have x1 := x1.below b21 (by omega)
  have x2 := x2.below b21 (by omega)
  have x3 := x3.below b21 (by omega)
  have G := G.below b21 (by omega)
  have u3 := u3.below b21 (by omega)
  have B21 := bnext B20 b21
  have heq3 : eqII m3 m3 = true := eqII_true.2 rfl
  go_wp2_with fail
  refine (l_markIntS x0.oi (by omega) (by omega) (by omega)).mono ?_
  rintro e w22 ⟨rfl, x0, u22, e22⟩
  have z22 := eq_le e22
  clear e22
  have f0 := f0.upd u22 (by omega) (by omega)
  have f1 := f1.upd u22 (by omega) (by omega)
  have f2 := f2.upd u22 (by omega) (by omega)
  have f3 := f3.upd u22 (by omega) (by omega)
  have W := W.upd u22 (by omega) (by omega)
  have x1 := x1.upd u22 (by omega) (by omega)
  have x2 := x2.upd u22 (by omega) (by omega)
  have x3 := x3.upd u22 (by omega) (by omega)
  have G := G.upd u22 (by omega) (by omega)
  have B22 := bupd B21 u22 (by omega)
  clear u22
  have hS_1 := H20_1.out.2.2
  go_wp2_with fail
  refine (l_markIntSS x1.oii (by omega) (by omega) (by omega) (by omega) (by omega)).mono ?_
  rintro e w23 ⟨rfl, x1, u23, e23⟩
  have z23 := eq_le e23
  clear e23
  have f0 := f0.upd u23 (by omega) (by omega)
  have f1 := f1.upd u23 (by omega) (by omega)
  have f2 := f2.upd u23 (by omega) (by omega)
  have f3 := f3.upd u23 (by omega) (by omega)
  have W := W.upd u23 (by omega) (by omega)
  have x2 := x2.upd u23 (by omega) (by omega)
  have x3 := x3.upd u23 (by omega) (by omega)
  have G := G.upd u23 (by omega) (by omega)
  have B23 := bupd B22 u23 (by omega)
  clear u23
  go_wp2_with fail
  refine (l_markIntS x2.oi (by omega) (by omega) (by omega)).mono ?_
  rintro e w24 ⟨rfl, x2, u24, e24⟩
  have z24 := eq_le e24
  clear e24
  have f0 := f0.upd u24 (by omega) (by omega)
  have f1 := f1.upd u24 (by omega) (by omega)
  have f2 := f2.upd u24 (by omega) (by omega)
  have f3 := f3.upd u24 (by omega) (by omega)
  have W := W.upd u24 (by omega) (by omega)
  have x3 := x3.upd u24 (by omega) (by omega)
  have G := G.upd u24 (by omega) (by omega)
  have B24 := bupd B23 u24 (by omega)
  clear u24
  have hS_3 := H20_3.out.2.2
  go_wp2_with fail
  refine (l_markIntSS x3.oii (by omega) (by omega) (by omega) (by omega) (by omega)).mono ?_
  rintro e w25 ⟨rfl, x3, u25, e25⟩
  have z25 := eq_le e25
  clear e25
  have f0 := f0.upd u25 (by omega) (by omega)
  have f1 := f1.upd u25 (by omega) (by omega)
  have f2 := f2.upd u25 (by omega) (by omega)
  have f3 := f3.upd u25 (by omega) (by omega)
  have W := W.upd u25 (by omega) (by omega)
  have G := G.upd u25 (by omega) (by omega)
  have B25 := bupd B24 u25 (by omega)
  clear u25
  have hk0 : 0 ≤ 1 + (m0.length : Int) + (sumL m1 : Int) + (m2.length : Int) + (sumL m3 : Int) := by omega
  go_wp2_with fail
  refine (l_eqIntSS G.rii W.rii (by omega) (by omega) HL.out.2 HL.out.2).mono ?_
  rintro e w26 ⟨rfl, d26⟩
  have b26 := Dr.below d26 w25.heap.size
  have z26 := Dr.le d26
  have f0 := f0.below b26 (by omega)
  have f1 := f1.below b26 (by omega)
  have f2 := f2.below b26 (by omega)
  have f3 := f3.below b26 (by omega)
  have W := W.below b26 (by omega)
  have G := G.below b26 (by omega)
  have B26 := bnext B25 b26
  go_wp2_with fail
  refine (l_markIntSS G.oii (by omega) (by omega) (by omega) (by omega) (by omega)).mono ?_
  rintro e w27 ⟨rfl, G, u27, e27⟩
  have z27 := eq_le e27
  clear e27
  have f0 := f0.upd u27 (by omega) (by omega)
  have f1 := f1.upd u27 (by omega) (by omega)
  have f2 := f2.upd u27 (by omega) (by omega)
  have f3 := f3.upd u27 (by omega) (by omega)
  have W := W.upd u27 (by omega) (by omega)
  have B27 := bupd B26 u27 (by omega)
  clear u27
  go_wp2_with fail
  refine (l_heldIntSS G.rii (by omega) (by omega) (by omega) (by omega)).mono ?_
  rintro e w28 ⟨rfl, d28⟩
  have b28 := Dr.below d28 w27.heap.size
  have z28 := Dr.le d28
  have f0 := f0.below b28 (by omega)
  have f1 := f1.below b28 (by omega)
  have f2 := f2.below b28 (by omega)
  have f3 := f3.below b28 (by omega)
  have W := W.below b28 (by omega)
  have G := G.below b28 (by omega)
  have B28 := bnext B27 b28
  go_wp2_with fail
  refine (l_toIntS f0 (by omega) (by omega) (by omega)).mono ?_
  rintro e w29 ⟨v0a, v0c, rfl, v0, b29⟩
  have z29 := b29.size
  have f0 := f0.below b29 (by omega)
  have f1 := f1.below b29 (by omega)
  have f2 := f2.below b29 (by omega)
  have f3 := f3.below b29 (by omega)
  have W := W.below b29 (by omega)
  have G := G.below b29 (by omega)
  have B29 := bnext B28 b29
  go_wp2_with fail
  refine (l_toIntSS f1 (by omega) H20_1.out.1 H20_1.out.2.1).mono ?_
  rintro e w30 ⟨v1a, v1c, rfl, v1, b30⟩
  have z30 := b30.size
  have f1 := f1.below b30 (by omega)
  have f2 := f2.below b30 (by omega)
  have f3 := f3.below b30 (by omega)
  have W := W.below b30 (by omega)
  have G := G.below b30 (by omega)
  have v0 := v0.below b30 (by omega)
  have B30 := bnext B29 b30
  go_wp2_with fail
  refine (l_toIntS f2 (by omega) (by omega) (by omega)).mono ?_
  rintro e w31 ⟨v2a, v2c, rfl, v2, b31⟩
  have z31 := b31.size
  have f2 := f2.below b31 (by omega)
  have f3 := f3.below b31 (by omega)
  have W := W.below b31 (by omega)
  have G := G.below b31 (by omega)
  have v0 := v0.below b31 (by omega)
  have v1 := v1.below b31 (by omega)
  have B31 := bnext B30 b31
  go_wp2_with fail
  refine (l_toIntSS f3 (by omega) H20_3.out.1 H20_3.out.2.1).mono ?_
  rintro e w32 ⟨v3a, v3c, rfl, v3, b32⟩
  have z32 := b32.size
  have f3 := f3.below b32 (by omega)
  have W := W.below b32 (by omega)
  have G := G.below b32 (by omega)
  have v0 := v0.below b32 (by omega)
  have v1 := v1.below b32 (by omega)
  have v2 := v2.below b32 (by omega)
  have B32 := bnext B31 b32
  go_wp2_with fail
  refine (i_CrossSuites v0.ri l0 v1.rii l1 g1 v2.ri l2 v3.rii l3 g3 (by omega) (by omega) (by omega) (by omega)).mono ?_
  rintro e w33 ⟨Ka, Kc, rfl, K, b33⟩
  have z33 := b33.size
  have W := W.below b33 (by omega)
  have G := G.below b33 (by omega)
  have v0 := v0.below b33 (by omega)
  have v1 := v1.below b33 (by omega)
  have v2 := v2.below b33 (by omega)
  have v3 := v3.below b33 (by omega)
  have B33 := bnext B32 b33
  go_wp2_with fail
  refine (l_eqIntSS K.rii W.rii (by omega) (by omega) HL.out.2 HL.out.2).mono ?_
  rintro e w34 ⟨rfl, d34⟩
  have b34 := Dr.below d34 w33.heap.size
  have z34 := Dr.le d34
  have W := W.below b34 (by omega)
  have G := G.below b34 (by omega)
  have K := K.below b34 (by omega)
  have B34 := bnext B33 b34
  go_wp2_with fail
  refine (l_heldIntSS G.rii (by omega) (by omega) (by omega) (by omega)).mono ?_
  rintro e w35 ⟨rfl, d35⟩
  have b35 := Dr.below d35 w34.heap.size
  have z35 := Dr.le d35
  have G := G.below b35 (by omega)
  have B35 := bnext B34 b35
  go_wp2
  go_ret
  exact ⟨rfl, B35⟩

end Go.Proofs.Ytfhncfbgdjeloaa
