/- The walk of FnExactCulpritsOf: it returns true and writes nothing that was there. -/
import Derived.Test.YtbdbfbobcdepgaaWj
import Derived.Test.YtbdbfbobcdepgaaJe
import Derived.Test.YtbdbfbobcdepgaaJf
import Derived.Test.YtbdbfbobcdepgaaJg
namespace Go.Proofs.Ytbdbfbobcdepgaa
open Go.RowKit

set_option maxRecDepth 100000 in
set_option maxHeartbeats 4000000 in
theorem law_CulpritsOf {m0 : List Int} {a0 : Option Addr} {c0 : Nat} {m1 : List (List Int)} {a1 : Option Addr} {c1 : Nat} {m2 : List Bool} {a2 : Option Addr} {c2 : Nat} {t3 : Int} {w : World} (f0 : RI w 0 w.heap.size a0 m0) (l0 : m0.length ≤ 9223372036854775807) (f1 : RII w 0 w.heap.size a1 m1) (l1 : m1.length ≤ 9223372036854775807) (g1 : ∀ r ∈ m1, r.length ≤ 9223372036854775807) (f2 : RBo w 0 w.heap.size a2 m2) (l2 : m2.length ≤ 9223372036854775807) (f3 : -9223372036854775808 ≤ t3) (l3 : t3 ≤ 9223372036854775807) :
    Calls Try.prog 9 #[.slice a0 m0.length c0, .slice a1 m1.length c1, .slice a2 m2.length c2, .int .i64 t3] w (Tru w) := by
  by_cases hb0 : m0.length ≤ 1048576
  case neg =>
    go_enter Try.func9, Try.ntmps9
    go_wp2
    go_ret
    exact ⟨rfl, Below.refl _ _⟩
  by_cases hb2 : m2.length ≤ 1048576
  case neg =>
    go_enter Try.func9, Try.ntmps9
    go_wp2
    go_ret
    exact ⟨rfl, Below.refl _ _⟩
  by_cases hb1 : 0 ≤ szII m1 1048576
  case neg =>
    go_enter Try.func9, Try.ntmps9
    go_wp2_with fail
    refine (l_szIntSS f1 l1 g1 (by omega) (by omega)).mono ?_
    rintro e z1 ⟨rfl, d1⟩
    go_wp2
    go_ret
    exact ⟨rfl, Dr.below d1 _⟩
  have H20_1 := Lib.hid (szII_rows hb1 (by omega))
  have hL_1 := H20_1.out.1
  go_enter Try.func9, Try.ntmps9
  go_wp2_with fail
  refine (l_szIntSS f1 l1 g1 (by omega) (by omega)).mono ?_
  rintro e w1 ⟨rfl, d1⟩
  have b1 := Dr.below d1 w.heap.size
  have z1 := Dr.le d1
  have f0 := f0.below b1 (by omega)
  have f1 := f1.below b1 (by omega)
  have f2 := f2.below b1 (by omega)
  have B1 := b1
  have hL := @cuL_len m0 m1 m2 t3
  have hS := @cuL_sum m0 m1 m2 t3
  have HL := Lib.hid (@cuL_gr m0 m1 m2 t3)
  go_wp2_with fail
  refine (l_toIntS f0 (by omega) (by omega) (by omega)).mono ?_
  rintro e w2 ⟨y0a, y0c, rfl, y0, b2⟩
  have z2 := b2.size
  have f0 := f0.below b2 (by omega)
  have f1 := f1.below b2 (by omega)
  have f2 := f2.below b2 (by omega)
  have B2 := bnext B1 b2
  go_wp2_with fail
  refine (l_toIntSS f1 (by omega) H20_1.out.1 H20_1.out.2.1).mono ?_
  rintro e w3 ⟨y1a, y1c, rfl, y1, b3⟩
  have z3 := b3.size
  have f0 := f0.below b3 (by omega)
  have f1 := f1.below b3 (by omega)
  have f2 := f2.below b3 (by omega)
  have y0 := y0.below b3 (by omega)
  have B3 := bnext B2 b3
  go_wp2_with fail
  refine (l_toBoolS f2 (by omega) (by omega) (by omega)).mono ?_
  rintro e w4 ⟨y2a, y2c, rfl, y2, b4⟩
  have z4 := b4.size
  have f0 := f0.below b4 (by omega)
  have f1 := f1.below b4 (by omega)
  have f2 := f2.below b4 (by omega)
  have y0 := y0.below b4 (by omega)
  have y1 := y1.below b4 (by omega)
  have B4 := bnext B3 b4
  go_wp2_with fail
  refine (s_CulpritsOf y0.ri l0 y1.rii l1 g1 y2.ri l2 f3 l3 (by omega) (by omega) (by omega)).mono ?_
  rintro e w5 ⟨Wa, Wc, rfl, W, b5⟩
  have z5 := b5.size
  have f0 := f0.below b5 (by omega)
  have f1 := f1.below b5 (by omega)
  have f2 := f2.below b5 (by omega)
  have y0 := y0.below b5 (by omega)
  have y1 := y1.below b5 (by omega)
  have y2 := y2.below b5 (by omega)
  have B5 := bnext B4 b5
  go_wp2_with fail
  refine (l_toIntS f0 (by omega) (by omega) (by omega)).mono ?_
  rintro e w6 ⟨x0a, x0c, rfl, x0, b6⟩
  have z6 := b6.size
  have f0 := f0.below b6 (by omega)
  have f1 := f1.below b6 (by omega)
  have f2 := f2.below b6 (by omega)
  have W := W.below b6 (by omega)
  have B6 := bnext B5 b6
  go_wp2_with fail
  refine (l_toIntSS f1 (by omega) H20_1.out.1 H20_1.out.2.1).mono ?_
  rintro e w7 ⟨x1a, x1c, rfl, x1, b7⟩
  have z7 := b7.size
  have f0 := f0.below b7 (by omega)
  have f1 := f1.below b7 (by omega)
  have f2 := f2.below b7 (by omega)
  have W := W.below b7 (by omega)
  have x0 := x0.below b7 (by omega)
  have B7 := bnext B6 b7
  go_wp2_with fail
  refine (l_toBoolS f2 (by omega) (by omega) (by omega)).mono ?_
  rintro e w8 ⟨x2a, x2c, rfl, x2, b8⟩
  have z8 := b8.size
  have f0 := f0.below b8 (by omega)
  have f1 := f1.below b8 (by omega)
  have f2 := f2.below b8 (by omega)
  have W := W.below b8 (by omega)
  have x0 := x0.below b8 (by omega)
  have x1 := x1.below b8 (by omega)
  have B8 := bnext B7 b8
  go_wp2_with fail
  refine (i_CulpritsOf x0.ri l0 x1.rii l1 g1 x2.ri l2 f3 l3 (by omega) (by omega) (by omega)).mono ?_
  rintro e w9 ⟨Ga, Gc, rfl, G, b9⟩
  have z9 := b9.size
  have f0 := f0.below b9 (by omega)
  have f1 := f1.below b9 (by omega)
  have f2 := f2.below b9 (by omega)
  have W := W.below b9 (by omega)
  have x0 := x0.below b9 (by omega)
  have x1 := x1.below b9 (by omega)
  have x2 := x2.below b9 (by omega)
  have B9 := bnext B8 b9
  have heqL : eqII (cuL m0 m1 m2 t3) (cuL m0 m1 m2 t3) = true := eqII_true.2 rfl
  go_wp2_with fail
  refine (l_eqIntSS G.rii W.rii (by omega) (by omega) HL.out.2 HL.out.2).mono ?_
  rintro e w10 ⟨rfl, d10⟩
  have b10 := Dr.below d10 w9.heap.size
  have z10 := Dr.le d10
  have f0 := f0.below b10 (by omega)
  have f1 := f1.below b10 (by omega)
  have f2 := f2.below b10 (by omega)
  have W := W.below b10 (by omega)
  have x0 := x0.below b10 (by omega)
  have x1 := x1.below b10 (by omega)
  have x2 := x2.below b10 (by omega)
  have G := G.below b10 (by omega)
  have B10 := bnext B9 b10
  go_wp2_with fail
  refine (l_toIntS f0 (by omega) (by omega) (by omega)).mono ?_
  rintro e w11 ⟨u0a, u0c, rfl, u0, b11⟩
  have z11 := b11.size
  have f0 := f0.below b11 (by omega)
  have f1 := f1.below b11 (by omega)
  have f2 := f2.below b11 (by omega)
  have W := W.below b11 (by omega)
  have x0 := x0.below b11 (by omega)
  have x1 := x1.below b11 (by omega)
  have x2 := x2.below b11 (by omega)
  have G := G.below b11 (by omega)
  have B11 := bnext B10 b11
  go_wp2_with fail
  refine (l_eqIntS x0.ri u0.ri (by omega) (by omega)).mono ?_
  rintro e w12 ⟨rfl, d12⟩
  have b12 := Dr.below d12 w11.heap.size
  have z12 := Dr.le d12
  have f0 := f0.below b12 (by omega)
  have f1 := f1.below b12 (by omega)
  have f2 := f2.below b12 (by omega)
  have W := W.below b12 (by omega)
  have x0 := x0.below b12 (by omega)
  have x1 := x1.below b12 (by omega)
  have x2 := x2.below b12 (by omega)
  have G := G.below b12 (by omega)
  have u0 := u0.below b12 (by omega)
  have B12 := bnext B11 b12
  have heq0 : eqI m0 m0 = true := eqI_true.2 rfl
  go_wp2_with fail
  refine (l_toIntSS f1 (by omega) H20_1.out.1 H20_1.out.2.1).mono ?_
  rintro e w13 ⟨u1a, u1c, rfl, u1, b13⟩
  have z13 := b13.size
  have f0 := f0.below b13 (by omega)
  have f1 := f1.below b13 (by omega)
  have f2 := f2.below b13 (by omega)
  have W := W.below b13 (by omega)
  have x0 := x0.below b13 (by omega)
  have x1 := x1.below b13 (by omega)
  have x2 := x2.below b13 (by omega)
  have G := G.below b13 (by omega)
  have B13 := bnext B12 b13
  go_wp2_with fail
  refine (l_eqIntSS x1.rii u1.rii (by omega) (by omega) (fun r hr => by have := H20_1.out.2.1 r hr; omega) (fun r hr => by have := H20_1.out.2.1 r hr; omega)).mono ?_
  rintro e w14 ⟨rfl, d14⟩
  have b14 := Dr.below d14 w13.heap.size
  have z14 := Dr.le d14
  have f0 := f0.below b14 (by omega)
  have f1 := f1.below b14 (by omega)
  have f2 := f2.below b14 (by omega)
  have W := W.below b14 (by omega)
  have x0 := x0.below b14 (by omega)
  have x1 := x1.below b14 (by omega)
  have x2 := x2.below b14 (by omega)
  have G := G.below b14 (by omega)
  have u1 := u1.below b14 (by omega)
  have B14 := bnext B13 b14
  have heq1 : eqII m1 m1 = true := eqII_true.2 rfl
  go_wp2_with fail
  refine (l_toBoolS f2 (by omega) (by omega) (by omega)).mono ?_
  rintro e w15 ⟨u2a, u2c, rfl, u2, b15⟩
  have z15 := b15.size
  have f0 := f0.below b15 (by omega)
  have f1 := f1.below b15 (by omega)
  have f2 := f2.below b15 (by omega)
  have W := W.below b15 (by omega)
  have x0 := x0.below b15 (by omega)
  have x1 := x1.below b15 (by omega)
  have x2 := x2.below b15 (by omega)
  have G := G.below b15 (by omega)
  have B15 := bnext B14 b15
  go_wp2_with fail
  refine (l_eqBoolS x2.ri u2.ri (by omega) (by omega)).mono ?_
  rintro e w16 ⟨rfl, d16⟩
  have b16 := Dr.below d16 w15.heap.size
  have z16 := Dr.le d16
  have f0 := f0.below b16 (by omega)
  have f1 := f1.below b16 (by omega)
  have f2 := f2.below b16 (by omega)
  have W := W.below b16 (by omega)
  have x0 := x0.below b16 (by omega)
  have x1 := x1.below b16 (by omega)
  have x2 := x2.below b16 (by omega)
  have G := G.below b16 (by omega)
  have u2 := u2.below b16 (by omega)
  have B16 := bnext B15 b16
  have heq2 : eqBo m2 m2 = true := eqBo_true.2 rfl
  go_wp2_with fail
  refine (l_markIntS x0.oi (by omega) (by omega) (by omega)).mono ?_
  rintro e w17 ⟨rfl, x0, u17, e17⟩
  have z17 := eq_le e17
  clear e17
  have f0 := f0.upd u17 (by omega) (by omega)
  have f1 := f1.upd u17 (by omega) (by omega)
  have f2 := f2.upd u17 (by omega) (by omega)
  have W := W.upd u17 (by omega) (by omega)
  have x1 := x1.upd u17 (by omega) (by omega)
  have x2 := x2.upd u17 (by omega) (by omega)
  have G := G.upd u17 (by omega) (by omega)
  have B17 := bupd B16 u17 (by omega)
  clear u17
  have hS_1 := H20_1.out.2.2
  go_wp2_with fail
  refine (l_markIntSS x1.oii (by omega) (by omega) (by omega) (by omega) (by omega)).mono ?_
  rintro e w18 ⟨rfl, x1, u18, e18⟩
  have z18 := eq_le e18
  clear e18
  have f0 := f0.upd u18 (by omega) (by omega)
  have f1 := f1.upd u18 (by omega) (by omega)
  have f2 := f2.upd u18 (by omega) (by omega)
  have W := W.upd u18 (by omega) (by omega)
  have x2 := x2.upd u18 (by omega) (by omega)
  have G := G.upd u18 (by omega) (by omega)
  have B18 := bupd B17 u18 (by omega)
  clear u18
  go_wp2_with fail
  refine (l_markBoolS x2.ob (by omega) (by omega) (by omega)).mono ?_
  rintro e w19 ⟨rfl, x2, u19, e19⟩
  have z19 := eq_le e19
  clear e19
  have f0 := f0.upd u19 (by omega) (by omega)
  have f1 := f1.upd u19 (by omega) (by omega)
  have f2 := f2.upd u19 (by omega) (by omega)
  have W := W.upd u19 (by omega) (by omega)
  have G := G.upd u19 (by omega) (by omega)
  have B19 := bupd B18 u19 (by omega)
  clear u19
  have hk0 : 0 ≤ 1 + (m0.length : Int) + (sumL m1 : Int) + (m2.length : Int) := by omega
  go_wp2_with fail
  refine (l_eqIntSS G.rii W.rii (by omega) (by omega) HL.out.2 HL.out.2).mono ?_
  rintro e w20 ⟨rfl, d20⟩
  have b20 := Dr.below d20 w19.heap.size
  have z20 := Dr.le d20
  have f0 := f0.below b20 (by omega)
  have f1 := f1.below b20 (by omega)
  have f2 := f2.below b20 (by omega)
  have W := W.below b20 (by omega)
  have G := G.below b20 (by omega)
  have B20 := bnext B19 b20
  go_wp2_with fail
  refine (l_markIntSS G.oii (by omega) (by omega) (by omega) (by omega) (by omega)).mono ?_
  rintro e w21 ⟨rfl, G, u21, e21⟩
  have z21 := eq_le e21
  clear e21
  have f0 := f0.upd u21 (by omega) (by omega)
  have f1 := f1.upd u21 (by omega) (by omega)
  have f2 := f2.upd u21 (by omega) (by omega)
  have W := W.upd u21 (by omega) (by omega)
  have B21 := bupd B20 u21 (by omega)
  clear u21
  go_wp2_with fail
  refine (l_heldIntSS G.rii (by omega) (by omega) (by omega) (by omega)).mono ?_
  rintro e w22 ⟨rfl, d22⟩
  have b22 := Dr.below d22 w21.heap.size
  have z22 := Dr.le d22
  have f0 := f0.below b22 (by omega)
  have f1 := f1.below b22 (by omega)
  have f2 := f2.below b22 (by omega)
  have W := W.below b22 (by omega)
  have G := G.below b22 (by omega)
  have B22 := bnext B21 b22
  go_wp2_with fail
  refine (l_toIntS f0 (by omega) (by omega) (by omega)).mono ?_
  rintro e w23 ⟨v0a, v0c, rfl, v0, b23⟩
  have z23 := b23.size
  have f0 := f0.below b23 (by omega)
  have f1 := f1.below b23 (by omega)
  have f2 := f2.below b23 (by omega)
  have W := W.below b23 (by omega)
  have G := G.below b23 (by omega)
  have B23 := bnext B22 b23
  go_wp2_with fail
  refine (l_toIntSS f1 (by omega) H20_1.out.1 H20_1.out.2.1).mono ?_
  rintro e w24 ⟨v1a, v1c, rfl, v1, b24⟩
  have z24 := b24.size
  have f1 := f1.below b24 (by omega)
  have f2 := f2.below b24 (by omega)
  have W := W.below b24 (by omega)
  have G := G.below b24 (by omega)
  have v0 := v0.below b24 (by omega)
  have B24 := bnext B23 b24
  go_wp2_with fail
  refine (l_toBoolS f2 (by omega) (by omega) (by omega)).mono ?_
  rintro e w25 ⟨v2a, v2c, rfl, v2, b25⟩
  have z25 := b25.size
  have f2 := f2.below b25 (by omega)
  have W := W.below b25 (by omega)
  have G := G.below b25 (by omega)
  have v0 := v0.below b25 (by omega)
  have v1 := v1.below b25 (by omega)
  have B25 := bnext B24 b25
  go_wp2_with fail
  refine (i_CulpritsOf v0.ri l0 v1.rii l1 g1 v2.ri l2 f3 l3 (by omega) (by omega) (by omega)).mono ?_
  rintro e w26 ⟨Ka, Kc, rfl, K, b26⟩
  have z26 := b26.size
  have W := W.below b26 (by omega)
  have G := G.below b26 (by omega)
  have v0 := v0.below b26 (by omega)
  have v1 := v1.below b26 (by omega)
  have v2 := v2.below b26 (by omega)
  have B26 := bnext B25 b26
  go_wp2_with fail
  refine (l_eqIntSS K.rii W.rii (by omega) (by omega) HL.out.2 HL.out.2).mono ?_
  rintro e w27 ⟨rfl, d27⟩
  have b27 := Dr.below d27 w26.heap.size
  have z27 := Dr.le d27
  have W := W.below b27 (by omega)
  have G := G.below b27 (by omega)
  have K := K.below b27 (by omega)
  have B27 := bnext B26 b27
  go_wp2_with fail
  refine (l_heldIntSS G.rii (by omega) (by omega) (by omega) (by omega)).mono ?_
  rintro e w28 ⟨rfl, d28⟩
  have b28 := Dr.below d28 w27.heap.size
  have z28 := Dr.le d28
  have G := G.below b28 (by omega)
  have B28 := bnext B27 b28
  go_wp2
  go_ret
  exact ⟨rfl, B28⟩

end Go.Proofs.Ytbdbfbobcdepgaa
