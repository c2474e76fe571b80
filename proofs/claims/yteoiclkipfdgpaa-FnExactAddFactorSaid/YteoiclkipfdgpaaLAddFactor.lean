/- The walk of FnExactAddFactor: it returns true and writes nothing that was there. -/
import Derived.Test.YteoiclkipfdgpaaWj
import Derived.Test.YteoiclkipfdgpaaKb
import Derived.Test.YteoiclkipfdgpaaKg
namespace Go.Proofs.Yteoiclkipfdgpaa
open Go.RowKit

set_option maxRecDepth 100000 in
set_option maxHeartbeats 4000000 in
theorem law_AddFactor {m0 : List Int} {a0 : Option Addr} {c0 : Nat} {m1 : List (List Int)} {a1 : Option Addr} {c1 : Nat} {t2 : Int} {t3 : Int} {w : World} (f0 : RI w 0 w.heap.size a0 m0) (l0 : m0.length ≤ 9223372036854775807) (f1 : RII w 0 w.heap.size a1 m1) (l1 : m1.length ≤ 9223372036854775807) (g1 : ∀ r ∈ m1, r.length ≤ 9223372036854775807) (f2 : -9223372036854775808 ≤ t2) (l2 : t2 ≤ 9223372036854775807) (f3 : -9223372036854775808 ≤ t3) (l3 : t3 ≤ 9223372036854775807) :
    Calls Try.prog 3 #[.slice a0 m0.length c0, .slice a1 m1.length c1, .int .i64 t2, .int .i64 t3] w (Tru w) := by
  by_cases hb0 : m0.length ≤ 1048576
  case neg =>
    go_enter Try.func3, Try.ntmps3
    go_wp2
    go_ret
    exact ⟨rfl, Below.refl _ _⟩
  by_cases hb1 : 0 ≤ szII m1 1048576
  case neg =>
    go_enter Try.func3, Try.ntmps3
    go_wp2_with fail
    refine (l_szIntSS f1 l1 g1 (by omega) (by omega)).mono ?_
    rintro e z1 ⟨rfl, d1⟩
    go_wp2
    go_ret
    exact ⟨rfl, Dr.below d1 _⟩
  have H20_1 := Lib.hid (szII_rows hb1 (by omega))
  have hL_1 := H20_1.out.1
  go_enter Try.func3, Try.ntmps3
  go_wp2_with fail
  refine (l_szIntSS f1 l1 g1 (by omega) (by omega)).mono ?_
  rintro e w1 ⟨rfl, d1⟩
  have b1 := Dr.below d1 w.heap.size
  have z1 := Dr.le d1
  have f0 := f0.below b1 (by omega)
  have f1 := f1.below b1 (by omega)
  have B1 := b1
  have hL := @adL_len m0 m1 t2 t3
  have hS := @adL_sum m0 m1 t2 t3
  have HL := Lib.hid (@adL_gr m0 m1 t2 t3)
  have hne : ((adB m0 m1 t2 t3) != (adB m0 m1 t2 t3)) = false := by simp
  go_wp2_with fail
  refine (l_toIntS f0 (by omega) (by omega) (by omega)).mono ?_
  rintro e w2 ⟨y0a, y0c, rfl, y0, b2⟩
  have z2 := b2.size
  have f0 := f0.below b2 (by omega)
  have f1 := f1.below b2 (by omega)
  have B2 := bnext B1 b2
  go_wp2_with fail
  refine (l_toIntSS f1 (by omega) H20_1.out.1 H20_1.out.2.1).mono ?_
  rintro e w3 ⟨y1a, y1c, rfl, y1, b3⟩
  have z3 := b3.size
  have f0 := f0.below b3 (by omega)
  have f1 := f1.below b3 (by omega)
  have y0 := y0.below b3 (by omega)
  have B3 := bnext B2 b3
  go_wp2_with fail
  refine (s_AddFactor y0.ri l0 y1.rii l1 g1 f2 l2 f3 l3 (by omega) (by omega)).mono ?_
  rintro e w4 ⟨Wa, Wc, rfl, W, b4⟩
  have z4 := b4.size
  have f0 := f0.below b4 (by omega)
  have f1 := f1.below b4 (by omega)
  have y0 := y0.below b4 (by omega)
  have y1 := y1.below b4 (by omega)
  have B4 := bnext B3 b4
  go_wp2_with fail
  refine (l_toIntS f0 (by omega) (by omega) (by omega)).mono ?_
  rintro e w5 ⟨x0a, x0c, rfl, x0, b5⟩
  have z5 := b5.size
  have f0 := f0.below b5 (by omega)
  have f1 := f1.below b5 (by omega)
  have W := W.below b5 (by omega)
  have B5 := bnext B4 b5
  go_wp2_with fail
  refine (l_toIntSS f1 (by omega) H20_1.out.1 H20_1.out.2.1).mono ?_
  rintro e w6 ⟨x1a, x1c, rfl, x1, b6⟩
  have z6 := b6.size
  have f0 := f0.below b6 (by omega)
  have f1 := f1.below b6 (by omega)
  have W := W.below b6 (by omega)
  have x0 := x0.below b6 (by omega)
  have B6 := bnext B5 b6
  go_wp2_with fail
  refine (i_AddFactor x0.ri hb0 x1.rii l1 g1 f2 l2 f3 l3 (by omega) (by omega)).mono ?_
  rintro e w7 ⟨Ga, Gc, rfl, G, b7⟩
  have z7 := b7.size
  have f0 := f0.below b7 (by omega)
  have f1 := f1.below b7 (by omega)
  have W := W.below b7 (by omega)
  have x0 := x0.below b7 (by omega)
  have x1 := x1.below b7 (by omega)
  have B7 := bnext B6 b7
  have heqL : eqII (adL m0 m1 t2 t3) (adL m0 m1 t2 t3) = true := eqII_true.2 rfl
  go_wp2_with fail
  refine (l_eqIntSS G.rii W.rii (by omega) (by omega) HL.out.2 HL.out.2).mono ?_
  rintro e w8 ⟨rfl, d8⟩
  have b8 := Dr.below d8 w7.heap.size
  have z8 := Dr.le d8
  have f0 := f0.below b8 (by omega)
  have f1 := f1.below b8 (by omega)
  have W := W.below b8 (by omega)
  have x0 := x0.below b8 (by omega)
  have x1 := x1.below b8 (by omega)
  have G := G.below b8 (by omega)
  have B8 := bnext B7 b8
  go_wp2_with fail
  refine (l_toIntS f0 (by omega) (by omega) (by omega)).mono ?_
  rintro e w9 ⟨u0a, u0c, rfl, u0, b9⟩
  have z9 := b9.size
  have f0 := f0.below b9 (by omega)
  have f1 := f1.below b9 (by omega)
  have W := W.below b9 (by omega)
  have x0 := x0.below b9 (by omega)
  have x1 := x1.below b9 (by omega)
  have G := G.below b9 (by omega)
  have B9 := bnext B8 b9
  go_wp2_with fail
  refine (l_eqIntS x0.ri u0.ri (by omega) (by omega)).mono ?_
  rintro e w10 ⟨rfl, d10⟩
  have b10 := Dr.below d10 w9.heap.size
  have z10 := Dr.le d10
  have f0 := f0.below b10 (by omega)
  have f1 := f1.below b10 (by omega)
  have W := W.below b10 (by omega)
  have x0 := x0.below b10 (by omega)
  have x1 := x1.below b10 (by omega)
  have G := G.below b10 (by omega)
  have u0 := u0.below b10 (by omega)
  have B10 := bnext B9 b10
  have heq0 : eqI m0 m0 = true := eqI_true.2 rfl
  go_wp2_with fail
  refine (l_toIntSS f1 (by omega) H20_1.out.1 H20_1.out.2.1).mono ?_
  rintro e w11 ⟨u1a, u1c, rfl, u1, b11⟩
  have z11 := b11.size
  have f0 := f0.below b11 (by omega)
  have f1 := f1.below b11 (by omega)
  have W := W.below b11 (by omega)
  have x0 := x0.below b11 (by omega)
  have x1 := x1.below b11 (by omega)
  have G := G.below b11 (by omega)
  have B11 := bnext B10 b11
  go_wp2_with fail
  refine (l_eqIntSS x1.rii u1.rii (by omega) (by omega) (fun r hr => by have := H20_1.out.2.1 r hr; omega) (fun r hr => by have := H20_1.out.2.1 r hr; omega)).mono ?_
  rintro e w12 ⟨rfl, d12⟩
  have b12 := Dr.below d12 w11.heap.size
  have z12 := Dr.le d12
  have f0 := f0.below b12 (by omega)
  have f1 := f1.below b12 (by omega)
  have W := W.below b12 (by omega)
  have x0 := x0.below b12 (by omega)
  have x1 := x1.below b12 (by omega)
  have G := G.below b12 (by omega)
  have u1 := u1.below b12 (by omega)
  have B12 := bnext B11 b12
  have heq1 : eqII m1 m1 = true := eqII_true.2 rfl
  go_wp2_with fail
  refine (l_markIntS x0.oi (by omega) (by omega) (by omega)).mono ?_
  rintro e w13 ⟨rfl, x0, u13, e13⟩
  have z13 := eq_le e13
  clear e13
  have f0 := f0.upd u13 (by omega) (by omega)
  have f1 := f1.upd u13 (by omega) (by omega)
  have W := W.upd u13 (by omega) (by omega)
  have x1 := x1.upd u13 (by omega) (by omega)
  have G := G.upd u13 (by omega) (by omega)
  have B13 := bupd B12 u13 (by omega)
  clear u13
  have hS_1 := H20_1.out.2.2
  go_wp2_with fail
  refine (l_markIntSS x1.oii (by omega) (by omega) (by omega) (by omega) (by omega)).mono ?_
  rintro e w14 ⟨rfl, x1, u14, e14⟩
  have z14 := eq_le e14
  clear e14
  have f0 := f0.upd u14 (by omega) (by omega)
  have f1 := f1.upd u14 (by omega) (by omega)
  have W := W.upd u14 (by omega) (by omega)
  have G := G.upd u14 (by omega) (by omega)
  have B14 := bupd B13 u14 (by omega)
  clear u14
  have hk0 : 0 ≤ 1 + (m0.length : Int) + (sumL m1 : Int) := by omega
  go_wp2_with fail
  refine (l_eqIntSS G.rii W.rii (by omega) (by omega) HL.out.2 HL.out.2).mono ?_
  rintro e w15 ⟨rfl, d15⟩
  have b15 := Dr.below d15 w14.heap.size
  have z15 := Dr.le d15
  have f0 := f0.below b15 (by omega)
  have f1 := f1.below b15 (by omega)
  have W := W.below b15 (by omega)
  have G := G.below b15 (by omega)
  have B15 := bnext B14 b15
  go_wp2_with fail
  refine (l_markIntSS G.oii (by omega) (by omega) (by omega) (by omega) (by omega)).mono ?_
  rintro e w16 ⟨rfl, G, u16, e16⟩
  have z16 := eq_le e16
  clear e16
  have f0 := f0.upd u16 (by omega) (by omega)
  have f1 := f1.upd u16 (by omega) (by omega)
  have W := W.upd u16 (by omega) (by omega)
  have B16 := bupd B15 u16 (by omega)
  clear u16
  go_wp2_with fail
  refine (l_heldIntSS G.rii (by omega) (by omega) (by omega) (by omega)).mono ?_
  rintro e w17 ⟨rfl, d17⟩
  have b17 := Dr.below d17 w16.heap.size
  have z17 := Dr.le d17
  have f0 := f0.below b17 (by omega)
  have f1 := f1.below b17 (by omega)
  have W := W.below b17 (by omega)
  have G := G.below b17 (by omega)
  have B17 := bnext B16 b17
  go_wp2_with fail
  refine (l_toIntS f0 (by omega) (by omega) (by omega)).mono ?_
  rintro e w18 ⟨v0a, v0c, rfl, v0, b18⟩
  have z18 := b18.size
  have f0 := f0.below b18 (by omega)
  have f1 := f1.below b18 (by omega)
  have W := W.below b18 (by omega)
  have G := G.below b18 (by omega)
  have B18 := bnext B17 b18
  go_wp2_with fail
  refine (l_toIntSS f1 (by omega) H20_1.out.1 H20_1.out.2.1).mono ?_
  rintro e w19 ⟨v1a, v1c, rfl, v1, b19⟩
  have z19 := b19.size
  have f1 := f1.below b19 (by omega)
  have W := W.below b19 (by omega)
  have G := G.below b19 (by omega)
  have v0 := v0.below b19 (by omega)
  have B19 := bnext B18 b19
  go_wp2_with fail
  refine (i_AddFactor v0.ri hb0 v1.rii l1 g1 f2 l2 f3 l3 (by omega) (by omega)).mono ?_
  rintro e w20 ⟨Ka, Kc, rfl, K, b20⟩
  have z20 := b20.size
  have W := W.below b20 (by omega)
  have G := G.below b20 (by omega)
  have v0 := v0.below b20 (by omega)
  have v1 := v1.below b20 (by omega)
  have B20 := bnext B19 b20
  go_wp2_with fail
  refine (l_eqIntSS K.rii W.rii (by omega) (by omega) HL.out.2 HL.out.2).mono ?_
  rintro e w21 ⟨rfl, d21⟩
  have b21 := Dr.below d21 w20.heap.size
  have z21 := Dr.le d21
  have W := W.below b21 (by omega)
  have G := G.below b21 (by omega)
  have K := K.below b21 (by omega)
  have B21 := bnext B20 b21
  go_wp2_with fail
  refine (l_heldIntSS G.rii (by omega) (by omega) (by omega) (by omega)).mono ?_
  rintro e w22 ⟨rfl, d22⟩
  have b22 := Dr.below d22 w21.heap.size
  have z22 := Dr.le d22
  have G := G.below b22 (by omega)
  have B22 := bnext B21 b22
  go_wp2
  go_ret
  exact ⟨rfl, B22⟩

end Go.Proofs.Yteoiclkipfdgpaa
