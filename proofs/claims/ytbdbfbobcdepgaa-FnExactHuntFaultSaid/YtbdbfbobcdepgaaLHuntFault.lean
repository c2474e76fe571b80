/- The walk of FnExactHuntFault: it returns true and writes nothing that was there. -/
import Derived.Test.YtbdbfbobcdepgaaWj
import Derived.Test.YtbdbfbobcdepgaaJp
import Derived.Test.YtbdbfbobcdepgaaJq
namespace Go.Proofs.Ytbdbfbobcdepgaa
open Go.RowKit

set_option maxRecDepth 100000 in
set_option maxHeartbeats 4000000 in
theorem law_HuntFault {m0 : List Int} {a0 : Option Addr} {c0 : Nat} {m1 : List Int} {a1 : Option Addr} {c1 : Nat} {w : World} (f0 : RI w 0 w.heap.size a0 m0) (l0 : m0.length ≤ 9223372036854775807) (f1 : RI w 0 w.heap.size a1 m1) (l1 : m1.length ≤ 9223372036854775807) :
    Calls Try.prog 13 #[.slice a0 m0.length c0, .slice a1 m1.length c1] w (Tru w) := by
  by_cases hb0 : m0.length ≤ 1048576
  case neg =>
    go_enter Try.func13, Try.ntmps13
    go_wp2
    go_ret
    exact ⟨rfl, Below.refl _ _⟩
  by_cases hb1 : m1.length ≤ 1048576
  case neg =>
    go_enter Try.func13, Try.ntmps13
    go_wp2
    go_ret
    exact ⟨rfl, Below.refl _ _⟩
  go_enter Try.func13, Try.ntmps13
  have hL := @huL_len m0 m1
  have hS := @huL_sum m0 m1
  have HL := Lib.hid (@huL_gr m0 m1)
  have hne : ((huN m0 m1) != (huN m0 m1)) = false := by simp
  go_wp2_with fail
  refine (l_toIntS f0 (by omega) (by omega) (by omega)).mono ?_
  rintro e w1 ⟨y0a, y0c, rfl, y0, b1⟩
  have z1 := b1.size
  have f0 := f0.below b1 (by omega)
  have f1 := f1.below b1 (by omega)
  have B1 := b1
  go_wp2_with fail
  refine (l_toIntS f1 (by omega) (by omega) (by omega)).mono ?_
  rintro e w2 ⟨y1a, y1c, rfl, y1, b2⟩
  have z2 := b2.size
  have f0 := f0.below b2 (by omega)
  have f1 := f1.below b2 (by omega)
  have y0 := y0.below b2 (by omega)
  have B2 := bnext B1 b2
  go_wp2_with fail
  refine (s_HuntFault y0.ri l0 y1.ri l1 (by omega) (by omega)).mono ?_
  rintro e w3 ⟨Wa, Wc, rfl, W, b3⟩
  have z3 := b3.size
  have f0 := f0.below b3 (by omega)
  have f1 := f1.below b3 (by omega)
  have y0 := y0.below b3 (by omega)
  have y1 := y1.below b3 (by omega)
  have B3 := bnext B2 b3
  go_wp2_with fail
  refine (l_toIntS f0 (by omega) (by omega) (by omega)).mono ?_
  rintro e w4 ⟨x0a, x0c, rfl, x0, b4⟩
  have z4 := b4.size
  have f0 := f0.below b4 (by omega)
  have f1 := f1.below b4 (by omega)
  have W := W.below b4 (by omega)
  have B4 := bnext B3 b4
  go_wp2_with fail
  refine (l_toIntS f1 (by omega) (by omega) (by omega)).mono ?_
  rintro e w5 ⟨x1a, x1c, rfl, x1, b5⟩
  have z5 := b5.size
  have f0 := f0.below b5 (by omega)
  have f1 := f1.below b5 (by omega)
  have W := W.below b5 (by omega)
  have x0 := x0.below b5 (by omega)
  have B5 := bnext B4 b5
  go_wp2_with fail
  refine (i_HuntFault x0.ri l0 x1.ri l1 (by omega) (by omega)).mono ?_
  rintro e w6 ⟨Ga, Gc, rfl, G, b6⟩
  have z6 := b6.size
  have f0 := f0.below b6 (by omega)
  have f1 := f1.below b6 (by omega)
  have W := W.below b6 (by omega)
  have x0 := x0.below b6 (by omega)
  have x1 := x1.below b6 (by omega)
  have B6 := bnext B5 b6
  have heqL : eqII (huL m0 m1) (huL m0 m1) = true := eqII_true.2 rfl
  go_wp2_with fail
  refine (l_eqIntSS G.rii W.rii (by omega) (by omega) HL.out.2 HL.out.2).mono ?_
  rintro e w7 ⟨rfl, d7⟩
  have b7 := Dr.below d7 w6.heap.size
  have z7 := Dr.le d7
  have f0 := f0.below b7 (by omega)
  have f1 := f1.below b7 (by omega)
  have W := W.below b7 (by omega)
  have x0 := x0.below b7 (by omega)
  have x1 := x1.below b7 (by omega)
  have G := G.below b7 (by omega)
  have B7 := bnext B6 b7
  go_wp2_with fail
  refine (l_toIntS f0 (by omega) (by omega) (by omega)).mono ?_
  rintro e w8 ⟨u0a, u0c, rfl, u0, b8⟩
  have z8 := b8.size
  have f0 := f0.below b8 (by omega)
  have f1 := f1.below b8 (by omega)
  have W := W.below b8 (by omega)
  have x0 := x0.below b8 (by omega)
  have x1 := x1.below b8 (by omega)
  have G := G.below b8 (by omega)
  have B8 := bnext B7 b8
  go_wp2_with fail
  refine (l_eqIntS x0.ri u0.ri (by omega) (by omega)).mono ?_
  rintro e w9 ⟨rfl, d9⟩
  have b9 := Dr.below d9 w8.heap.size
  have z9 := Dr.le d9
  have f0 := f0.below b9 (by omega)
  have f1 := f1.below b9 (by omega)
  have W := W.below b9 (by omega)
  have x0 := x0.below b9 (by omega)
  have x1 := x1.below b9 (by omega)
  have G := G.below b9 (by omega)
  have u0 := u0.below b9 (by omega)
  have B9 := bnext B8 b9
  have heq0 : eqI m0 m0 = true := eqI_true.2 rfl
  go_wp2_with fail
  refine (l_toIntS f1 (by omega) (by omega) (by omega)).mono ?_
  rintro e w10 ⟨u1a, u1c, rfl, u1, b10⟩
  have z10 := b10.size
  have f0 := f0.below b10 (by omega)
  have f1 := f1.below b10 (by omega)
  have W := W.below b10 (by omega)
  have x0 := x0.below b10 (by omega)
  have x1 := x1.below b10 (by omega)
  have G := G.below b10 (by omega)
  have B10 := bnext B9 b10
  go_wp2_with fail
  refine (l_eqIntS x1.ri u1.ri (by omega) (by omega)).mono ?_
  rintro e w11 ⟨rfl, d11⟩
  have b11 := Dr.below d11 w10.heap.size
  have z11 := Dr.le d11
  have f0 := f0.below b11 (by omega)
  have f1 := f1.below b11 (by omega)
  have W := W.below b11 (by omega)
  have x0 := x0.below b11 (by omega)
  have x1 := x1.below b11 (by omega)
  have G := G.below b11 (by omega)
  have u1 := u1.below b11 (by omega)
  have B11 := bnext B10 b11
  have heq1 : eqI m1 m1 = true := eqI_true.2 rfl
  go_wp2_with fail
  refine (l_markIntS x0.oi (by omega) (by omega) (by omega)).mono ?_
  rintro e w12 ⟨rfl, x0, u12, e12⟩
  have z12 := eq_le e12
  clear e12
  have f0 := f0.upd u12 (by omega) (by omega)
  have f1 := f1.upd u12 (by omega) (by omega)
  have W := W.upd u12 (by omega) (by omega)
  have x1 := x1.upd u12 (by omega) (by omega)
  have G := G.upd u12 (by omega) (by omega)
  have B12 := bupd B11 u12 (by omega)
  clear u12
  go_wp2_with fail
  refine (l_markIntS x1.oi (by omega) (by omega) (by omega)).mono ?_
  rintro e w13 ⟨rfl, x1, u13, e13⟩
  have z13 := eq_le e13
  clear e13
  have f0 := f0.upd u13 (by omega) (by omega)
  have f1 := f1.upd u13 (by omega) (by omega)
  have W := W.upd u13 (by omega) (by omega)
  have G := G.upd u13 (by omega) (by omega)
  have B13 := bupd B12 u13 (by omega)
  clear u13
  have hk0 : 0 ≤ 1 + (m0.length : Int) + (m1.length : Int) := by omega
  go_wp2_with fail
  refine (l_eqIntSS G.rii W.rii (by omega) (by omega) HL.out.2 HL.out.2).mono ?_
  rintro e w14 ⟨rfl, d14⟩
  have b14 := Dr.below d14 w13.heap.size
  have z14 := Dr.le d14
  have f0 := f0.below b14 (by omega)
  have f1 := f1.below b14 (by omega)
  have W := W.below b14 (by omega)
  have G := G.below b14 (by omega)
  have B14 := bnext B13 b14
  go_wp2_with fail
  refine (l_markIntSS G.oii (by omega) (by omega) (by omega) (by omega) (by omega)).mono ?_
  rintro e w15 ⟨rfl, G, u15, e15⟩
  have z15 := eq_le e15
  clear e15
  have f0 := f0.upd u15 (by omega) (by omega)
  have f1 := f1.upd u15 (by omega) (by omega)
  have W := W.upd u15 (by omega) (by omega)
  have B15 := bupd B14 u15 (by omega)
  clear u15
  go_wp2_with fail
  refine (l_heldIntSS G.rii (by omega) (by omega) (by omega) (by omega)).mono ?_
  rintro e w16 ⟨rfl, d16⟩
  have b16 := Dr.below d16 w15.heap.size
  have z16 := Dr.le d16
  have f0 := f0.below b16 (by omega)
  have f1 := f1.below b16 (by omega)
  have W := W.below b16 (by omega)
  have G := G.below b16 (by omega)
  have B16 := bnext B15 b16
  go_wp2_with fail
  refine (l_toIntS f0 (by omega) (by omega) (by omega)).mono ?_
  rintro e w17 ⟨v0a, v0c, rfl, v0, b17⟩
  have z17 := b17.size
  have f0 := f0.below b17 (by omega)
  have f1 := f1.below b17 (by omega)
  have W := W.below b17 (by omega)
  have G := G.below b17 (by omega)
  have B17 := bnext B16 b17
  go_wp2_with fail
  refine (l_toIntS f1 (by omega) (by omega) (by omega)).mono ?_
  rintro e w18 ⟨v1a, v1c, rfl, v1, b18⟩
  have z18 := b18.size
  have f1 := f1.below b18 (by omega)
  have W := W.below b18 (by omega)
  have G := G.below b18 (by omega)
  have v0 := v0.below b18 (by omega)
  have B18 := bnext B17 b18
  go_wp2_with fail
  refine (i_HuntFault v0.ri l0 v1.ri l1 (by omega) (by omega)).mono ?_
  rintro e w19 ⟨Ka, Kc, rfl, K, b19⟩
  have z19 := b19.size
  have W := W.below b19 (by omega)
  have G := G.below b19 (by omega)
  have v0 := v0.below b19 (by omega)
  have v1 := v1.below b19 (by omega)
  have B19 := bnext B18 b19
  go_wp2_with fail
  refine (l_eqIntSS K.rii W.rii (by omega) (by omega) HL.out.2 HL.out.2).mono ?_
  rintro e w20 ⟨rfl, d20⟩
  have b20 := Dr.below d20 w19.heap.size
  have z20 := Dr.le d20
  have W := W.below b20 (by omega)
  have G := G.below b20 (by omega)
  have K := K.below b20 (by omega)
  have B20 := bnext B19 b20
  go_wp2_with fail
  refine (l_heldIntSS G.rii (by omega) (by omega) (by omega) (by omega)).mono ?_
  rintro e w21 ⟨rfl, d21⟩
  have b21 := Dr.below d21 w20.heap.size
  have z21 := Dr.le d21
  have G := G.below b21 (by omega)
  have B21 := bnext B20 b21
  go_wp2
  go_ret
  exact ⟨rfl, B21⟩

end Go.Proofs.Ytbdbfbobcdepgaa
