/- The walk of FnExactParseSuite: it returns true and writes nothing that was there. -/
import Derived.Test.YtpioldgpfpmjiaaDoorWj
import Derived.Test.YtpioldgpfpmjiaaDoorKl
import Derived.Test.YtpioldgpfpmjiaaDoorKm
namespace Go.Proofs.YtpioldgpfpmjiaaDoor
open Go.RowKit

set_option maxRecDepth 100000 in
set_option maxHeartbeats 4000000 in
theorem law_ParseSuite {m0 : List Int} {a0 : Option Addr} {c0 : Nat} {t1 : ByteArray} {w : World} (f0 : RI w 0 w.heap.size a0 m0) (l0 : m0.length ≤ 9223372036854775807) (l1 : t1.size ≤ 9223372036854775807) :
    Calls Tryd.prog 4 #[.slice a0 m0.length c0, .string t1] w (Tru w) := by
  by_cases hb0 : m0.length ≤ 1048576
  case neg =>
    go_enter Tryd.func4, Tryd.ntmps4
    go_wp2
    go_ret
    exact ⟨rfl, Below.refl _ _⟩
  by_cases hb1 : t1.size ≤ 1048576
  case neg =>
    go_enter Tryd.func4, Tryd.ntmps4
    go_wp2
    go_ret
    exact ⟨rfl, Below.refl _ _⟩
  go_enter Tryd.func4, Tryd.ntmps4
  have hL := @psL_len m0 t1
  have hS := @psL_sum m0 t1
  have HL := Lib.hid (@psL_gr m0 t1)
  have hne : ((psB m0 t1) != (psB m0 t1)) = false := by simp
  go_wp2_with fail
  refine (l_toIntS f0 (by omega) (by omega) (by omega)).mono ?_
  rintro e w1 ⟨y0a, y0c, rfl, y0, b1⟩
  have z1 := b1.size
  have f0 := f0.below b1 (by omega)
  have B1 := b1
  go_wp2_with fail
  refine (s_ParseSuite y0.ri l0 (by omega) (by omega)).mono ?_
  rintro e w2 ⟨Wa, Wc, rfl, W, b2⟩
  have z2 := b2.size
  have f0 := f0.below b2 (by omega)
  have y0 := y0.below b2 (by omega)
  have B2 := bnext B1 b2
  go_wp2_with fail
  refine (l_toIntS f0 (by omega) (by omega) (by omega)).mono ?_
  rintro e w3 ⟨x0a, x0c, rfl, x0, b3⟩
  have z3 := b3.size
  have f0 := f0.below b3 (by omega)
  have W := W.below b3 (by omega)
  have B3 := bnext B2 b3
  go_wp2_with fail
  refine (i_ParseSuite x0.ri l0 (by omega) (by omega)).mono ?_
  rintro e w4 ⟨Ga, Gc, rfl, G, b4⟩
  have z4 := b4.size
  have f0 := f0.below b4 (by omega)
  have W := W.below b4 (by omega)
  have x0 := x0.below b4 (by omega)
  have B4 := bnext B3 b4
  have heqL : eqII (psL m0 t1) (psL m0 t1) = true := eqII_true.2 rfl
  go_wp2_with fail
  refine (l_eqIntSS G.rii W.rii (by omega) (by omega) HL.out.2 HL.out.2).mono ?_
  rintro e w5 ⟨rfl, d5⟩
  have b5 := Dr.below d5 w4.heap.size
  have z5 := Dr.le d5
  have f0 := f0.below b5 (by omega)
  have W := W.below b5 (by omega)
  have x0 := x0.below b5 (by omega)
  have G := G.below b5 (by omega)
  have B5 := bnext B4 b5
  go_wp2_with fail
  refine (l_toIntS f0 (by omega) (by omega) (by omega)).mono ?_
  rintro e w6 ⟨u0a, u0c, rfl, u0, b6⟩
  have z6 := b6.size
  have f0 := f0.below b6 (by omega)
  have W := W.below b6 (by omega)
  have x0 := x0.below b6 (by omega)
  have G := G.below b6 (by omega)
  have B6 := bnext B5 b6
  go_wp2_with fail
  refine (l_eqIntS x0.ri u0.ri (by omega) (by omega)).mono ?_
  rintro e w7 ⟨rfl, d7⟩
  have b7 := Dr.below d7 w6.heap.size
  have z7 := Dr.le d7
  have f0 := f0.below b7 (by omega)
  have W := W.below b7 (by omega)
  have x0 := x0.below b7 (by omega)
  have G := G.below b7 (by omega)
  have u0 := u0.below b7 (by omega)
  have B7 := bnext B6 b7
  have heq0 : eqI m0 m0 = true := eqI_true.2 rfl
  go_wp2_with fail
  refine (l_markIntS x0.oi (by omega) (by omega) (by omega)).mono ?_
  rintro e w8 ⟨rfl, x0, u8, e8⟩
  have z8 := eq_le e8
  clear e8
  have f0 := f0.upd u8 (by omega) (by omega)
  have W := W.upd u8 (by omega) (by omega)
  have G := G.upd u8 (by omega) (by omega)
  have B8 := bupd B7 u8 (by omega)
  clear u8
  have hk0 : 0 ≤ 1 + (m0.length : Int) := by omega
  go_wp2_with fail
  refine (l_eqIntSS G.rii W.rii (by omega) (by omega) HL.out.2 HL.out.2).mono ?_
  rintro e w9 ⟨rfl, d9⟩
  have b9 := Dr.below d9 w8.heap.size
  have z9 := Dr.le d9
  have f0 := f0.below b9 (by omega)
  have W := W.below b9 (by omega)
  have G := G.below b9 (by omega)
  have B9 := bnext B8 b9
  go_wp2_with fail
  refine (l_markIntSS G.oii (by omega) (by omega) (by omega) (by omega) (by omega)).mono ?_
  rintro e w10 ⟨rfl, G, u10, e10⟩
  have z10 := eq_le e10
  clear e10
  have f0 := f0.upd u10 (by omega) (by omega)
  have W := W.upd u10 (by omega) (by omega)
  have B10 := bupd B9 u10 (by omega)
  clear u10
  go_wp2_with fail
  refine (l_heldIntSS G.rii (by omega) (by omega) (by omega) (by omega)).mono ?_
  rintro e w11 ⟨rfl, d11⟩
  have b11 := Dr.below d11 w10.heap.size
  have z11 := Dr.le d11
  have f0 := f0.below b11 (by omega)
  have W := W.below b11 (by omega)
  have G := G.below b11 (by omega)
  have B11 := bnext B10 b11
  go_wp2_with fail
  refine (l_toIntS f0 (by omega) (by omega) (by omega)).mono ?_
  rintro e w12 ⟨v0a, v0c, rfl, v0, b12⟩
  have z12 := b12.size
  have f0 := f0.below b12 (by omega)
  have W := W.below b12 (by omega)
  have G := G.below b12 (by omega)
  have B12 := bnext B11 b12
  go_wp2_with fail
  refine (i_ParseSuite v0.ri l0 (by omega) (by omega)).mono ?_
  rintro e w13 ⟨Ka, Kc, rfl, K, b13⟩
  have z13 := b13.size
  have W := W.below b13 (by omega)
  have G := G.below b13 (by omega)
  have v0 := v0.below b13 (by omega)
  have B13 := bnext B12 b13
  go_wp2_with fail
  refine (l_eqIntSS K.rii W.rii (by omega) (by omega) HL.out.2 HL.out.2).mono ?_
  rintro e w14 ⟨rfl, d14⟩
  have b14 := Dr.below d14 w13.heap.size
  have z14 := Dr.le d14
  have W := W.below b14 (by omega)
  have G := G.below b14 (by omega)
  have K := K.below b14 (by omega)
  have B14 := bnext B13 b14
  go_wp2_with fail
  refine (l_heldIntSS G.rii (by omega) (by omega) (by omega) (by omega)).mono ?_
  rintro e w15 ⟨rfl, d15⟩
  have b15 := Dr.below d15 w14.heap.size
  have z15 := Dr.le d15
  have G := G.below b15 (by omega)
  have B15 := bnext B14 b15
  go_wp2
  go_ret
  exact ⟨rfl, B15⟩

end Go.Proofs.YtpioldgpfpmjiaaDoor
