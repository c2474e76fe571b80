/- The walk of FnExactTurnRuns: it returns true and writes nothing that was there. -/
import Derived.Test.YtangmlppnnohiaaWj
import Derived.Test.YtangmlppnnohiaaUj
namespace Go.Proofs.Ytangmlppnnohiaa
open Go.RowKit

set_option maxRecDepth 100000 in
set_option maxHeartbeats 4000000 in
theorem law_TurnRuns {t0 : Int} {m1 : List (List Int)} {a1 : Option Addr} {c1 : Nat} {w : World} (f0 : -9223372036854775808 ≤ t0) (l0 : t0 ≤ 9223372036854775807) (f1 : RII w 0 w.heap.size a1 m1) (l1 : m1.length ≤ 9223372036854775807) (g1 : ∀ r ∈ m1, r.length ≤ 9223372036854775807) :
    Calls Try.prog 8 #[.int .i64 t0, .slice a1 m1.length c1] w (Tru w) := by
  by_cases hb1 : 0 ≤ szII m1 1048576
  case neg =>
    go_enter Try.func8, Try.ntmps8
    go_wp2_with fail
    refine (l_szIntSS f1 l1 g1 (by omega) (by omega)).mono ?_
    rintro e z1 ⟨rfl, d1⟩
    go_wp2
    go_ret
    exact ⟨rfl, Dr.below d1 _⟩
  have H20_1 := Lib.hid (szII_rows hb1 (by omega))
  have hL_1 := H20_1.out.1
  go_enter Try.func8, Try.ntmps8
  go_wp2_with fail
  refine (l_szIntSS f1 l1 g1 (by omega) (by omega)).mono ?_
  rintro e w1 ⟨rfl, d1⟩
  have b1 := Dr.below d1 w.heap.size
  have z1 := Dr.le d1
  have f1 := f1.below b1 (by omega)
  have B1 := b1
  have hL := @tuL_len t0 m1
  have hS := @tuL_sum t0 m1
  have HL := Lib.hid (@tuL_gr t0 m1)
  go_wp2_with fail
  refine (l_toIntSS f1 (by omega) H20_1.out.1 H20_1.out.2.1).mono ?_
  rintro e w2 ⟨y1a, y1c, rfl, y1, b2⟩
  have z2 := b2.size
  have f1 := f1.below b2 (by omega)
  have B2 := bnext B1 b2
  go_wp2_with fail
  refine (s_TurnRuns f0 l0 y1.rii l1 g1 (by omega)).mono ?_
  rintro e w3 ⟨Wa, Wc, rfl, W, b3⟩
  have z3 := b3.size
  have f1 := f1.below b3 (by omega)
  have y1 := y1.below b3 (by omega)
  have B3 := bnext B2 b3
  go_wp2_with fail
  refine (l_toIntSS f1 (by omega) H20_1.out.1 H20_1.out.2.1).mono ?_
  rintro e w4 ⟨x1a, x1c, rfl, x1, b4⟩
  have z4 := b4.size
  have f1 := f1.below b4 (by omega)
  have W := W.below b4 (by omega)
  have B4 := bnext B3 b4
  go_wp2_with fail
  refine (i_TurnRuns f0 l0 x1.rii l1 g1 (by omega)).mono ?_
  rintro e w5 ⟨Ga, Gc, rfl, G, b5⟩
  have z5 := b5.size
  have f1 := f1.below b5 (by omega)
  have W := W.below b5 (by omega)
  have x1 := x1.below b5 (by omega)
  have B5 := bnext B4 b5
  have heqL : eqII (tuL t0 m1) (tuL t0 m1) = true := eqII_true.2 rfl
  go_wp2_with fail
  refine (l_eqIntSS G.rii W.rii (by omega) (by omega) HL.out.2 HL.out.2).mono ?_
  rintro e w6 ⟨rfl, d6⟩
  have b6 := Dr.below d6 w5.heap.size
  have z6 := Dr.le d6
  have f1 := f1.below b6 (by omega)
  have W := W.below b6 (by omega)
  have x1 := x1.below b6 (by omega)
  have G := G.below b6 (by omega)
  have B6 := bnext B5 b6
  go_wp2_with fail
  refine (l_toIntSS f1 (by omega) H20_1.out.1 H20_1.out.2.1).mono ?_
  rintro e w7 ⟨u1a, u1c, rfl, u1, b7⟩
  have z7 := b7.size
  have f1 := f1.below b7 (by omega)
  have W := W.below b7 (by omega)
  have x1 := x1.below b7 (by omega)
  have G := G.below b7 (by omega)
  have B7 := bnext B6 b7
  go_wp2_with fail
  refine (l_eqIntSS x1.rii u1.rii (by omega) (by omega) (fun r hr => by have := H20_1.out.2.1 r hr; omega) (fun r hr => by have := H20_1.out.2.1 r hr; omega)).mono ?_
  rintro e w8 ⟨rfl, d8⟩
  have b8 := Dr.below d8 w7.heap.size
  have z8 := Dr.le d8
  have f1 := f1.below b8 (by omega)
  have W := W.below b8 (by omega)
  have x1 := x1.below b8 (by omega)
  have G := G.below b8 (by omega)
  have u1 := u1.below b8 (by omega)
  have B8 := bnext B7 b8
  have heq1 : eqII m1 m1 = true := eqII_true.2 rfl
  have hS_1 := H20_1.out.2.2
  go_wp2_with fail
  refine (l_markIntSS x1.oii (by omega) (by omega) (by omega) (by omega) (by omega)).mono ?_
  rintro e w9 ⟨rfl, x1, u9, e9⟩
  have z9 := eq_le e9
  clear e9
  have f1 := f1.upd u9 (by omega) (by omega)
  have W := W.upd u9 (by omega) (by omega)
  have G := G.upd u9 (by omega) (by omega)
  have B9 := bupd B8 u9 (by omega)
  clear u9
  have hk0 : 0 ≤ 1 + (sumL m1 : Int) := by omega
  go_wp2_with fail
  refine (l_eqIntSS G.rii W.rii (by omega) (by omega) HL.out.2 HL.out.2).mono ?_
  rintro e w10 ⟨rfl, d10⟩
  have b10 := Dr.below d10 w9.heap.size
  have z10 := Dr.le d10
  have f1 := f1.below b10 (by omega)
  have W := W.below b10 (by omega)
  have G := G.below b10 (by omega)
  have B10 := bnext B9 b10
  go_wp2_with fail
  refine (l_markIntSS G.oii (by omega) (by omega) (by omega) (by omega) (by omega)).mono ?_
  rintro e w11 ⟨rfl, G, u11, e11⟩
  have z11 := eq_le e11
  clear e11
  have f1 := f1.upd u11 (by omega) (by omega)
  have W := W.upd u11 (by omega) (by omega)
  have B11 := bupd B10 u11 (by omega)
  clear u11
  go_wp2_with fail
  refine (l_heldIntSS G.rii (by omega) (by omega) (by omega) (by omega)).mono ?_
  rintro e w12 ⟨rfl, d12⟩
  have b12 := Dr.below d12 w11.heap.size
  have z12 := Dr.le d12
  have f1 := f1.below b12 (by omega)
  have W := W.below b12 (by omega)
  have G := G.below b12 (by omega)
  have B12 := bnext B11 b12
  go_wp2_with fail
  refine (l_toIntSS f1 (by omega) H20_1.out.1 H20_1.out.2.1).mono ?_
  rintro e w13 ⟨v1a, v1c, rfl, v1, b13⟩
  have z13 := b13.size
  have f1 := f1.below b13 (by omega)
  have W := W.below b13 (by omega)
  have G := G.below b13 (by omega)
  have B13 := bnext B12 b13
  go_wp2_with fail
  refine (i_TurnRuns f0 l0 v1.rii l1 g1 (by omega)).mono ?_
  rintro e w14 ⟨Ka, Kc, rfl, K, b14⟩
  have z14 := b14.size
  have W := W.below b14 (by omega)
  have G := G.below b14 (by omega)
  have v1 := v1.below b14 (by omega)
  have B14 := bnext B13 b14
  go_wp2_with fail
  refine (l_eqIntSS K.rii W.rii (by omega) (by omega) HL.out.2 HL.out.2).mono ?_
  rintro e w15 ⟨rfl, d15⟩
  have b15 := Dr.below d15 w14.heap.size
  have z15 := Dr.le d15
  have W := W.below b15 (by omega)
  have G := G.below b15 (by omega)
  have K := K.below b15 (by omega)
  have B15 := bnext B14 b15
  go_wp2_with fail
  refine (l_heldIntSS G.rii (by omega) (by omega) (by omega) (by omega)).mono ?_
  rintro e w16 ⟨rfl, d16⟩
  have b16 := Dr.below d16 w15.heap.size
  have z16 := Dr.le d16
  have G := G.below b16 (by omega)
  have B16 := bnext B15 b16
  go_wp2
  go_ret
  exact ⟨rfl, B16⟩

end Go.Proofs.Ytangmlppnnohiaa
