/- The walk of FnExactGrowRuns: it returns true and writes nothing that was there. -/
import Derived.Test.YtangmlppnnohiaaWj
import Derived.Test.YtangmlppnnohiaaUo
namespace Go.Proofs.Ytangmlppnnohiaa
open Go.RowKit

set_option maxRecDepth 100000 in
set_option maxHeartbeats 4000000 in
theorem law_GrowRuns {t0 : Int} {t1 : Int} {w : World} (f0 : -9223372036854775808 ≤ t0) (l0 : t0 ≤ 9223372036854775807) (f1 : -9223372036854775808 ≤ t1) (l1 : t1 ≤ 9223372036854775807) :
    Calls Try.prog 9 #[.int .i64 t0, .int .i64 t1] w (Tru w) := by
  go_enter Try.func9, Try.ntmps9
  have hL := @gwL_len t0 t1
  have hS := @gwL_sum t0 t1
  have HL := Lib.hid (@gwL_gr t0 t1)
  have hne : ((gwB t0 t1) != (gwB t0 t1)) = false := by simp
  go_wp2_with fail
  refine (s_GrowRuns f0 l0 f1 l1).mono ?_
  rintro e w1 ⟨Wa, Wc, rfl, W, b1⟩
  have z1 := b1.size
  have B1 := b1
  go_wp2_with fail
  refine (i_GrowRuns f0 l0 f1 l1).mono ?_
  rintro e w2 ⟨Ga, Gc, rfl, G, b2⟩
  have z2 := b2.size
  have W := W.below b2 (by omega)
  have B2 := bnext B1 b2
  have heqL : eqII (gwL t0 t1) (gwL t0 t1) = true := eqII_true.2 rfl
  go_wp2_with fail
  refine (l_eqIntSS G.rii W.rii (by omega) (by omega) HL.out.2 HL.out.2).mono ?_
  rintro e w3 ⟨rfl, d3⟩
  have b3 := Dr.below d3 w2.heap.size
  have z3 := Dr.le d3
  have W := W.below b3 (by omega)
  have G := G.below b3 (by omega)
  have B3 := bnext B2 b3
  go_wp2_with fail
  refine (l_markIntSS G.oii (by omega) (by omega) (by omega) (by omega) (by omega)).mono ?_
  rintro e w4 ⟨rfl, G, u4, e4⟩
  have z4 := eq_le e4
  clear e4
  have W := W.upd u4 (by omega) (by omega)
  have B4 := bupd B3 u4 (by omega)
  clear u4
  go_wp2_with fail
  refine (l_heldIntSS G.rii (by omega) (by omega) (by omega) (by omega)).mono ?_
  rintro e w5 ⟨rfl, d5⟩
  have b5 := Dr.below d5 w4.heap.size
  have z5 := Dr.le d5
  have W := W.below b5 (by omega)
  have G := G.below b5 (by omega)
  have B5 := bnext B4 b5
  go_wp2_with fail
  refine (i_GrowRuns f0 l0 f1 l1).mono ?_
  rintro e w6 ⟨Ka, Kc, rfl, K, b6⟩
  have z6 := b6.size
  have W := W.below b6 (by omega)
  have G := G.below b6 (by omega)
  have B6 := bnext B5 b6
  go_wp2_with fail
  refine (l_eqIntSS K.rii W.rii (by omega) (by omega) HL.out.2 HL.out.2).mono ?_
  rintro e w7 ⟨rfl, d7⟩
  have b7 := Dr.below d7 w6.heap.size
  have z7 := Dr.le d7
  have W := W.below b7 (by omega)
  have G := G.below b7 (by omega)
  have K := K.below b7 (by omega)
  have B7 := bnext B6 b7
  go_wp2_with fail
  refine (l_heldIntSS G.rii (by omega) (by omega) (by omega) (by omega)).mono ?_
  rintro e w8 ⟨rfl, d8⟩
  have b8 := Dr.below d8 w7.heap.size
  have z8 := Dr.le d8
  have G := G.below b8 (by omega)
  have B8 := bnext B7 b8
  go_wp2
  go_ret
  exact ⟨rfl, B8⟩

end Go.Proofs.Ytangmlppnnohiaa
