/- The walk of FnExactIsOrdering: it returns true and writes nothing that was there. -/
import Derived.Test.YtangmlppnnohiaaUg
namespace Go.Proofs.Ytangmlppnnohiaa
open Go.RowKit

set_option maxRecDepth 100000 in
set_option maxHeartbeats 4000000 in
theorem law_IsOrdering {t0 : Int} {m1 : List (List Int)} {a1 : Option Addr} {c1 : Nat} {t2 : Int} {w : World} (f0 : -9223372036854775808 ≤ t0) (l0 : t0 ≤ 9223372036854775807) (f1 : RII w 0 w.heap.size a1 m1) (l1 : m1.length ≤ 9223372036854775807) (g1 : ∀ r ∈ m1, r.length ≤ 9223372036854775807) (f2 : -9223372036854775808 ≤ t2) (l2 : t2 ≤ 9223372036854775807) :
    Calls Try.prog 7 #[.int .i64 t0, .slice a1 m1.length c1, .int .i64 t2] w (Tru w) := by
  by_cases hb1 : 0 ≤ szII m1 1048576
  case neg =>
    go_enter Try.func7, Try.ntmps7
    go_wp2_with fail
    refine (l_szIntSS f1 l1 g1 (by omega) (by omega)).mono ?_
    rintro e z1 ⟨rfl, d1⟩
    go_wp2
    go_ret
    exact ⟨rfl, Dr.below d1 _⟩
  have H20_1 := Lib.hid (szII_rows hb1 (by omega))
  have hL_1 := H20_1.out.1
  go_enter Try.func7, Try.ntmps7
  go_wp2_with fail
  refine (l_szIntSS f1 l1 g1 (by omega) (by omega)).mono ?_
  rintro e w1 ⟨rfl, d1⟩
  have b1 := Dr.below d1 w.heap.size
  have z1 := Dr.le d1
  have f1 := f1.below b1 (by omega)
  have B1 := b1
  go_wp2_with fail
  refine (l_toIntSS f1 (by omega) H20_1.out.1 H20_1.out.2.1).mono ?_
  rintro e w2 ⟨y1a, y1c, rfl, y1, b2⟩
  have z2 := b2.size
  have f1 := f1.below b2 (by omega)
  have B2 := bnext B1 b2
  go_wp2_with fail
  refine (s_IsOrdering f0 l0 y1.rii l1 g1 f2 l2 (by omega)).mono ?_
  rintro e w3 ⟨rfl, b3⟩
  have z3 := b3.size
  have f1 := f1.below b3 (by omega)
  have y1 := y1.below b3 (by omega)
  have B3 := bnext B2 b3
  go_wp2_with fail
  refine (l_toIntSS f1 (by omega) H20_1.out.1 H20_1.out.2.1).mono ?_
  rintro e w4 ⟨x1a, x1c, rfl, x1, b4⟩
  have z4 := b4.size
  have f1 := f1.below b4 (by omega)
  have B4 := bnext B3 b4
  go_wp2_with fail
  refine (i_IsOrdering f0 l0 x1.rii l1 g1 f2 l2 (by omega)).mono ?_
  rintro e w5 ⟨rfl, b5⟩
  have z5 := b5.size
  have f1 := f1.below b5 (by omega)
  have x1 := x1.below b5 (by omega)
  have B5 := bnext B4 b5
  have hne0 : ((ioB t0 m1 t2) != (ioB t0 m1 t2)) = false := bne_self_eq_false _
  go_wp2_with fail
  refine (l_toIntSS f1 (by omega) H20_1.out.1 H20_1.out.2.1).mono ?_
  rintro e w6 ⟨u1a, u1c, rfl, u1, b6⟩
  have z6 := b6.size
  have f1 := f1.below b6 (by omega)
  have x1 := x1.below b6 (by omega)
  have B6 := bnext B5 b6
  go_wp2_with fail
  refine (l_eqIntSS x1.rii u1.rii (by omega) (by omega) (fun r hr => by have := H20_1.out.2.1 r hr; omega) (fun r hr => by have := H20_1.out.2.1 r hr; omega)).mono ?_
  rintro e w7 ⟨rfl, d7⟩
  have b7 := Dr.below d7 w6.heap.size
  have z7 := Dr.le d7
  have x1 := x1.below b7 (by omega)
  have u1 := u1.below b7 (by omega)
  have B7 := bnext B6 b7
  have heq1 : eqII m1 m1 = true := eqII_true.2 rfl
  go_wp2
  go_ret
  exact ⟨rfl, B7⟩

end Go.Proofs.Ytangmlppnnohiaa
