/- Walks: AllowedTests, ImpliedBans, by the program. -/
import Derived.Test.YtekkhadlchfjnaaVe
import Derived.Test.YtekkhadlchfjnaaZl
namespace Go.Proofs.Ytekkhadlchfjnaa
open Go.RowKit

set_option maxRecDepth 100000 in
set_option maxHeartbeats 2000000 in
theorem i_AllowedTests {m : List Int} {a : Option Addr} {c lo hi : Nat} {s : List (List Int)} {a1 : Option Addr} {c1 lo1 hi1 : Nat} {w : World} (hm : RI w lo hi a m) (hlm : m.length ≤ 9223372036854775807) (hs : RII w lo1 hi1 a1 s) (hls : s.length ≤ 9223372036854775807) (hg : ∀ r ∈ s, r.length ≤ 9223372036854775807) (hB : hi ≤ w.heap.size) (hB1 : hi1 ≤ w.heap.size) :
    Calls Try.prog 18 #[.slice a m.length c, .slice a1 s.length c1] w (NewII w (atL m s)) := by
  have HG := Lib.hid hg; clear hg
  have D0 : Dr w w := Dr.refl w
  cases hHIB : okM m && okBn m s
  · have HIB := Lib.hid hHIB; clear hHIB
    go_enter Try.func18, Try.ntmps18
    go_wp2_with fail
    refine (i_ValidBans (hm.dr D0) hlm (hs.dr D0) hls HG.out).mono ?_
    rintro e w1 ⟨rfl, d1⟩
    rw [HIB.out]
    have D1 := Dr.trans D0 d1
    clear d1
    go_wp2
    go_ret
    exact NewII.none (at_no (show bnM m s = false from HIB.out)) (Dr.below D1 _)
  have HIB := Lib.hid hHIB; clear hHIB
  have hE := HIB.out
  rw [Bool.and_eq_true] at hE
  have HOK := Lib.hid hE.1
  have HOB := Lib.hid hE.2
  clear hE
  have hsl := okBn_len HOB.out
  have HR := Lib.hid (bn_rows HOB.out)
  have hm5 := okM_len HOK.out
  have HPO := Lib.hid (at_yes HOK.out HOB.out)
  have HLN := Lib.hid (alL_len2 (b := s) HOK.out)
  have HRW := Lib.hid (alL_row (m := m) (b := s))
  go_enter Try.func18, Try.ntmps18
  go_wp2_with fail
  refine (i_ValidBans (hm.dr D0) hlm (hs.dr D0) hls HG.out).mono ?_
  rintro e w1 ⟨rfl, d1⟩
  rw [HIB.out]
  have D2 := Dr.trans D0 d1
  clear d1
  have Z2 := Dr.le D2
  go_wp2_with fail
  refine (i_rulesOf m.length (hs.dr D2) (by omega) hsl (fun r hr => by have := HR.out r hr; omega)).mono ?_
  rintro e w3 ⟨v, rfl, ho3, hb3⟩
  have hz3 := hb3.size
  have hm3 := (hm.dr D2).below hb3 (by omega)
  go_wp2_with fail
  refine (i_allowed hm3 (by omega) ho3 (Below.refl _ _) HOK.out HOB.out).mono ?_
  rintro e w4 ⟨v4, rfl, ho4, hb4⟩
  have hz4 := hb4.size
  go_wp2_with fail
  refine (i_listsOf ho4 hm5.1 hm5.2 (Nat.le_trans HLN.out (by omega)) (fun l hl => HRW.out l hl)).mono ?_
  rintro e w5 ⟨a5, c5, rfl, h5, hb5⟩
  have hb03 := (Dr.below D2 w.heap.size).trans ((hb3.trans ((hb4.trans (hb5.mono (by omega))).mono (by omega))).mono (by omega))
  go_wp2
  go_ret
  rw [HPO.out]
  exact ⟨_, _, rfl, h5.wide (by omega) (Nat.le_refl _), hb03⟩

end Go.Proofs.Ytekkhadlchfjnaa
