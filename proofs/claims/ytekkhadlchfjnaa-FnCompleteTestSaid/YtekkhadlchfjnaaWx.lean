/- Walks: AllPatterns, AllTests of the program. -/
import Derived.Test.YtekkhadlchfjnaaWv
import Derived.Test.YtekkhadlchfjnaaWs
import Derived.Test.YtekkhadlchfjnaaMath
namespace Go.Proofs.Ytekkhadlchfjnaa
open Go.RowKit



set_option maxHeartbeats 1000000 in
theorem i_AllPatterns {m : List Int} {a : Option Addr} {c lo hi : Nat} {w : World} {t : Int} (hm : RI w lo hi a m) (hlm : m.length ≤ 9223372036854775807) (_ht0 : -9223372036854775808 ≤ t) (_ht1 : t ≤ 9223372036854775807) (hB : hi ≤ w.heap.size) :
    Calls Try.prog 65 #[.slice a m.length c, .int .i64 t] w (NewII w (apL m t)) := by
  cases hok : okM m
  · have HOK := Lib.hid hok; clear hok
    go_enter Try.func65, Try.ntmps65
    go_wp2_with fail
    refine (i_ValidModel hm hlm).mono ?_
    rintro e w1 ⟨rfl, hd⟩
    rw [HOK.out]
    go_wp2
    go_ret
    exact NewII.none (ap_no (.inl HOK.out)) (Dr.below hd _)
  have hm5 := okM_len hok
  have HOK := Lib.hid hok; clear hok
  cases hin : inR t 0 m.length
  · have HIN := Lib.hid hin; clear hin
    go_enter Try.func65, Try.ntmps65
    go_wp2_with fail
    refine (i_ValidModel hm hlm).mono ?_
    rintro e w1 ⟨rfl, hd⟩
    rw [HOK.out]
    go_wp2_with fail
    refine (i_isStrength hlm).mono ?_
    rintro e w2 ⟨rfl, hd2⟩
    rw [HIN.out]
    go_wp2
    go_ret
    exact NewII.none (ap_no (.inr HIN.out)) (Dr.below (Dr.trans hd hd2) _)
  have hin2 := inR_true.1 hin
  have HIN := Lib.hid hin; clear hin
  have HP := Lib.hid (ap_yes HOK.out HIN.out)
  have HR := Lib.hid (patS_row (m := m) (t := t))
  have HLN := Lib.hid (patS_len (head := []) HOK.out t)
  go_enter Try.func65, Try.ntmps65
  go_wp2_with fail
  refine (i_ValidModel hm hlm).mono ?_
  rintro e w1 ⟨rfl, hd⟩
  rw [HOK.out]
  go_wp2_with fail
  refine (i_isStrength hlm).mono ?_
  rintro e w2 ⟨rfl, hd2⟩
  rw [HIN.out]
  have hd2 : Dr w w2 := Dr.trans hd hd2
  have hz2 := Dr.le hd2
  have hm2 := hm.dr hd2
  go_wp2_with fail
  refine (i_patternsOf HOK.out hm2 (by omega) hin2.1 hin2.2).mono ?_
  rintro e w3 ⟨v3, rfl, h3, hb3⟩
  go_wp2_with fail
  refine (i_listsOf h3 hm5.1 hm5.2 (Nat.le_trans HLN.out (by omega)) HR.out).mono ?_
  rintro e w4 ⟨a4, c4, rfl, h4, hb4⟩
  have hs3 := hb3.size
  have hb03 := (Dr.below hd2 w.heap.size).trans ((hb3.trans (hb4.mono (by omega))).mono (by omega))
  go_wp2
  go_ret
  rw [HP.out]
  exact ⟨_, _, rfl, h4.wide (by omega) (Nat.le_refl _), hb03⟩

set_option maxHeartbeats 1000000 in
theorem i_AllTests {m : List Int} {a : Option Addr} {c lo hi : Nat} {w : World} (hm : RI w lo hi a m) (hlm : m.length ≤ 9223372036854775807) (hB : hi ≤ w.heap.size) :
    Calls Try.prog 22 #[.slice a m.length c] w (NewII w (apL m m.length)) := by
  go_enter Try.func22, Try.ntmps22
  go_wp2_with fail
  have hm5 : (m.length : Int) ≤ 9223372036854775807 := by omega
  refine (i_AllPatterns hm hlm (by omega) hm5 hB).mono ?_
  rintro e w4 ⟨a4, c4, rfl, h4, hb4⟩
  go_wp2
  go_ret
  exact ⟨_, _, rfl, h4, hb4⟩

end Go.Proofs.Ytekkhadlchfjnaa
