/- Walks: AllPatterns and AllTests, by the model. -/
import Derived.Test.YtmmebcjebphfcaaWq
import Derived.Test.YtmmebcjebphfcaaMath
namespace Go.Proofs.Ytmmebcjebphfcaa
open Go.RowKit

/-- all patterns of a model and a strength; none where there is no such thing -/
theorem NewII.none {w w' : World} {l : List (List Int)} (h : l = []) (hb : Below w.heap.size w w') : NewII w l (.returned (.slice none 0 0)) w' := by
  subst h
  exact ⟨_, _, rfl, OIIc.nil _ _ _ _ _, hb⟩

set_option maxHeartbeats 1000000 in
theorem s_AllPatterns {m : List Int} {a : Option Addr} {c lo hi : Nat} {w : World} {t : Int} (hm : RI w lo hi a m) (hlm : m.length ≤ 9223372036854775807) (ht0 : -9223372036854775808 ≤ t) (ht1 : t ≤ 9223372036854775807) (hB : hi ≤ w.heap.size) :
    Calls Try.prog 45 #[.slice a m.length c, .int .i64 t] w (NewII w (apL m t)) := by
  cases hok : okM m
  · have HOK := Lib.hid hok; clear hok
    go_enter Try.func45, Try.ntmps45
    go_wp2_with fail
    refine (s_validModel hm hlm).mono ?_
    rintro e w1 ⟨rfl, hd⟩
    rw [HOK.out]
    go_wp2
    go_ret
    exact NewII.none (ap_no (.inl HOK.out)) (Dr.below hd _)
  have hm5 := okM_len hok
  have HOK := Lib.hid hok; clear hok
  cases hin : inR t 0 m.length
  · have HIN := Lib.hid hin; clear hin
    go_enter Try.func45, Try.ntmps45
    go_wp2_with fail
    refine (s_validModel hm hlm).mono ?_
    rintro e w1 ⟨rfl, hd⟩
    rw [HOK.out]
    go_wp2_with fail
    refine (s_inRange _ _ _ _).mono ?_
    rintro e w2 ⟨rfl, hd2⟩
    rw [HIN.out]
    go_wp2
    go_ret
    exact NewII.none (ap_no (.inr HIN.out)) (Dr.below (Dr.trans hd hd2) _)
  have hin2 := inR_true.1 hin
  have HIN := Lib.hid hin; clear hin
  have HP := Lib.hid (ap_yes HOK.out HIN.out)
  go_enter Try.func45, Try.ntmps45
  go_wp2_with fail
  refine (s_validModel hm hlm).mono ?_
  rintro e w1 ⟨rfl, hd⟩
  rw [HOK.out]
  go_wp2_with fail
  refine (s_inRange _ _ _ _).mono ?_
  rintro e w2 ⟨rfl, hd2⟩
  rw [HIN.out]
  have hd2 : Dr w w2 := Dr.trans hd hd2
  have hz2 := Dr.le hd2
  have hm2 := hm.dr hd2
  have hbA := (Below.refl w2.heap.size w2).alloc (Nat.le_refl _) (.cells #[] 3)
  have hm3 := hm2.below hbA (by omega)
  go_wp2_with fail
  refine (s_patterns HOK.out m.length [] a ⟨w2.heap.size, 0, none⟩ c 0 lo hi 0 0 _ t (by simp) hm3 (by simp; omega) (RI.nil _ _ _ _) (by simp) (by omega) (by omega)).mono ?_
  rintro e w3 ⟨ad3, c3, rfl, h3, hb3⟩
  have hb03 := (Dr.below hd2 w.heap.size).trans ((hbA.trans (hb3.mono (by simp))).mono (by omega))
  go_wp2
  go_ret
  rw [HP.out]
  exact ⟨_, _, rfl, h3.wide (by simp; omega) (Nat.le_refl _), hb03⟩

end Go.Proofs.Ytmmebcjebphfcaa
