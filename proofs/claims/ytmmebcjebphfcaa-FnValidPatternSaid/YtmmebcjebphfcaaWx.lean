/- Walks: AllPatterns, AllTests of the program. -/
import Derived.Test.YtmmebcjebphfcaaWw
import Derived.Test.YtmmebcjebphfcaaWs
namespace Go.Proofs.Ytmmebcjebphfcaa
open Go.RowKit

theorem patsR_row : ∀ {ms : List Int} {t : Int} {l : List Int}, l ∈ patsR ms t → l.length = ms.length
  | [], t, l, h => by
    simp only [patsR] at h
    split at h
    · simp at h; subst h; rfl
    · simp at h
  | y :: ms, t, l, h => by
    simp only [patsR] at h
    split at h
    · simp at h
    · rcases List.mem_append.1 h with h | h
      · obtain ⟨x, _, h⟩ := List.mem_flatMap.1 h
        obtain ⟨r, hr, rfl⟩ := List.mem_map.1 h
        simp [patsR_row hr]
      · obtain ⟨r, hr, rfl⟩ := List.mem_map.1 h
        simp [patsR_row hr]
theorem patS_row {m : List Int} {t : Int} : ∀ l ∈ patS m [] t, l.length = m.length := by
  intro l h
  obtain ⟨r, hr, rfl⟩ := List.mem_map.1 h
  have := patsR_row hr
  simpa using this
theorem apL_row {m : List Int} {t : Int} : ∀ l ∈ apL m t, l.length = m.length ∧ m.length ≤ 5 := by
  intro l h
  unfold apL at h
  split at h
  case isFalse => simp at h
  case isTrue hh =>
    rw [Bool.and_eq_true] at hh
    exact ⟨patsR_row h, (okM_len hh.1).2⟩
theorem apL_len {m : List Int} {t : Int} : (apL m t).length ≤ 1024 := by
  cases h : okM m
  · rw [ap_no (.inl h)]; simp
  cases h' : inR t 0 m.length
  · rw [ap_no (.inr h')]; simp
  rw [ap_yes h h']; exact patS_len h t

theorem sumL_le {n : Nat} : ∀ {mm : List (List Int)} (_ : ∀ r ∈ mm, r.length ≤ n), sumL mm ≤ n * mm.length
  | [], _ => by simp [sumL]
  | r :: rs, h => by
    have h1 := h r (List.mem_cons_self ..)
    have h2 := sumL_le (mm := rs) fun r hr => h r (List.mem_cons_of_mem _ hr)
    rw [sumL_cons, List.length_cons, Nat.mul_succ]; omega
theorem apL_sum {m : List Int} {t : Int} : sumL (apL m t) ≤ 5120 := by
  have h1 := sumL_le (n := 5) (mm := apL m t) fun r hr => by have := apL_row r hr; omega
  have h2 := @apL_len m t
  omega
theorem apL_gr {m : List Int} {t : Int} : True ∧ ∀ r ∈ apL m t, r.length ≤ 4611686018427387904 := ⟨trivial, fun r hr => by have := apL_row r hr; omega⟩

set_option maxHeartbeats 1000000 in
theorem i_AllPatterns {m : List Int} {a : Option Addr} {c lo hi : Nat} {w : World} {t : Int} (hm : RI w lo hi a m) (hlm : m.length ≤ 9223372036854775807) (_ht0 : -9223372036854775808 ≤ t) (_ht1 : t ≤ 9223372036854775807) (hB : hi ≤ w.heap.size) :
    Calls Try.prog 30 #[.slice a m.length c, .int .i64 t] w (NewII w (apL m t)) := by
  cases hok : okM m
  · have HOK := Lib.hid hok; clear hok
    go_enter Try.func30, Try.ntmps30
    go_wp2_with fail
    refine (i_ValidModel hm hlm).mono ?_
    rintro e w1 ⟨rfl, hd⟩
    rw [HOK.out]
    go_wp2
    go_ret
    exact NewII.none (ap_no (.inl HOK.out)) (Dr.below hd _)
  have hm5 := okM_len hok
  have HOK := Lib.hid hok; clear hok
  cases hin : inR t 0 m.length
  · have HIN := Lib.hid hin; clear hin
    go_enter Try.func30, Try.ntmps30
    go_wp2_with fail
    refine (i_ValidModel hm hlm).mono ?_
    rintro e w1 ⟨rfl, hd⟩
    rw [HOK.out]
    go_wp2_with fail
    refine (i_isStrength hlm).mono ?_
    rintro e w2 ⟨rfl, hd2⟩
    rw [HIN.out]
    go_wp2
    go_ret
    exact NewII.none (ap_no (.inr HIN.out)) (Dr.below (Dr.trans hd hd2) _)
  have hin2 := inR_true.1 hin
  have HIN := Lib.hid hin; clear hin
  have HP := Lib.hid (ap_yes HOK.out HIN.out)
  have HR := Lib.hid (patS_row (m := m) (t := t))
  have HLN := Lib.hid (patS_len (head := []) HOK.out t)
  go_enter Try.func30, Try.ntmps30
  go_wp2_with fail
  refine (i_ValidModel hm hlm).mono ?_
  rintro e w1 ⟨rfl, hd⟩
  rw [HOK.out]
  go_wp2_with fail
  refine (i_isStrength hlm).mono ?_
  rintro e w2 ⟨rfl, hd2⟩
  rw [HIN.out]
  have hd2 : Dr w w2 := Dr.trans hd hd2
  have hz2 := Dr.le hd2
  have hm2 := hm.dr hd2
  go_wp2_with fail
  refine (i_patternsOf HOK.out hm2 (by omega) hin2.1 hin2.2).mono ?_
  rintro e w3 ⟨v3, rfl, h3, hb3⟩
  go_wp2_with fail
  refine (i_listsOf h3 hm5.1 hm5.2 (Nat.le_trans HLN.out (by omega)) HR.out).mono ?_
  rintro e w4 ⟨a4, c4, rfl, h4, hb4⟩
  have hs3 := hb3.size
  have hb03 := (Dr.below hd2 w.heap.size).trans ((hb3.trans (hb4.mono (by omega))).mono (by omega))
  go_wp2
  go_ret
  rw [HP.out]
  exact ⟨_, _, rfl, h4.wide (by omega) (Nat.le_refl _), hb03⟩

set_option maxHeartbeats 1000000 in
theorem i_AllTests {m : List Int} {a : Option Addr} {c lo hi : Nat} {w : World} (hm : RI w lo hi a m) (hlm : m.length ≤ 9223372036854775807) (hB : hi ≤ w.heap.size) :
    Calls Try.prog 20 #[.slice a m.length c] w (NewII w (apL m m.length)) := by
  go_enter Try.func20, Try.ntmps20
  go_wp2_with fail
  have hm5 : (m.length : Int) ≤ 9223372036854775807 := by omega
  refine (i_AllPatterns hm hlm (by omega) hm5 hB).mono ?_
  rintro e w4 ⟨a4, c4, rfl, h4, hb4⟩
  go_wp2
  go_ret
  exact ⟨_, _, rfl, h4, hb4⟩

end Go.Proofs.Ytmmebcjebphfcaa
