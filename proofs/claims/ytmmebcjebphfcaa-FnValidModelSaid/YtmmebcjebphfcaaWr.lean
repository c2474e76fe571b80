/- Walks: AllPatterns and AllTests, by the model. -/
import Derived.Test.YtmmebcjebphfcaaWq
namespace Go.Proofs.Ytmmebcjebphfcaa
open Go.RowKit

/-- all patterns of a model and a strength; none where there is no such thing -/
def apL (m : List Int) (t : Int) : List (List Int) := if okM m && inR t 0 m.length then patsR m t else []
theorem ap_yes {m : List Int} {t : Int} (h : okM m = true) (h' : inR t 0 m.length = true) : apL m t = patS m [] t := by
  unfold apL patS
  rw [h, h']; simp
theorem ap_no {m : List Int} {t : Int} (h : okM m = false ∨ inR t 0 m.length = false) : apL m t = [] := by
  unfold apL
  rcases h with h | h <;> rw [h] <;> simp
theorem NewII.none {w w' : World} {l : List (List Int)} (h : l = []) (hb : Below w.heap.size w w') : NewII w l (.returned (.slice none 0 0)) w' := by
  subst h
  exact ⟨_, _, rfl, OII.nil _ _ _ _, hb⟩

set_option maxHeartbeats 1000000 in
theorem s_AllPatterns {m : List Int} {a : Option Addr} {c lo hi : Nat} {w : World} {t : Int} (hm : RI w lo hi a m) (hlm : m.length ≤ 9223372036854775807) (ht0 : -9223372036854775808 ≤ t) (ht1 : t ≤ 9223372036854775807) (hB : hi ≤ w.heap.size) :
    Calls Try.prog 45 #[.slice a m.length c, .int .i64 t] w (NewII w (apL m t)) := by
  cases hok : okM m
  · have HOK := Lib.hid hok; clear hok
    go_enter Try.func45, Try.ntmps45
    go_wp2_with fail
    refine (s_validModel hm hlm).mono ?_
    rintro e w1 ⟨rfl, hd⟩
    rw [HOK.out]
    go_wp2
    go_ret
    exact NewII.none (ap_no (.inl HOK.out)) (Dr.below hd _)
  have hm5 := okM_len hok
  have HOK := Lib.hid hok; clear hok
  cases hin : inR t 0 m.length
  · have HIN := Lib.hid hin; clear hin
    go_enter Try.func45, Try.ntmps45
    go_wp2_with fail
    refine (s_validModel hm hlm).mono ?_
    rintro e w1 ⟨rfl, hd⟩
    rw [HOK.out]
    go_wp2_with fail
    refine (s_inRange _ _ _ _).mono ?_
    rintro e w2 ⟨rfl, hd2⟩
    rw [HIN.out]
    go_wp2
    go_ret
    exact NewII.none (ap_no (.inr HIN.out)) (Dr.below (Dr.trans hd hd2) _)
  have hin2 := inR_true.1 hin
  have HIN := Lib.hid hin; clear hin
  have HP := Lib.hid (ap_yes HOK.out HIN.out)
  go_enter Try.func45, Try.ntmps45
  go_wp2_with fail
  refine (s_validModel hm hlm).mono ?_
  rintro e w1 ⟨rfl, hd⟩
  rw [HOK.out]
  go_wp2_with fail
  refine (s_inRange _ _ _ _).mono ?_
  rintro e w2 ⟨rfl, hd2⟩
  rw [HIN.out]
  have hd2 : Dr w w2 := Dr.trans hd hd2
  have hz2 := Dr.le hd2
  have hm2 := hm.dr hd2
  have hbA := (Below.refl w2.heap.size w2).alloc (Nat.le_refl _) (.cells #[] 3)
  have hm3 := hm2.below hbA (by omega)
  go_wp2_with fail
  refine (s_patterns HOK.out m.length [] a ⟨w2.heap.size, 0, none⟩ c 0 lo hi 0 0 _ t (by simp) hm3 (by simp; omega) (RI.nil _ _ _ _) (by simp) (by omega) (by omega)).mono ?_
  rintro e w3 ⟨ad3, c3, rfl, h3, hb3⟩
  have hb03 := (Dr.below hd2 w.heap.size).trans ((hbA.trans (hb3.mono (by simp))).mono (by omega))
  go_wp2
  go_ret
  rw [HP.out]
  exact ⟨_, _, rfl, h3.wide (by simp; omega) (Nat.le_refl _), hb03⟩

/-- the tests that begin with some levels, told as patterns of all factors -/
theorem patsR_full : ∀ {ms : List Int} (_ : ∀ y ∈ ms, 0 ≤ y), patsR ms ms.length = match ms with
    | [] => [[]]
    | l :: ms => (List.range l.toNat).flatMap fun (x : Nat) => (patsR ms ms.length).map ((x : Int) :: ·)
  | [], _ => by simp [patsR]
  | l :: ms, _ => by
    rw [patsR_cons (by simp; omega) (by simp)]
    rw [patsR_out (ms := ms) (t := ((l :: ms).length : Int)) (.inr (by simp; omega))]
    simp
def extS (m head : List Int) : List (List Int) := patS m head ((m.length : Int) - head.length)
def extK (m head : List Int) (k : Nat) : List (List Int) := (List.range k).flatMap fun (x : Nat) => extS m (head ++ [(x : Int)])
theorem extK_succ (m head : List Int) (k : Nat) : extK m head (k + 1) = extK m head k ++ extS m (head ++ [(k : Int)]) := by
  unfold extK; rw [List.range_succ, List.flatMap_append]; simp
theorem extS_end {m head : List Int} (hh : head.length = m.length) : extS m head = [head] := patS_end hh (by omega)
theorem extS_step {m head : List Int} {y : Int} (hy : m[head.length]? = some y) : extS m head = extK m head y.toNat := by
  have hlt := lt_of_at hy
  unfold extS
  rw [patS_step hy (by omega) (by omega), patS_out (head := head ++ [-1]) (by simp; omega) (.inr (by simp; omega)), List.append_nil]
  unfold patK extK extS
  congr 1
  funext x
  congr 1
  simp; omega

end Go.Proofs.Ytmmebcjebphfcaa
