/- Drawn arguments that are those of another law; plain facts of best tests and grown suites. -/
import Derived.Test.YtekkhadlchfjnaaRl
import Derived.Test.YtekkhadlchfjnaaYd
import Derived.Test.YtekkhadlchfjnaaZn
namespace Go.Proofs.Ytekkhadlchfjnaa
open Go.RowKit

theorem s_DrawBestTest {n : Nat} {a : Option Addr} {c : Nat} {w : World} (hm : RB w w.heap.size a n) (hc : n ≤ c) (hl : n ≤ 1048576) :
    Calls Try.prog 37 #[.slice a n c] w (DrS w) := by
  go_enter Try.func37, Try.ntmps37
  go_wp2_with fail
  refine (s_DrawMissingOf hm hc hl).mono ?_
  rintro e w1 ⟨a1, c1, m, a2, c2, s, t, rfl, h⟩
  go_wp2
  go_ret3
  exact ⟨_, _, m, _, _, s, t, rfl, h⟩

theorem s_DrawGrowSuite {n : Nat} {a : Option Addr} {c : Nat} {w : World} (hm : RB w w.heap.size a n) (hc : n ≤ c) (hl : n ≤ 1048576) :
    Calls Try.prog 44 #[.slice a n c] w (DrS w) := by
  go_enter Try.func44, Try.ntmps44
  go_wp2_with fail
  refine (s_DrawMissingOf hm hc hl).mono ?_
  rintro e w1 ⟨a1, c1, m, a2, c2, s, t, rfl, h⟩
  go_wp2
  go_ret3
  exact ⟨_, _, m, _, _, s, t, rfl, h⟩

/-- each pattern is matched by a test -/
theorem fill_ok {m p : List Int} (hM : okM m = true) (hp : okP m p = true) : okT m (p.map fun v => if v = -1 then 0 else v) = true ∧ mB p (p.map fun v => if v = -1 then 0 else v) = true := by
  have hl := okW_len hp
  constructor
  · unfold okT okW
    rw [Bool.and_eq_true, List.all_eq_true]
    refine ⟨by rw [List.length_map, decide_eq_true_eq]; exact hl, fun q hq => ?_⟩
    obtain ⟨k, hk⟩ := List.getElem?_of_mem hq
    obtain ⟨h1, h2⟩ := List.getElem?_zip_eq_some.1 hk
    rw [List.getElem?_map, Option.map_eq_some_iff] at h1
    obtain ⟨v, hv, he⟩ := h1
    have h3 := okW_at hp hv h2
    have h4 := okM_at hM h2
    rw [inR_true, ← he]
    split <;> omega
  · unfold mB
    rw [List.all_eq_true]
    intro q hq
    obtain ⟨k, hk⟩ := List.getElem?_of_mem hq
    obtain ⟨h1, h2⟩ := List.getElem?_zip_eq_some.1 hk
    rw [List.getElem?_map, Option.map_eq_some_iff] at h2
    obtain ⟨v, hv, he⟩ := h2
    rw [h1] at hv
    cases hv
    by_cases h : q.1 = -1
    · rw [h]; simp
    · rw [if_neg h] at he; rw [← he]; simp
theorem ext_hit {m p : List Int} (hM : okM m = true) (hp : okP m p = true) : ∃ x ∈ extS m [], mB p x = true := by
  have h := fill_ok hM hp
  exact ⟨_, (ext_mem hM).2 h.1, h.2⟩
theorem be_facts {m : List Int} {s : List (List Int)} {t : Int} (h : okC m s t = true) : ∃ n : Nat, frV m s (beL m s t) t = n ∧ n ≤ 1024 ∧ okT m (beL m s t) = true ∧ (beL m s t).length = m.length ∧ (∀ r ∈ apL m m.length, frV m s r t ≤ n) ∧ icB m s t = ((n : Int) == 0) := by
  have hp := okC_parts h
  have hmem := bstL_mem (frP (misL m s t)) (ext_ne hp.1)
  have ht := (ext_mem hp.1).1 hmem
  rw [be_yes h]
  have hmax := bstL_max (frP (misL m s t)) (extS m [])
  refine ⟨frP (misL m s t) (bstL (frP (misL m s t)) (extS m [])), fr_yes h ht, Nat.le_trans List.countP_le_length (misL_len hp.1), ht, ext_row _ hmem, fun r hr => ?_, ?_⟩
  · rw [ap_full hp.1] at hr
    rw [fr_yes h ((ext_mem hp.1).1 hr)]
    exact Int.ofNat_le.2 (hmax r hr)
  · rw [ic_yes h, Bool.eq_iff_iff, beq_iff_eq, beq_iff_eq]
    constructor
    · intro h0
      have : misL m s t = [] := List.eq_nil_of_length_eq_zero (by omega)
      rw [this]; simp [frP]
    · intro h0
      refine Classical.byContradiction fun hne => ?_
      obtain ⟨p, hpm⟩ : ∃ p, p ∈ misL m s t := by
        cases hh : misL m s t with
        | nil => rw [hh] at hne; simp at hne
        | cons a l => exact ⟨a, List.mem_cons_self ..⟩
      have hpp : okP m p = true := ((mem_patS hp.1).1 (List.mem_filter.1 hpm).1).1
      obtain ⟨x, hx, hm⟩ := ext_hit hp.1 hpp
      have h1 := hmax x hx
      have h2 : 0 < frP (misL m s t) x := by unfold frP; rw [List.countP_pos_iff]; exact ⟨p, hpm, hm⟩
      omega

end Go.Proofs.Ytekkhadlchfjnaa
