/- The walk of FnPatternText: it returns true and writes nothing that was there. -/
import Derived.Test.YtmmebcjebphfcaaLFnValidTest
import Derived.Test.YtmmebcjebphfcaaWo
import Derived.Test.YtmmebcjebphfcaaWl
namespace Go.Proofs.Ytmmebcjebphfcaa
open Go.RowKit

theorem rd_tx {p : List Int} (h : ∀ x ∈ p, -1 ≤ x ∧ x ≤ 2) : rdL (txS p) = p := by
  have e : ∀ x ∈ p, rdB (dg x) = x := by
    intro x hx
    have h1 := h x hx
    have h2 : x = -1 ∨ x = 0 ∨ x = 1 ∨ x = 2 := by omega
    rcases h2 with rfl | rfl | rfl | rfl <;> decide
  unfold rdL txS
  simp only [List.map_map]
  conv => rhs; rw [← List.map_id p]
  exact List.map_congr_left fun x hx => e x hx
theorem pt_back {m p : List Int} (h : okM m = true) (h' : okP m p = true) : (ptS m p).size = m.length ∧ ppL m (ptS m p) = p ∧ ppB m (ptS m p) = true := by
  have hl := okW_len h'
  have e : rdL (txS p) = p := rd_tx fun x hx => by
    obtain ⟨k, hk⟩ := List.getElem?_of_mem hx
    exact lv_of h h' k x hk
  rw [pt_yes h h']
  have h2 := pp_yes h (s := txS p) (by rw [e]; exact h')
  exact ⟨by rw [txS_size]; omega, h2.1.trans e, h2.2⟩

set_option maxRecDepth 100000 in
set_option maxHeartbeats 2000000 in
theorem law_FnPatternText {m0 : Nat} {a0 : Option Addr} {c0 : Nat} {w : World} (f0 : RB w w.heap.size a0 m0) (l0 : m0 ≤ c0) :
    Calls Try.prog 15 #[.slice a0 m0 c0] w (Tru w) := by
  by_cases hb : m0 ≤ 1048576
  case neg =>
    go_enter Try.func15, Try.ntmps15
    go_wp2
    go_ret
    exact ⟨rfl, Below.refl _ _⟩
  go_enter Try.func15, Try.ntmps15
  go_wp2_with fail
  refine (s_DrawPatternText f0 l0 hb).mono ?_
  rintro e w1 ⟨a1, c1, m, a2, c2, t, rfl, ⟨hG, hT⟩, B1⟩
  have z1 := B1.size
  have hm := hG.ri
  have ht := hT.ri
  have hl10 := hG.lp.1
  have tl11 := hT.lp.1
  have hcap := hG.cap
  have tcap := hT.cap
  clear hG hT
  clear f0
  cases hok : (okM m && okP m t)
  · skip
    have HV := Lib.hid (pt_no' hok); clear hok
    go_wp2_with fail
    refine (i_PatternText hm (by omega) ht (by omega) (by omega)).mono ?_
    rintro e w2 ⟨rfl, b2⟩
    have z2 := b2.size
    have hm := hm.below b2 (by omega)
    have ht := ht.below b2 (by omega)
    have B2 := B1.trans (b2.mono (by omega))
    clear b2 B1
    rw [HV.out]
    go_wp2_with fail
    refine (s_PatternText hm (by omega) ht (by omega)).mono ?_
    rintro e w3 ⟨rfl, d3⟩
    have b3 := Dr.below d3 w2.heap.size
    have z3 := Dr.le d3
    clear d3
    have hm := hm.below b3 (by omega)
    have ht := ht.below b3 (by omega)
    have B3 := B2.trans (b3.mono (by omega))
    clear b3 B2
    rw [HV.out]
    go_wp2_with fail
    refine (s_PatternText hm (by omega) ht (by omega)).mono ?_
    rintro e w4 ⟨rfl, d4⟩
    have b4 := Dr.below d4 w3.heap.size
    have z4 := Dr.le d4
    clear d4
    have hm := hm.below b4 (by omega)
    have ht := ht.below b4 (by omega)
    have B4 := B3.trans (b4.mono (by omega))
    clear b4 B3
    rw [HV.out]
    go_wp2
    go_ret
    exact ⟨rfl, B4⟩
  have h2 : okM m = true ∧ okP m t = true := by simpa using hok
  have hbk := pt_back h2.1 h2.2
  have hm5 := okM_len h2.1
  clear hok h2
  obtain ⟨S, hS⟩ : ∃ S, ptS m t = S := ⟨_, rfl⟩
  rw [hS] at hbk
  have HV := Lib.hid hS
  clear hS
  have HBK := Lib.hid hbk
  have hsz1 : S.size ≤ 5 := by omega
  have hsz2 : 1 ≤ S.size := by omega
  have hszi : ((S.size : Int) == (m.length : Int)) = true := by rw [beq_iff_eq]; omega
  clear hbk
  have hq1 : (S.toList != S.toList) = false := by simp
  have hq2 : (S.toList == []) = false := by rw [beq_eq_false_iff_ne]; intro h; rw [toList_nil_iff_emptyBytes] at h; rw [h] at hsz2; simp at hsz2
  go_wp2_with fail
  refine (i_PatternText hm (by omega) ht (by omega) (by omega)).mono ?_
  rintro e w2 ⟨rfl, b2⟩
  have z2 := b2.size
  have hm := hm.below b2 (by omega)
  have ht := ht.below b2 (by omega)
  have B2 := B1.trans (b2.mono (by omega))
  clear b2 B1
  rw [HV.out]
  go_wp2_with fail
  refine (s_PatternText hm (by omega) ht (by omega)).mono ?_
  rintro e w3 ⟨rfl, d3⟩
  have b3 := Dr.below d3 w2.heap.size
  have z3 := Dr.le d3
  clear d3
  have hm := hm.below b3 (by omega)
  have ht := ht.below b3 (by omega)
  have B3 := B2.trans (b3.mono (by omega))
  clear b3 B2
  rw [HV.out]
  go_wp2_with fail
  refine (i_ParsePattern hm (by omega) (by omega) (by omega)).mono ?_
  rintro e v1 ⟨ja, jc, rfl, J, bj⟩
  rw [HBK.out.2.1] at J
  rw [HBK.out.2.1, HBK.out.2.2]
  have ht := ht.below bj (by omega)
  have BJ := B3.trans (bj.mono (by omega))
  have heq : eqI t t = true := eqI_true.2 rfl
  go_wp2_with fail
  refine (l_equalInts J.ri ht (by omega) (by omega)).mono ?_
  rintro e v2 ⟨rfl, dj⟩
  rw [heq]
  go_wp2
  go_ret
  exact ⟨rfl, BJ.trans (Dr.below dj _)⟩

end Go.Proofs.Ytmmebcjebphfcaa
