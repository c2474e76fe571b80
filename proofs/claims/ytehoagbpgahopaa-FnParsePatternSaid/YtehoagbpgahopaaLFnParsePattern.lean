/- The walk of FnParsePattern: it returns true and writes nothing that was there. -/
import Derived.Test.YtehoagbpgahopaaRc
import Derived.Test.YtehoagbpgahopaaJw
import Derived.Test.YtehoagbpgahopaaWo
import Derived.Test.YtehoagbpgahopaaWk
namespace Go.Proofs.Ytehoagbpgahopaa
open Go.RowKit

theorem dg_rd {c : UInt8} (h : -1 ≤ rdB c ∧ rdB c ≤ 2) : dg (rdB c) = c := by
  by_cases h0 : c = 46
  · rw [rdB_dot h0, h0]; rfl
  by_cases h1 : (c.toNat : Int) < 48 ∨ 57 < (c.toNat : Int)
  · rw [rdB_other h0 h1] at h; omega
  have h2 : 48 ≤ (c.toNat : Int) ∧ (c.toNat : Int) ≤ 57 := by omega
  rw [rdB_digit h0 h2.1 h2.2] at h ⊢
  have h3 : c.toNat = 48 ∨ c.toNat = 49 ∨ c.toNat = 50 := by omega
  rcases h3 with h3 | h3 | h3
  · rw [show c = 48 from UInt8.toNat_inj.1 (by rw [h3]; rfl)]; rfl
  · rw [show c = 49 from UInt8.toNat_inj.1 (by rw [h3]; rfl)]; rfl
  · rw [show c = 50 from UInt8.toNat_inj.1 (by rw [h3]; rfl)]; rfl
theorem tx_rd {s : ByteArray} (h : ∀ x ∈ rdL s, -1 ≤ x ∧ x ≤ 2) : txS (rdL s) = s := by
  unfold txS
  apply ByteArray.ext
  have e : (rdL s).map dg = s.data.toList := by
    unfold rdL at h ⊢
    rw [List.map_map]
    conv => rhs; rw [← List.map_id s.data.toList]
    exact List.map_congr_left fun c hc => dg_rd (h _ (List.mem_map_of_mem hc))
  rw [e]
theorem pp_back {m : List Int} {s : ByteArray} (h : ppB m s = true) : okM m = true ∧ okP m (ppL m s) = true ∧ ptS m (ppL m s) = s ∧ (ppL m s).length ≤ 5 := by
  have h2 := h
  unfold ppB at h2
  rw [Bool.and_eq_true] at h2
  have e := (pp_yes h2.1 h2.2).1
  rw [e]
  refine ⟨h2.1, h2.2, ?_, by have := okW_len h2.2; have := okM_len h2.1; omega⟩
  rw [pt_yes h2.1 h2.2]
  exact tx_rd fun x hx => by
    obtain ⟨k, hk⟩ := List.getElem?_of_mem hx
    exact lv_of h2.1 h2.2 k x hk
theorem ppL_lenJ {m : List Int} {s : ByteArray} : (ppL m s).length ≤ s.size := by
  unfold ppL; split
  · rw [rdL_len]; exact Nat.le_refl _
  · simp

set_option maxRecDepth 100000 in
set_option maxHeartbeats 2000000 in
theorem law_FnParsePattern {m0 : Nat} {a0 : Option Addr} {c0 : Nat} {w : World} (f0 : RB w w.heap.size a0 m0) (l0 : m0 ≤ c0) :
    Calls Try.prog 10 #[.slice a0 m0 c0] w (Tru w) := by
  by_cases hb : m0 ≤ 1048576
  case neg =>
    go_enter Try.func10, Try.ntmps10
    go_wp2
    go_ret
    exact ⟨rfl, Below.refl _ _⟩
  go_enter Try.func10, Try.ntmps10
  go_wp2_with fail
  refine (s_DrawParsePattern f0 l0 hb).mono ?_
  rintro e w1 ⟨a1, c1, m, s, rfl, ⟨hG, hsz⟩, B1⟩
  have z1 := B1.size
  have hm := hG.ri
  have hl10 := hG.lp.1
  clear hG
  clear f0
  obtain ⟨L, hL⟩ : ∃ L, ppL m s = L := ⟨_, rfl⟩
  obtain ⟨b, hB⟩ : ∃ b, ppB m s = b := ⟨_, rfl⟩
  have HL := Lib.hid hL
  have HB := Lib.hid hB
  have HLN := @ppL_lenJ m s
  rw [hL] at HLN
  have heqL : eqI L L = true := eqI_true.2 rfl
  clear hL hB
  cases b
  · skip
    go_wp2_with fail
    refine (i_ParsePattern hm (by omega) (by omega) (by omega)).mono ?_
    rintro e w2 ⟨Aa, Ac, rfl, A, b2⟩
    have z2 := b2.size
    have hm := hm.below b2 (by omega)
    have B2 := B1.trans (b2.mono (by omega))
    clear b2 B1
    rw [HL.out] at A
    rw [HL.out, HB.out]
    go_wp2_with fail
    refine (s_ParsePattern hm (by omega) (by omega) (by omega)).mono ?_
    rintro e w3 ⟨Sa, Sc, rfl, S, b3⟩
    have z3 := b3.size
    have hm := hm.below b3 (by omega)
    have A := A.below b3 (by omega)
    have B3 := B2.trans (b3.mono (by omega))
    clear b3 B2
    rw [HL.out] at S
    rw [HL.out, HB.out]
    go_wp2_with fail
    refine (l_equalInts A.ri S.ri (by omega) (by omega)).mono ?_
    rintro e w4 ⟨rfl, d4⟩
    have b4 := Dr.below d4 w3.heap.size
    have z4 := Dr.le d4
    clear d4
    have hm := hm.below b4 (by omega)
    have A := A.below b4 (by omega)
    have S := S.below b4 (by omega)
    have B4 := B3.trans (b4.mono (by omega))
    clear b4 B3
    rw [heqL]
    go_wp2_with fail
    refine (l_equalInts A.ri S.ri (by omega) (by omega)).mono ?_
    rintro e w5 ⟨rfl, d5⟩
    have b5 := Dr.below d5 w4.heap.size
    have z5 := Dr.le d5
    clear d5
    have hm := hm.below b5 (by omega)
    have A := A.below b5 (by omega)
    have S := S.below b5 (by omega)
    have B5 := B4.trans (b5.mono (by omega))
    clear b5 B4
    rw [heqL]
    go_wp2
    go_ret
    exact ⟨rfl, B5⟩
  obtain ⟨hM, hP, hT, h5⟩ := pp_back HB.out
  rw [HL.out] at hP hT h5
  have HV : Hid ((okM m && okP m L) = true) := by show _ = _; rw [hM, hP]; rfl
  have HT := Lib.hid hT
  clear hM hP hT
  have hq1 : (s.toList == s.toList) = true := by simp
  go_wp2_with fail
  refine (i_ParsePattern hm (by omega) (by omega) (by omega)).mono ?_
  rintro e w2 ⟨Aa, Ac, rfl, A, b2⟩
  have z2 := b2.size
  have hm := hm.below b2 (by omega)
  have B2 := B1.trans (b2.mono (by omega))
  clear b2 B1
  rw [HL.out] at A
  rw [HL.out, HB.out]
  go_wp2_with fail
  refine (s_ParsePattern hm (by omega) (by omega) (by omega)).mono ?_
  rintro e w3 ⟨Sa, Sc, rfl, S, b3⟩
  have z3 := b3.size
  have hm := hm.below b3 (by omega)
  have A := A.below b3 (by omega)
  have B3 := B2.trans (b3.mono (by omega))
  clear b3 B2
  rw [HL.out] at S
  rw [HL.out, HB.out]
  go_wp2_with fail
  refine (l_equalInts A.ri S.ri (by omega) (by omega)).mono ?_
  rintro e w4 ⟨rfl, d4⟩
  have b4 := Dr.below d4 w3.heap.size
  have z4 := Dr.le d4
  clear d4
  have hm := hm.below b4 (by omega)
  have A := A.below b4 (by omega)
  have S := S.below b4 (by omega)
  have B4 := B3.trans (b4.mono (by omega))
  clear b4 B3
  rw [heqL]
  go_wp2_with fail
  refine (i_PatternText hm (by omega) A.ri (by omega) (by omega)).mono ?_
  rintro e w5 ⟨rfl, b5⟩
  have z5 := b5.size
  have hm := hm.below b5 (by omega)
  have A := A.below b5 (by omega)
  have B5 := B4.trans (b5.mono (by omega))
  clear b5 B4
  rw [HT.out]
  go_wp2_with fail
  refine (i_ValidPattern hm (by omega) A.ri (by omega)).mono ?_
  rintro e w6 ⟨rfl, d6⟩
  have b6 := Dr.below d6 w5.heap.size
  have z6 := Dr.le d6
  clear d6
  have hm := hm.below b6 (by omega)
  have A := A.below b6 (by omega)
  have B6 := B5.trans (b6.mono (by omega))
  clear b6 B5
  rw [HV.out]
  go_wp2
  go_ret
  exact ⟨rfl, B6⟩

end Go.Proofs.Ytehoagbpgahopaa
