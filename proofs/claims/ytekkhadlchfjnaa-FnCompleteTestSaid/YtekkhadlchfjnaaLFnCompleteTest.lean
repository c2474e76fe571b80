/- The walk of FnCompleteTest: it returns true and writes nothing that was there. -/
import Derived.Test.YtekkhadlchfjnaaRo
import Derived.Test.YtekkhadlchfjnaaRi
import Derived.Test.YtekkhadlchfjnaaVt
import Derived.Test.YtekkhadlchfjnaaZk
import Derived.Test.YtekkhadlchfjnaaZj
import Derived.Test.YtekkhadlchfjnaaVh
namespace Go.Proofs.Ytekkhadlchfjnaa
open Go.RowKit

theorem cp_facts {m p : List Int} {s : List (List Int)} (h : ipB m s p = true) : okT m (cpL m s p) = true ∧ mB p (cpL m s p) = true ∧ okM m = true ∧ okP m p = true ∧ hasL (atL m s) (cpL m s p) = true := by
  have h2 := h
  unfold ipB at h2
  rw [Bool.and_eq_true, Bool.and_eq_true, Bool.and_eq_true] at h2
  obtain ⟨⟨⟨hm, hb⟩, hp⟩, hh⟩ := h2
  rw [← ct_has] at hh
  cases hct : ctO m s p with
  | none => rw [hct] at hh; cases hh
  | some x =>
    have hx := (cp_some hm hb hp hct).2
    have hmem := ct_mem hct
    rw [hx]
    exact ⟨(ext_mem hm).1 (List.mem_filter.1 hmem.1).1, hmem.2, hm, hp, hasL_iff.2 (by rw [at_yes hm hb]; exact hmem.1)⟩

set_option maxRecDepth 100000 in
set_option maxHeartbeats 2000000 in
theorem law_FnCompleteTest {m0 : Nat} {a0 : Option Addr} {c0 : Nat} {w : World} (f0 : RB w w.heap.size a0 m0) (l0 : m0 ≤ c0) :
    Calls Try.prog 4 #[.slice a0 m0 c0] w (Tru w) := by
  by_cases hb : m0 ≤ 1048576
  case neg =>
    go_enter Try.func4, Try.ntmps4
    go_wp2
    go_ret
    exact ⟨rfl, Below.refl _ _⟩
  go_enter Try.func4, Try.ntmps4
  go_wp2_with fail
  refine (s_DrawCompleteTest f0 l0 hb).mono ?_
  rintro e w1 ⟨a1, c1, m, a2, c2, s, a3, c3, p, rfl, ⟨hG, hS, hP⟩, B1⟩
  have z1 := B1.size
  have hm := hG.ri
  have hs := hS.ric
  have hl10 := hG.lp.1
  have hsl := hS.sq.1
  have scap := hS.ric.cap
  have HSR : Hid (∀ r ∈ s, r.length ≤ 12) := fun r h => (hS.sq.2 r h).1
  have HSG : Hid (∀ r ∈ s, r.length ≤ 9223372036854775807) := fun r h => by have := (hS.sq.2 r h).1; omega
  have hp := hP.ri
  have pl11 := hP.lp.1
  have hcap := hG.cap
  clear hG hS hP
  clear f0
  obtain ⟨L, hL⟩ : ∃ L, cpL m s p = L := ⟨_, rfl⟩
  obtain ⟨b, hB⟩ : ∃ b, ipB m s p = b := ⟨_, rfl⟩
  have HL := Lib.hid hL
  have HB := Lib.hid hB
  have HLN := @cpL_len m s p
  rw [hL] at HLN
  have heqL : eqI L L = true := eqI_true.2 rfl
  clear hL hB
  cases b
  · skip
    go_wp2_with fail
    refine (i_CompleteTest hm (by omega) hs.rii (by omega) HSG.out hp (by omega) (by omega) (by omega) (by omega)).mono ?_
    rintro e w2 ⟨Aa, Ac, rfl, A, b2⟩
    have z2 := b2.size
    have hm := hm.below b2 (by omega)
    have hs := hs.below b2 (by omega)
    have hp := hp.below b2 (by omega)
    have B2 := B1.trans (b2.mono (by omega))
    clear b2 B1
    rw [HL.out] at A
    rw [HL.out, HB.out]
    go_wp2_with fail
    refine (s_CompleteTest hm (by omega) hs.rii (by omega) HSG.out hp (by omega) (by omega) (by omega) (by omega)).mono ?_
    rintro e w3 ⟨Sa, Sc, rfl, S, b3⟩
    have z3 := b3.size
    have hm := hm.below b3 (by omega)
    have hs := hs.below b3 (by omega)
    have hp := hp.below b3 (by omega)
    have A := A.below b3 (by omega)
    have B3 := B2.trans (b3.mono (by omega))
    clear b3 B2
    rw [HL.out] at S
    rw [HL.out, HB.out]
    go_wp2_with fail
    refine (l_equalInts A.ri S.ri (by omega) (by omega)).mono ?_
    rintro e w4 ⟨rfl, d4⟩
    have b4 := Dr.below d4 w3.heap.size
    have z4 := Dr.le d4
    clear d4
    have hm := hm.below b4 (by omega)
    have hs := hs.below b4 (by omega)
    have hp := hp.below b4 (by omega)
    have A := A.below b4 (by omega)
    have S := S.below b4 (by omega)
    have B4 := B3.trans (b4.mono (by omega))
    clear b4 B3
    rw [heqL]
    go_wp2_with fail
    refine (l_equalInts A.ri S.ri (by omega) (by omega)).mono ?_
    rintro e w5 ⟨rfl, d5⟩
    have b5 := Dr.below d5 w4.heap.size
    have z5 := Dr.le d5
    clear d5
    have hm := hm.below b5 (by omega)
    have hs := hs.below b5 (by omega)
    have hp := hp.below b5 (by omega)
    have A := A.below b5 (by omega)
    have S := S.below b5 (by omega)
    have B5 := B4.trans (b5.mono (by omega))
    clear b5 B4
    rw [heqL]
    go_wp2
    go_ret
    exact ⟨rfl, B5⟩
  go_wp2_with fail
  refine (i_CompleteTest hm (by omega) hs.rii (by omega) HSG.out hp (by omega) (by omega) (by omega) (by omega)).mono ?_
  rintro e w2 ⟨Aa, Ac, rfl, A, b2⟩
  have z2 := b2.size
  have hm := hm.below b2 (by omega)
  have hs := hs.below b2 (by omega)
  have hp := hp.below b2 (by omega)
  have B2 := B1.trans (b2.mono (by omega))
  clear b2 B1
  rw [HL.out] at A
  rw [HL.out, HB.out]
  go_wp2_with fail
  refine (s_CompleteTest hm (by omega) hs.rii (by omega) HSG.out hp (by omega) (by omega) (by omega) (by omega)).mono ?_
  rintro e w3 ⟨Sa, Sc, rfl, S, b3⟩
  have z3 := b3.size
  have hm := hm.below b3 (by omega)
  have hs := hs.below b3 (by omega)
  have hp := hp.below b3 (by omega)
  have A := A.below b3 (by omega)
  have B3 := B2.trans (b3.mono (by omega))
  clear b3 B2
  rw [HL.out] at S
  rw [HL.out, HB.out]
  go_wp2_with fail
  refine (l_equalInts A.ri S.ri (by omega) (by omega)).mono ?_
  rintro e w4 ⟨rfl, d4⟩
  have b4 := Dr.below d4 w3.heap.size
  have z4 := Dr.le d4
  clear d4
  have hm := hm.below b4 (by omega)
  have hs := hs.below b4 (by omega)
  have hp := hp.below b4 (by omega)
  have A := A.below b4 (by omega)
  have S := S.below b4 (by omega)
  have B4 := B3.trans (b4.mono (by omega))
  clear b4 B3
  rw [heqL]
  have hF := cp_facts HB.out
  rw [HL.out] at hF
  have HMT : Hid ((okM m && okP m p && okT m L && mB p L) = true) := by show _ = _; rw [hF.2.2.1, hF.2.2.2.1, hF.1, hF.2.1]; rfl
  have HAS := Lib.hid hF.2.2.2.2
  have HAN := @atL_len m s
  have HAG := Lib.hid (@atL_gr m s).2
  clear hF S
  go_wp2_with fail
  refine (i_Matches hm (by omega) hp (by omega) A.ri (by omega) (by omega) (by omega)).mono ?_
  rintro e w5 ⟨rfl, b5⟩
  have z5 := b5.size
  have hm := hm.below b5 (by omega)
  have hs := hs.below b5 (by omega)
  have hp := hp.below b5 (by omega)
  have A := A.below b5 (by omega)
  have B5 := B4.trans (b5.mono (by omega))
  clear b5 B4
  rw [HMT.out]
  go_wp2_with fail
  refine (i_AllowedTests hm (by omega) hs.rii (by omega) HSG.out (by omega) (by omega)).mono ?_
  rintro e w6 ⟨Qa, Qc, rfl, Q, b6⟩
  have z6 := b6.size
  have hm := hm.below b6 (by omega)
  have hs := hs.below b6 (by omega)
  have hp := hp.below b6 (by omega)
  have A := A.below b6 (by omega)
  have B6 := B5.trans (b6.mono (by omega))
  clear b6 B5
  go_wp2_with fail
  refine (l_holdsList Q.rii A.ri (by omega) (by omega) HAG.out).mono ?_
  rintro e w7 ⟨rfl, d7⟩
  have b7 := Dr.below d7 w6.heap.size
  have z7 := Dr.le d7
  clear d7
  have hm := hm.below b7 (by omega)
  have hs := hs.below b7 (by omega)
  have hp := hp.below b7 (by omega)
  have A := A.below b7 (by omega)
  have Q := Q.below b7 (by omega)
  have B7 := B6.trans (b7.mono (by omega))
  clear b7 B6
  rw [HAS.out]
  go_wp2
  go_ret
  exact ⟨rfl, B7⟩

end Go.Proofs.Ytekkhadlchfjnaa
