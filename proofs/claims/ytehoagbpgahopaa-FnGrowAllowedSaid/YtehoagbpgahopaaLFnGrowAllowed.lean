/- The walk of FnGrowAllowed: it returns true and writes nothing that was there. -/
import Derived.Test.YtehoagbpgahopaaRo
import Derived.Test.YtehoagbpgahopaaRi
import Derived.Test.YtehoagbpgahopaaVs
import Derived.Test.YtehoagbpgahopaaVj
import Derived.Test.YtehoagbpgahopaaVb
import Derived.Test.YtehoagbpgahopaaZl
import Derived.Test.YtehoagbpgahopaaYi
namespace Go.Proofs.Ytehoagbpgahopaa
open Go.RowKit

set_option maxRecDepth 100000 in
set_option maxHeartbeats 2000000 in
theorem law_FnGrowAllowed {m0 : Nat} {a0 : Option Addr} {c0 : Nat} {w : World} (f0 : RB w w.heap.size a0 m0) (l0 : m0 ≤ c0) :
    Calls Try.prog 16 #[.slice a0 m0 c0] w (Tru w) := by
  by_cases hb : m0 ≤ 1048576
  case neg =>
    go_enter Try.func16, Try.ntmps16
    go_wp2
    go_ret
    exact ⟨rfl, Below.refl _ _⟩
  go_enter Try.func16, Try.ntmps16
  go_wp2_with fail
  refine (s_DrawGrowAllowed f0 l0 hb).mono ?_
  rintro e w1 ⟨a1, c1, m, a2, c2, s, t, rfl, ⟨hG, hS, ht0, ht1⟩, B1⟩
  have z1 := B1.size
  have hm := hG.ri
  have hs := hS.ric
  have hl10 := hG.lp.1
  have hsl := hS.sq.1
  have scap := hS.ric.cap
  have HSR : Hid (∀ r ∈ s, r.length ≤ 12) := fun r h => (hS.sq.2 r h).1
  have HSG : Hid (∀ r ∈ s, r.length ≤ 9223372036854775807) := fun r h => by have := (hS.sq.2 r h).1; omega
  clear hG hS
  clear f0
  obtain ⟨L, hL⟩ : ∃ L, gaL m s t = L := ⟨_, rfl⟩
  obtain ⟨b, hB⟩ : ∃ b, gaB m s t = b := ⟨_, rfl⟩
  have HL := Lib.hid hL
  have HB := Lib.hid hB
  have HLN := @gaL_len m s t
  have HGR := Lib.hid (@gaL_gr m s t).2
  have HRW := Lib.hid (@gaL_row m s t)
  rw [hL] at HLN HGR HRW
  have heqL : eqII L L = true := eqII_true.2 rfl
  clear hL hB
  cases b
  · skip
    go_wp2_with fail
    refine (i_GrowAllowed hm (by omega) hs.rii (by omega) HSG.out (by omega) (by omega) (by omega) (by omega)).mono ?_
    rintro e w2 ⟨Aa, Ac, rfl, A, b2⟩
    have z2 := b2.size
    have hm := hm.below b2 (by omega)
    have hs := hs.below b2 (by omega)
    have B2 := B1.trans (b2.mono (by omega))
    clear b2 B1
    rw [HL.out] at A
    rw [HL.out, HB.out]
    go_wp2_with fail
    refine (s_GrowAllowed hm (by omega) hs.rii (by omega) HSG.out (by omega) (by omega) (by omega) (by omega)).mono ?_
    rintro e w3 ⟨Sa, Sc, rfl, S, b3⟩
    have z3 := b3.size
    have hm := hm.below b3 (by omega)
    have hs := hs.below b3 (by omega)
    have A := A.below b3 (by omega)
    have B3 := B2.trans (b3.mono (by omega))
    clear b3 B2
    rw [HL.out] at S
    rw [HL.out, HB.out]
    go_wp2_with fail
    refine (l_equalLists A.rii S.rii (by omega) (by omega) HGR.out HGR.out).mono ?_
    rintro e w4 ⟨rfl, d4⟩
    have b4 := Dr.below d4 w3.heap.size
    have z4 := Dr.le d4
    clear d4
    have hm := hm.below b4 (by omega)
    have hs := hs.below b4 (by omega)
    have A := A.below b4 (by omega)
    have S := S.below b4 (by omega)
    have B4 := B3.trans (b4.mono (by omega))
    clear b4 B3
    rw [heqL]
    go_wp2_with fail
    refine (l_equalLists A.rii S.rii (by omega) (by omega) HGR.out HGR.out).mono ?_
    rintro e w5 ⟨rfl, d5⟩
    have b5 := Dr.below d5 w4.heap.size
    have z5 := Dr.le d5
    clear d5
    have hm := hm.below b5 (by omega)
    have hs := hs.below b5 (by omega)
    have A := A.below b5 (by omega)
    have S := S.below b5 (by omega)
    have B5 := B4.trans (b5.mono (by omega))
    clear b5 B4
    rw [heqL]
    go_wp2
    go_ret
    exact ⟨rfl, B5⟩
  have hF := ga_facts HB.out
  have hN := ga_nil (t := t) hF.1
  rw [HL.out] at hF
  have HIA := Lib.hid hF.2
  obtain ⟨F, hF1⟩ : ∃ F, gaL m [] t = F := ⟨_, rfl⟩
  obtain ⟨q, hq⟩ : ∃ q, gaB m [] t = q := ⟨_, rfl⟩
  have HFN := @gaL_len m [] t
  have HFG := Lib.hid (@gaL_gr m [] t).2
  rw [hF1] at hN HFN HFG
  rw [hq] at hN
  have HF1 := Lib.hid hF1
  have HQ1 := Lib.hid hq
  have HF2 : Hid (gsL m [] t = F) := hN.1.symm
  have HQ2 : Hid (gsB m [] t = q) := hN.2.symm
  have heqF : eqII F F = true := eqII_true.2 rfl
  have HG9 : Hid (∀ r ∈ L, r.length ≤ 9223372036854775807) := fun r h => by have := HGR.out r h; omega
  clear hF hN hF1 hq
  go_wp2_with fail
  refine (i_GrowAllowed hm (by omega) hs.rii (by omega) HSG.out (by omega) (by omega) (by omega) (by omega)).mono ?_
  rintro e w2 ⟨Aa, Ac, rfl, A, b2⟩
  have z2 := b2.size
  have hm := hm.below b2 (by omega)
  have hs := hs.below b2 (by omega)
  have B2 := B1.trans (b2.mono (by omega))
  clear b2 B1
  rw [HL.out] at A
  rw [HL.out, HB.out]
  go_wp2_with fail
  refine (s_GrowAllowed hm (by omega) hs.rii (by omega) HSG.out (by omega) (by omega) (by omega) (by omega)).mono ?_
  rintro e w3 ⟨Sa, Sc, rfl, S, b3⟩
  have z3 := b3.size
  have hm := hm.below b3 (by omega)
  have hs := hs.below b3 (by omega)
  have A := A.below b3 (by omega)
  have B3 := B2.trans (b3.mono (by omega))
  clear b3 B2
  rw [HL.out] at S
  rw [HL.out, HB.out]
  go_wp2_with fail
  refine (l_equalLists A.rii S.rii (by omega) (by omega) HGR.out HGR.out).mono ?_
  rintro e w4 ⟨rfl, d4⟩
  have b4 := Dr.below d4 w3.heap.size
  have z4 := Dr.le d4
  clear d4
  have hm := hm.below b4 (by omega)
  have hs := hs.below b4 (by omega)
  have A := A.below b4 (by omega)
  have S := S.below b4 (by omega)
  have B4 := B3.trans (b4.mono (by omega))
  clear b4 B3
  rw [heqL]
  go_wp2_with fail
  refine (i_GrowAllowed (s := []) (c1 := 0) hm (by omega) (RII.nil _ 0 0 none) (by simp) (by simp) (by omega) (by omega) (by omega) (by omega)).mono ?_
  rintro e w5 ⟨F3a, F3c, rfl, F3, b5⟩
  have z5 := b5.size
  have hm := hm.below b5 (by omega)
  have hs := hs.below b5 (by omega)
  have A := A.below b5 (by omega)
  have B5 := B4.trans (b5.mono (by omega))
  clear b5 B4
  rw [HF1.out] at F3
  rw [HF1.out, HQ1.out]
  go_wp2_with fail
  refine (i_GrowSuite (s := []) (c' := 0) hm (by omega) (RII.nil _ 0 0 none) (by simp) (by simp) (by omega) (by omega) (by omega) (by omega)).mono ?_
  rintro e w6 ⟨F4a, F4c, rfl, F4, b6⟩
  have z6 := b6.size
  have hm := hm.below b6 (by omega)
  have hs := hs.below b6 (by omega)
  have A := A.below b6 (by omega)
  have F3 := F3.below b6 (by omega)
  have B6 := B5.trans (b6.mono (by omega))
  clear b6 B5
  rw [HF2.out] at F4
  rw [HF2.out, HQ2.out]
  go_wp2_with fail
  refine (i_IsAllowedCovering hm (by omega) hs.rii (by omega) HSG.out A.rii (by omega) HG9.out (by omega) (by omega) (by omega) (by omega) (by omega)).mono ?_
  rintro e w7 ⟨rfl, b7⟩
  have z7 := b7.size
  have hm := hm.below b7 (by omega)
  have hs := hs.below b7 (by omega)
  have A := A.below b7 (by omega)
  have F3 := F3.below b7 (by omega)
  have F4 := F4.below b7 (by omega)
  have B7 := B6.trans (b7.mono (by omega))
  clear b7 B6
  rw [HIA.out]
  cases q
  · skip
    go_wp2_with fail
    refine (l_equalLists F3.rii F4.rii (by omega) (by omega) HFG.out HFG.out).mono ?_
    rintro e w8 ⟨rfl, d8⟩
    have b8 := Dr.below d8 w7.heap.size
    have z8 := Dr.le d8
    clear d8
    have hm := hm.below b8 (by omega)
    have hs := hs.below b8 (by omega)
    have A := A.below b8 (by omega)
    have F3 := F3.below b8 (by omega)
    have F4 := F4.below b8 (by omega)
    have B8 := B7.trans (b8.mono (by omega))
    clear b8 B7
    rw [heqF]
    go_wp2
    go_ret
    exact ⟨rfl, B8⟩
  · skip
    go_wp2_with fail
    refine (l_equalLists F3.rii F4.rii (by omega) (by omega) HFG.out HFG.out).mono ?_
    rintro e w8 ⟨rfl, d8⟩
    have b8 := Dr.below d8 w7.heap.size
    have z8 := Dr.le d8
    clear d8
    have hm := hm.below b8 (by omega)
    have hs := hs.below b8 (by omega)
    have A := A.below b8 (by omega)
    have F3 := F3.below b8 (by omega)
    have F4 := F4.below b8 (by omega)
    have B8 := B7.trans (b8.mono (by omega))
    clear b8 B7
    rw [heqF]
    go_wp2
    go_ret
    exact ⟨rfl, B8⟩

end Go.Proofs.Ytehoagbpgahopaa
