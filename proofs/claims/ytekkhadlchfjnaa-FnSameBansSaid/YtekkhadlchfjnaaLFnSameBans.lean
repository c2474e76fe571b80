/- The walk of FnSameBans: it returns true and writes nothing that was there. -/
import Derived.Test.YtekkhadlchfjnaaRo
import Derived.Test.YtekkhadlchfjnaaRi
import Derived.Test.YtekkhadlchfjnaaZj
import Derived.Test.YtekkhadlchfjnaaVn
import Derived.Test.YtekkhadlchfjnaaZu
import Derived.Test.YtekkhadlchfjnaaVx
namespace Go.Proofs.Ytekkhadlchfjnaa
open Go.RowKit

set_option maxRecDepth 100000 in
set_option maxHeartbeats 2000000 in
theorem law_FnSameBans {m0 : Nat} {a0 : Option Addr} {c0 : Nat} {w : World} (f0 : RB w w.heap.size a0 m0) (l0 : m0 ≤ c0) :
    Calls Try.prog 6 #[.slice a0 m0 c0] w (Tru w) := by
  by_cases hb : m0 ≤ 1048576
  case neg =>
    go_enter Try.func6, Try.ntmps6
    go_wp2
    go_ret
    exact ⟨rfl, Below.refl _ _⟩
  go_enter Try.func6, Try.ntmps6
  go_wp2_with fail
  refine (s_DrawSameBans f0 l0 hb).mono ?_
  rintro e w1 ⟨a1, c1, m, a2, c2, s, a3, c3, u, rfl, ⟨hG, hS, hu, hul, hur⟩, B1⟩
  have z1 := B1.size
  have hm := hG.ri
  have hs := hS.ric
  have hl10 := hG.lp.1
  have hsl := hS.sq.1
  have scap := hS.ric.cap
  have HSR : Hid (∀ r ∈ s, r.length ≤ 12) := fun r h => (hS.sq.2 r h).1
  have HSG : Hid (∀ r ∈ s, r.length ≤ 9223372036854775807) := fun r h => by have := (hS.sq.2 r h).1; omega
  have hcap := hG.cap
  have HUG : Hid (∀ r ∈ u, r.length ≤ 9223372036854775807) := fun r h => by have := hur r h; omega
  clear hG hS hur
  clear f0
  cases hok : (okM m && okBn m s)
  · skip
    have HX : Hid (sbB m s u = false) := sb_no (by rw [hok]; rfl)
    have HV := Lib.hid hok; clear hok
    go_wp2_with fail
    refine (i_SameBans hm (by omega) hs.rii (by omega) HSG.out hu (by omega) HUG.out (by omega) (by omega) (by omega)).mono ?_
    rintro e w2 ⟨rfl, b2⟩
    have z2 := b2.size
    have hm := hm.below b2 (by omega)
    have hs := hs.below b2 (by omega)
    have hu := hu.below b2 (by omega)
    have B2 := B1.trans (b2.mono (by omega))
    clear b2 B1
    rw [HX.out]
    go_wp2_with fail
    refine (s_SameBans hm (by omega) hs.rii (by omega) HSG.out hu (by omega) HUG.out (by omega) (by omega) (by omega)).mono ?_
    rintro e w3 ⟨rfl, b3⟩
    have z3 := b3.size
    have hm := hm.below b3 (by omega)
    have hs := hs.below b3 (by omega)
    have hu := hu.below b3 (by omega)
    have B3 := B2.trans (b3.mono (by omega))
    clear b3 B2
    rw [HX.out]
    go_wp2_with fail
    refine (i_ValidBans hm (by omega) hs.rii (by omega) HSG.out).mono ?_
    rintro e w4 ⟨rfl, d4⟩
    have b4 := Dr.below d4 w3.heap.size
    have z4 := Dr.le d4
    clear d4
    have hm := hm.below b4 (by omega)
    have hs := hs.below b4 (by omega)
    have hu := hu.below b4 (by omega)
    have B4 := B3.trans (b4.mono (by omega))
    clear b4 B3
    rw [HV.out]
    go_wp2_with fail
    refine (s_SameBans hm (by omega) hs.rii (by omega) HSG.out hu (by omega) HUG.out (by omega) (by omega) (by omega)).mono ?_
    rintro e w5 ⟨rfl, b5⟩
    have z5 := b5.size
    have hm := hm.below b5 (by omega)
    have hs := hs.below b5 (by omega)
    have hu := hu.below b5 (by omega)
    have B5 := B4.trans (b5.mono (by omega))
    clear b5 B4
    rw [HX.out]
    go_wp2
    go_ret
    exact ⟨rfl, B5⟩
  have HV := Lib.hid hok
  have HOK : Hid (okM m = true) := by show _ = _; rw [Bool.and_eq_true] at hok; exact hok.1
  have HOB : Hid (okBn m s = true) := by show _ = _; rw [Bool.and_eq_true] at hok; exact hok.2
  clear hok
  cases hou : (okM m && okBn m u)
  · skip
    have HX : Hid (sbB m s u = false) := sb_no (by rw [HOK.out, Bool.true_and] at hou; rw [hou, Bool.and_false])
    have HW := Lib.hid hou; clear hou
    go_wp2_with fail
    refine (i_SameBans hm (by omega) hs.rii (by omega) HSG.out hu (by omega) HUG.out (by omega) (by omega) (by omega)).mono ?_
    rintro e w2 ⟨rfl, b2⟩
    have z2 := b2.size
    have hm := hm.below b2 (by omega)
    have hs := hs.below b2 (by omega)
    have hu := hu.below b2 (by omega)
    have B2 := B1.trans (b2.mono (by omega))
    clear b2 B1
    rw [HX.out]
    go_wp2_with fail
    refine (s_SameBans hm (by omega) hs.rii (by omega) HSG.out hu (by omega) HUG.out (by omega) (by omega) (by omega)).mono ?_
    rintro e w3 ⟨rfl, b3⟩
    have z3 := b3.size
    have hm := hm.below b3 (by omega)
    have hs := hs.below b3 (by omega)
    have hu := hu.below b3 (by omega)
    have B3 := B2.trans (b3.mono (by omega))
    clear b3 B2
    rw [HX.out]
    go_wp2_with fail
    refine (i_ValidBans hm (by omega) hs.rii (by omega) HSG.out).mono ?_
    rintro e w4 ⟨rfl, d4⟩
    have b4 := Dr.below d4 w3.heap.size
    have z4 := Dr.le d4
    clear d4
    have hm := hm.below b4 (by omega)
    have hs := hs.below b4 (by omega)
    have hu := hu.below b4 (by omega)
    have B4 := B3.trans (b4.mono (by omega))
    clear b4 B3
    rw [HV.out]
    go_wp2_with fail
    refine (i_ValidBans hm (by omega) hu (by omega) HUG.out).mono ?_
    rintro e w5 ⟨rfl, d5⟩
    have b5 := Dr.below d5 w4.heap.size
    have z5 := Dr.le d5
    clear d5
    have hm := hm.below b5 (by omega)
    have hs := hs.below b5 (by omega)
    have hu := hu.below b5 (by omega)
    have B5 := B4.trans (b5.mono (by omega))
    clear b5 B4
    rw [HW.out]
    go_wp2_with fail
    refine (s_SameBans hm (by omega) hs.rii (by omega) HSG.out hu (by omega) HUG.out (by omega) (by omega) (by omega)).mono ?_
    rintro e w6 ⟨rfl, b6⟩
    have z6 := b6.size
    have hm := hm.below b6 (by omega)
    have hs := hs.below b6 (by omega)
    have hu := hu.below b6 (by omega)
    have B6 := B5.trans (b6.mono (by omega))
    clear b6 B5
    rw [HX.out]
    go_wp2
    go_ret
    exact ⟨rfl, B6⟩
  have HW := Lib.hid hou
  have HOU : Hid (okBn m u = true) := by show _ = _; rw [Bool.and_eq_true] at hou; exact hou.2
  clear hou
  have hsame := lb_same HOK.out HOB.out HOU.out
  have hswap := @sb_swap m s u
  obtain ⟨X, hX⟩ : ∃ X, sbB m s u = X := ⟨_, rfl⟩
  rw [hX] at hsame hswap
  obtain ⟨L, hL⟩ : ∃ L, lbL m s = L := ⟨_, rfl⟩
  obtain ⟨M, hM⟩ : ∃ M, lbL m u = M := ⟨_, rfl⟩
  have HLN := @lbL_len m s
  have HGR := Lib.hid (@lbL_gr m s).2
  have HMN := @lbL_len m u
  have HGM := Lib.hid (@lbL_gr m u).2
  rw [hL] at HLN HGR hsame
  rw [hM] at HMN HGM hsame
  have HE : Hid (eqII L M = X) := by show _ = _; rw [hsame, Bool.eq_iff_iff, eqII_true, decide_eq_true_eq]
  have HX := Lib.hid hX
  have HSW := Lib.hid hswap
  have HL := Lib.hid hL
  have HM := Lib.hid hM
  clear hX hswap hsame hL hM
  cases X
  · skip
    go_wp2_with fail
    refine (i_SameBans hm (by omega) hs.rii (by omega) HSG.out hu (by omega) HUG.out (by omega) (by omega) (by omega)).mono ?_
    rintro e w2 ⟨rfl, b2⟩
    have z2 := b2.size
    have hm := hm.below b2 (by omega)
    have hs := hs.below b2 (by omega)
    have hu := hu.below b2 (by omega)
    have B2 := B1.trans (b2.mono (by omega))
    clear b2 B1
    rw [HX.out]
    go_wp2_with fail
    refine (s_SameBans hm (by omega) hs.rii (by omega) HSG.out hu (by omega) HUG.out (by omega) (by omega) (by omega)).mono ?_
    rintro e w3 ⟨rfl, b3⟩
    have z3 := b3.size
    have hm := hm.below b3 (by omega)
    have hs := hs.below b3 (by omega)
    have hu := hu.below b3 (by omega)
    have B3 := B2.trans (b3.mono (by omega))
    clear b3 B2
    rw [HX.out]
    go_wp2_with fail
    refine (i_ValidBans hm (by omega) hs.rii (by omega) HSG.out).mono ?_
    rintro e w4 ⟨rfl, d4⟩
    have b4 := Dr.below d4 w3.heap.size
    have z4 := Dr.le d4
    clear d4
    have hm := hm.below b4 (by omega)
    have hs := hs.below b4 (by omega)
    have hu := hu.below b4 (by omega)
    have B4 := B3.trans (b4.mono (by omega))
    clear b4 B3
    rw [HV.out]
    go_wp2_with fail
    refine (i_ValidBans hm (by omega) hu (by omega) HUG.out).mono ?_
    rintro e w5 ⟨rfl, d5⟩
    have b5 := Dr.below d5 w4.heap.size
    have z5 := Dr.le d5
    clear d5
    have hm := hm.below b5 (by omega)
    have hs := hs.below b5 (by omega)
    have hu := hu.below b5 (by omega)
    have B5 := B4.trans (b5.mono (by omega))
    clear b5 B4
    rw [HW.out]
    go_wp2_with fail
    refine (i_LeastBans hm (by omega) hs.rii (by omega) HSG.out (by omega) (by omega)).mono ?_
    rintro e w6 ⟨Aa, Ac, rfl, A, b6⟩
    have z6 := b6.size
    have hm := hm.below b6 (by omega)
    have hs := hs.below b6 (by omega)
    have hu := hu.below b6 (by omega)
    have B6 := B5.trans (b6.mono (by omega))
    clear b6 B5
    rw [HL.out] at A ⊢
    go_wp2_with fail
    refine (i_LeastBans hm (by omega) hu (by omega) HUG.out (by omega) (by omega)).mono ?_
    rintro e w7 ⟨Ca, Cc, rfl, C, b7⟩
    have z7 := b7.size
    have hm := hm.below b7 (by omega)
    have hs := hs.below b7 (by omega)
    have hu := hu.below b7 (by omega)
    have A := A.below b7 (by omega)
    have B7 := B6.trans (b7.mono (by omega))
    clear b7 B6
    rw [HM.out] at C ⊢
    go_wp2_with fail
    refine (l_equalLists A.rii C.rii (by omega) (by omega) HGR.out HGM.out).mono ?_
    rintro e w8 ⟨rfl, d8⟩
    have b8 := Dr.below d8 w7.heap.size
    have z8 := Dr.le d8
    clear d8
    have hm := hm.below b8 (by omega)
    have hs := hs.below b8 (by omega)
    have hu := hu.below b8 (by omega)
    have A := A.below b8 (by omega)
    have C := C.below b8 (by omega)
    have B8 := B7.trans (b8.mono (by omega))
    clear b8 B7
    rw [HE.out]
    go_wp2_with fail
    refine (i_SameBans hm (by omega) hu (by omega) HUG.out hs.rii (by omega) HSG.out (by omega) (by omega) (by omega)).mono ?_
    rintro e w9 ⟨rfl, b9⟩
    have z9 := b9.size
    have hm := hm.below b9 (by omega)
    have hs := hs.below b9 (by omega)
    have hu := hu.below b9 (by omega)
    have A := A.below b9 (by omega)
    have C := C.below b9 (by omega)
    have B9 := B8.trans (b9.mono (by omega))
    clear b9 B8
    rw [HSW.out]
    go_wp2
    go_ret
    exact ⟨rfl, B9⟩
  · skip
    go_wp2_with fail
    refine (i_SameBans hm (by omega) hs.rii (by omega) HSG.out hu (by omega) HUG.out (by omega) (by omega) (by omega)).mono ?_
    rintro e w2 ⟨rfl, b2⟩
    have z2 := b2.size
    have hm := hm.below b2 (by omega)
    have hs := hs.below b2 (by omega)
    have hu := hu.below b2 (by omega)
    have B2 := B1.trans (b2.mono (by omega))
    clear b2 B1
    rw [HX.out]
    go_wp2_with fail
    refine (s_SameBans hm (by omega) hs.rii (by omega) HSG.out hu (by omega) HUG.out (by omega) (by omega) (by omega)).mono ?_
    rintro e w3 ⟨rfl, b3⟩
    have z3 := b3.size
    have hm := hm.below b3 (by omega)
    have hs := hs.below b3 (by omega)
    have hu := hu.below b3 (by omega)
    have B3 := B2.trans (b3.mono (by omega))
    clear b3 B2
    rw [HX.out]
    go_wp2_with fail
    refine (i_ValidBans hm (by omega) hs.rii (by omega) HSG.out).mono ?_
    rintro e w4 ⟨rfl, d4⟩
    have b4 := Dr.below d4 w3.heap.size
    have z4 := Dr.le d4
    clear d4
    have hm := hm.below b4 (by omega)
    have hs := hs.below b4 (by omega)
    have hu := hu.below b4 (by omega)
    have B4 := B3.trans (b4.mono (by omega))
    clear b4 B3
    rw [HV.out]
    go_wp2_with fail
    refine (i_ValidBans hm (by omega) hu (by omega) HUG.out).mono ?_
    rintro e w5 ⟨rfl, d5⟩
    have b5 := Dr.below d5 w4.heap.size
    have z5 := Dr.le d5
    clear d5
    have hm := hm.below b5 (by omega)
    have hs := hs.below b5 (by omega)
    have hu := hu.below b5 (by omega)
    have B5 := B4.trans (b5.mono (by omega))
    clear b5 B4
    rw [HW.out]
    go_wp2_with fail
    refine (i_LeastBans hm (by omega) hs.rii (by omega) HSG.out (by omega) (by omega)).mono ?_
    rintro e w6 ⟨Aa, Ac, rfl, A, b6⟩
    have z6 := b6.size
    have hm := hm.below b6 (by omega)
    have hs := hs.below b6 (by omega)
    have hu := hu.below b6 (by omega)
    have B6 := B5.trans (b6.mono (by omega))
    clear b6 B5
    rw [HL.out] at A ⊢
    go_wp2_with fail
    refine (i_LeastBans hm (by omega) hu (by omega) HUG.out (by omega) (by omega)).mono ?_
    rintro e w7 ⟨Ca, Cc, rfl, C, b7⟩
    have z7 := b7.size
    have hm := hm.below b7 (by omega)
    have hs := hs.below b7 (by omega)
    have hu := hu.below b7 (by omega)
    have A := A.below b7 (by omega)
    have B7 := B6.trans (b7.mono (by omega))
    clear b7 B6
    rw [HM.out] at C ⊢
    go_wp2_with fail
    refine (l_equalLists A.rii C.rii (by omega) (by omega) HGR.out HGM.out).mono ?_
    rintro e w8 ⟨rfl, d8⟩
    have b8 := Dr.below d8 w7.heap.size
    have z8 := Dr.le d8
    clear d8
    have hm := hm.below b8 (by omega)
    have hs := hs.below b8 (by omega)
    have hu := hu.below b8 (by omega)
    have A := A.below b8 (by omega)
    have C := C.below b8 (by omega)
    have B8 := B7.trans (b8.mono (by omega))
    clear b8 B7
    rw [HE.out]
    go_wp2_with fail
    refine (i_SameBans hm (by omega) hu (by omega) HUG.out hs.rii (by omega) HSG.out (by omega) (by omega) (by omega)).mono ?_
    rintro e w9 ⟨rfl, b9⟩
    have z9 := b9.size
    have hm := hm.below b9 (by omega)
    have hs := hs.below b9 (by omega)
    have hu := hu.below b9 (by omega)
    have A := A.below b9 (by omega)
    have C := C.below b9 (by omega)
    have B9 := B8.trans (b9.mono (by omega))
    clear b9 B8
    rw [HSW.out]
    go_wp2
    go_ret
    exact ⟨rfl, B9⟩

end Go.Proofs.Ytekkhadlchfjnaa
