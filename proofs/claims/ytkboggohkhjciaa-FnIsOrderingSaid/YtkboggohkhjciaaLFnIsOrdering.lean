/- The walk of FnIsOrdering: it returns true and writes nothing that was there. -/
import Derived.Test.YtkboggohkhjciaaRc
import Derived.Test.YtkboggohkhjciaaNa
import Derived.Test.YtkboggohkhjciaaNc
import Derived.Test.YtkboggohkhjciaaUb
import Derived.Test.YtkboggohkhjciaaUg
import Derived.Test.YtkboggohkhjciaaUe
import Derived.Test.YtkboggohkhjciaaOc
import Derived.Test.YtkboggohkhjciaaTg
namespace Go.Proofs.Ytkboggohkhjciaa
open Go.RowKit

set_option maxRecDepth 100000 in
set_option maxHeartbeats 2000000 in
theorem law_FnIsOrdering {m0 : Nat} {a0 : Option Addr} {c0 : Nat} {w : World} (f0 : RB w w.heap.size a0 m0) (l0 : m0 ≤ c0) :
    Calls Try.prog 7 #[.slice a0 m0 c0] w (Tru w) := by
  by_cases hb : m0 ≤ 1048576
  case neg =>
    go_enter Try.func7, Try.ntmps7
    go_wp2
    go_ret
    exact ⟨rfl, Below.refl _ _⟩
  go_enter Try.func7, Try.ntmps7
  go_wp2_with fail
  refine (s_DrawIsOrdering f0 l0 hb).mono ?_
  rintro e w1 ⟨n, a2, c2, L, t, rfl, hG, B1⟩
  have z1 := B1.size
  obtain ⟨hG, ht0, ht1⟩ := hG
  have hs := hG.ric
  have hn0 := hG.n0
  have hn6 := hG.n6
  have hlen := hG.len
  have HR6 := Lib.hid hG.row
  have HRG : Hid (∀ r ∈ L, r.length ≤ 9223372036854775807) := fun r h => by have := HR6.out r h; omega
  have scap := hs.cap
  clear hG
  clear f0
  cases hok : okRs n L
  · skip
    have HV := Lib.hid hok; clear hok
    have HB : Hid (ioB n L t = false) := by
      show _ = _
      unfold ioB uoG
      first | (rw [HV.out]; rfl) | (rw [inR_false.2 (by omega), Bool.and_false]; rfl)
    go_wp2_with fail
    refine (i_IsOrdering (by omega) (by omega) hs.rii (by omega) HRG.out (by omega) (by omega) (by omega)).mono ?_
    rintro e w2 ⟨rfl, b2⟩
    have z2 := b2.size
    have hs := hs.below b2 (by omega)
    have B2 := B1.trans (b2.mono (by omega))
    clear b2 B1
    rw [HB.out]
    go_wp2_with fail
    refine (s_IsOrdering (by omega) (by omega) hs.rii (by omega) HRG.out (by omega) (by omega) (by omega)).mono ?_
    rintro e w3 ⟨rfl, b3⟩
    have z3 := b3.size
    have hs := hs.below b3 (by omega)
    have B3 := B2.trans (b3.mono (by omega))
    clear b3 B2
    rw [HB.out]
    go_wp2_with fail
    refine (i_ValidRuns (by omega) (by omega) hs.rii (by omega) HRG.out (by omega)).mono ?_
    rintro e w4 ⟨rfl, b4⟩
    have z4 := b4.size
    have hs := hs.below b4 (by omega)
    have B4 := B3.trans (b4.mono (by omega))
    clear b4 B3
    rw [HV.out]
    go_wp2_with fail
    refine (s_IsOrdering (by omega) (by omega) hs.rii (by omega) HRG.out (by omega) (by omega) (by omega)).mono ?_
    rintro e w5 ⟨rfl, b5⟩
    have z5 := b5.size
    have hs := hs.below b5 (by omega)
    have B5 := B4.trans (b5.mono (by omega))
    clear b5 B4
    rw [HB.out]
    go_wp2
    go_ret
    exact ⟨rfl, B5⟩
  by_cases k1 : t < 0
  · skip
    have HV := Lib.hid hok; clear hok
    have HB : Hid (ioB n L t = false) := by
      show _ = _
      unfold ioB uoG
      first | (rw [HV.out]; rfl) | (rw [inR_false.2 (by omega), Bool.and_false]; rfl)
    go_wp2_with fail
    refine (i_IsOrdering (by omega) (by omega) hs.rii (by omega) HRG.out (by omega) (by omega) (by omega)).mono ?_
    rintro e w2 ⟨rfl, b2⟩
    have z2 := b2.size
    have hs := hs.below b2 (by omega)
    have B2 := B1.trans (b2.mono (by omega))
    clear b2 B1
    rw [HB.out]
    go_wp2_with fail
    refine (s_IsOrdering (by omega) (by omega) hs.rii (by omega) HRG.out (by omega) (by omega) (by omega)).mono ?_
    rintro e w3 ⟨rfl, b3⟩
    have z3 := b3.size
    have hs := hs.below b3 (by omega)
    have B3 := B2.trans (b3.mono (by omega))
    clear b3 B2
    rw [HB.out]
    go_wp2_with fail
    refine (i_ValidRuns (by omega) (by omega) hs.rii (by omega) HRG.out (by omega)).mono ?_
    rintro e w4 ⟨rfl, b4⟩
    have z4 := b4.size
    have hs := hs.below b4 (by omega)
    have B4 := B3.trans (b4.mono (by omega))
    clear b4 B3
    rw [HV.out]
    go_wp2_with fail
    refine (s_IsOrdering (by omega) (by omega) hs.rii (by omega) HRG.out (by omega) (by omega) (by omega)).mono ?_
    rintro e w5 ⟨rfl, b5⟩
    have z5 := b5.size
    have hs := hs.below b5 (by omega)
    have B5 := B4.trans (b5.mono (by omega))
    clear b5 B4
    rw [HB.out]
    go_wp2
    go_ret
    exact ⟨rfl, B5⟩
  by_cases k2 : n < t
  · skip
    have HV := Lib.hid hok; clear hok
    have HB : Hid (ioB n L t = false) := by
      show _ = _
      unfold ioB uoG
      first | (rw [HV.out]; rfl) | (rw [inR_false.2 (by omega), Bool.and_false]; rfl)
    go_wp2_with fail
    refine (i_IsOrdering (by omega) (by omega) hs.rii (by omega) HRG.out (by omega) (by omega) (by omega)).mono ?_
    rintro e w2 ⟨rfl, b2⟩
    have z2 := b2.size
    have hs := hs.below b2 (by omega)
    have B2 := B1.trans (b2.mono (by omega))
    clear b2 B1
    rw [HB.out]
    go_wp2_with fail
    refine (s_IsOrdering (by omega) (by omega) hs.rii (by omega) HRG.out (by omega) (by omega) (by omega)).mono ?_
    rintro e w3 ⟨rfl, b3⟩
    have z3 := b3.size
    have hs := hs.below b3 (by omega)
    have B3 := B2.trans (b3.mono (by omega))
    clear b3 B2
    rw [HB.out]
    go_wp2_with fail
    refine (i_ValidRuns (by omega) (by omega) hs.rii (by omega) HRG.out (by omega)).mono ?_
    rintro e w4 ⟨rfl, b4⟩
    have z4 := b4.size
    have hs := hs.below b4 (by omega)
    have B4 := B3.trans (b4.mono (by omega))
    clear b4 B3
    rw [HV.out]
    go_wp2_with fail
    refine (s_IsOrdering (by omega) (by omega) hs.rii (by omega) HRG.out (by omega) (by omega) (by omega)).mono ?_
    rintro e w5 ⟨rfl, b5⟩
    have z5 := b5.size
    have hs := hs.below b5 (by omega)
    have B5 := B4.trans (b5.mono (by omega))
    clear b5 B4
    rw [HB.out]
    go_wp2
    go_ret
    exact ⟨rfl, B5⟩
  have HV := Lib.hid hok; clear hok
  obtain ⟨N, rfl⟩ := Int.eq_ofNat_of_zero_le hn0
  obtain ⟨T, rfl⟩ := Int.eq_ofNat_of_zero_le (show 0 ≤ t by omega)
  have hNT : T ≤ N := by omega
  have HUL := @uoL_len (N : Int) L (T : Int)
  obtain ⟨U, hU⟩ : ∃ U, uoL (N : Int) L (T : Int) = U := ⟨_, rfl⟩
  have HU := Lib.hid hU
  rw [hU] at HUL
  clear hU
  have HIO : Hid (ioB (N : Int) L (T : Int) = decide (U.length = 0)) := by show _ = _; unfold ioB; rw [HU.out, (uo_nat HV.out hNT).1]; rfl
  cases hb3 : ioB (N : Int) L (T : Int)
  · skip
    have HB := Lib.hid hb3
    have hu0 : ¬ U.length = 0 := by rw [hb3] at HIO; exact of_decide_eq_false HIO.out.symm
    have hul : ((U.length : Int) == 0) = false := by rw [beq_eq_false_iff_ne]; omega
    clear hb3
    go_wp2_with fail
    refine (i_IsOrdering (by omega) (by omega) hs.rii (by omega) HRG.out (by omega) (by omega) (by omega)).mono ?_
    rintro e w2 ⟨rfl, b2⟩
    have z2 := b2.size
    have hs := hs.below b2 (by omega)
    have B2 := B1.trans (b2.mono (by omega))
    clear b2 B1
    rw [HB.out]
    go_wp2_with fail
    refine (s_IsOrdering (by omega) (by omega) hs.rii (by omega) HRG.out (by omega) (by omega) (by omega)).mono ?_
    rintro e w3 ⟨rfl, b3⟩
    have z3 := b3.size
    have hs := hs.below b3 (by omega)
    have B3 := B2.trans (b3.mono (by omega))
    clear b3 B2
    rw [HB.out]
    go_wp2_with fail
    refine (i_ValidRuns (by omega) (by omega) hs.rii (by omega) HRG.out (by omega)).mono ?_
    rintro e w4 ⟨rfl, b4⟩
    have z4 := b4.size
    have hs := hs.below b4 (by omega)
    have B4 := B3.trans (b4.mono (by omega))
    clear b4 B3
    rw [HV.out]
    go_wp2_with fail
    refine (i_UnseenOf (by omega) (by omega) hs.rii (by omega) HRG.out (by omega) (by omega) (by omega)).mono ?_
    rintro e w5 ⟨Qa, Qc, rfl, Q, b5⟩
    have z5 := b5.size
    have hs := hs.below b5 (by omega)
    have B5 := B4.trans (b5.mono (by omega))
    clear b5 B4
    rw [HU.out] at Q ⊢
    go_wp2
    go_ret
    exact ⟨rfl, B5⟩
  have HB := Lib.hid hb3
  have hu0 : U.length = 0 := by rw [hb3] at HIO; exact of_decide_eq_true HIO.out.symm
  obtain rfl : U = [] := List.eq_nil_of_length_eq_zero hu0
  have HF := Lib.hid (io_law HV.out hNT hb3)
  clear hb3 hu0 HIO
  go_wp2_with fail
  refine (i_IsOrdering (by omega) (by omega) hs.rii (by omega) HRG.out (by omega) (by omega) (by omega)).mono ?_
  rintro e w2 ⟨rfl, b2⟩
  have z2 := b2.size
  have hs := hs.below b2 (by omega)
  have B2 := B1.trans (b2.mono (by omega))
  clear b2 B1
  rw [HB.out]
  go_wp2_with fail
  refine (s_IsOrdering (by omega) (by omega) hs.rii (by omega) HRG.out (by omega) (by omega) (by omega)).mono ?_
  rintro e w3 ⟨rfl, b3⟩
  have z3 := b3.size
  have hs := hs.below b3 (by omega)
  have B3 := B2.trans (b3.mono (by omega))
  clear b3 B2
  rw [HB.out]
  go_wp2_with fail
  refine (i_ValidRuns (by omega) (by omega) hs.rii (by omega) HRG.out (by omega)).mono ?_
  rintro e w4 ⟨rfl, b4⟩
  have z4 := b4.size
  have hs := hs.below b4 (by omega)
  have B4 := B3.trans (b4.mono (by omega))
  clear b4 B3
  rw [HV.out]
  go_wp2_with fail
  refine (i_UnseenOf (by omega) (by omega) hs.rii (by omega) HRG.out (by omega) (by omega) (by omega)).mono ?_
  rintro e w5 ⟨Qa, Qc, rfl, Q, b5⟩
  have z5 := b5.size
  have hs := hs.below b5 (by omega)
  have B5 := B4.trans (b5.mono (by omega))
  clear b5 B4
  rw [HU.out] at Q ⊢
  go_wp2_with fail
  refine (l_falling (n := T) (t := T) (by omega) (by omega)).mono ?_
  rintro e w6 ⟨rfl, d6⟩
  have b6 := Dr.below d6 w5.heap.size
  have z6 := Dr.le d6
  clear d6
  have hs := hs.below b6 (by omega)
  have Q := Q.below b6 (by omega)
  have B6 := B5.trans (b6.mono (by omega))
  clear b6 B5
  have hfl : decide (((fall T T : Nat) : Int) ≤ (L.length : Int)) = true := decide_eq_true (by have := HF.out.1; omega)
  have hfl2 : decide (fall T T ≤ L.length) = true := decide_eq_true HF.out.1
  by_cases hT0 : T = 0
  · skip
    subst hT0
    go_wp2
    go_ret
    exact ⟨rfl, B6⟩
  obtain ⟨S, hS⟩ : ∃ S, S + 1 = T := ⟨T - 1, by omega⟩
  have HL1 := Lib.hid (HF.out.2 S hS)
  have hd0 : ((T : Int) == 0) = false := by rw [beq_eq_false_iff_ne]; omega
  have hw : IntKind.i64.wrap ((T : Int) - 1) = (S : Int) := by rw [IntWalk.i64_in _ (by omega)]; omega
  have hS5 : S ≤ 5 := by omega
  clear hS
  go_wp2_with fail
  refine (i_IsOrdering (by omega) (by omega) hs.rii (by omega) HRG.out (by omega) (by omega) (by omega)).mono ?_
  rintro e w7 ⟨rfl, b7⟩
  have z7 := b7.size
  have hs := hs.below b7 (by omega)
  have Q := Q.below b7 (by omega)
  have B7 := B6.trans (b7.mono (by omega))
  clear b7 B6
  rw [HL1.out]
  go_wp2
  go_ret
  exact ⟨rfl, B7⟩

end Go.Proofs.Ytkboggohkhjciaa
