/- The walk of FnIsDetecting: it returns true and writes nothing that was there. -/
import Derived.Test.YtehoagbpgahopaaJr
import Derived.Test.YtehoagbpgahopaaJa
import Derived.Test.YtehoagbpgahopaaYb
namespace Go.Proofs.Ytehoagbpgahopaa
open Go.RowKit

set_option maxRecDepth 100000 in
set_option maxHeartbeats 2000000 in
theorem law_FnIsDetecting {m0 : Nat} {a0 : Option Addr} {c0 : Nat} {w : World} (f0 : RB w w.heap.size a0 m0) (l0 : m0 ≤ c0) :
    Calls Try.prog 23 #[.slice a0 m0 c0] w (Tru w) := by
  by_cases hb : m0 ≤ 1048576
  case neg =>
    go_enter Try.func23, Try.ntmps23
    go_wp2
    go_ret
    exact ⟨rfl, Below.refl _ _⟩
  go_enter Try.func23, Try.ntmps23
  go_wp2_with fail
  refine (s_DrawIsDetecting f0 l0 hb).mono ?_
  rintro e w1 ⟨a1, c1, m, a2, c2, s, t, rfl, ⟨hm, hl10, hs, hsl, hsr, ht0, ht1⟩, B1⟩
  have z1 := B1.size
  have HSR := Lib.hid hsr
  have HSG : Hid (∀ r ∈ s, r.length ≤ 9223372036854775807) := fun r h => by have := HSR.out r h; omega
  clear hsr
  clear f0
  obtain ⟨z, hZ⟩ : ∃ z, idB m s t = z := ⟨_, rfl⟩
  have HZ := Lib.hid hZ
  have hzz : (z != z) = false := by cases z <;> rfl
  have hze : (z == z) = true := by cases z <;> rfl
  clear hZ
  cases hok : (okM m && okS m s)
  · skip
    have HV := Lib.hid hok; clear hok
    go_wp2_with fail
    refine (i_IsDetecting hm (by omega) hs (by omega) HSG.out (by omega) (by omega) (by omega) (by omega)).mono ?_
    rintro e w2 ⟨rfl, b2⟩
    have z2 := b2.size
    have hm := hm.below b2 (by omega)
    have hs := hs.below b2 (by omega)
    have B2 := B1.trans (b2.mono (by omega))
    clear b2 B1
    rw [HZ.out]
    go_wp2_with fail
    refine (s_IsDetecting hm (by omega) hs (by omega) HSG.out (by omega) (by omega) (by omega) (by omega)).mono ?_
    rintro e w3 ⟨rfl, b3⟩
    have z3 := b3.size
    have hm := hm.below b3 (by omega)
    have hs := hs.below b3 (by omega)
    have B3 := B2.trans (b3.mono (by omega))
    clear b3 B2
    rw [HZ.out]
    go_wp2_with fail
    refine (i_ValidSuite hm (by omega) hs (by omega) HSG.out).mono ?_
    rintro e w4 ⟨rfl, d4⟩
    have b4 := Dr.below d4 w3.heap.size
    have z4 := Dr.le d4
    clear d4
    have hm := hm.below b4 (by omega)
    have hs := hs.below b4 (by omega)
    have B4 := B3.trans (b4.mono (by omega))
    clear b4 B3
    rw [HV.out]
    go_wp2_with fail
    refine (s_IsDetecting hm (by omega) hs (by omega) HSG.out (by omega) (by omega) (by omega) (by omega)).mono ?_
    rintro e w5 ⟨rfl, b5⟩
    have z5 := b5.size
    have hm := hm.below b5 (by omega)
    have hs := hs.below b5 (by omega)
    have B5 := B4.trans (b5.mono (by omega))
    clear b5 B4
    rw [HZ.out]
    go_wp2
    go_ret
    exact ⟨rfl, B5⟩
  have HV := Lib.hid hok
  rw [Bool.and_eq_true] at hok
  have HOK := Lib.hid hok.1; have HOS := Lib.hid hok.2
  clear hok
  have hm5 := okM_len HOK.out
  by_cases k1 : t < 0
  · skip
    go_wp2_with fail
    refine (i_IsDetecting hm (by omega) hs (by omega) HSG.out (by omega) (by omega) (by omega) (by omega)).mono ?_
    rintro e w2 ⟨rfl, b2⟩
    have z2 := b2.size
    have hm := hm.below b2 (by omega)
    have hs := hs.below b2 (by omega)
    have B2 := B1.trans (b2.mono (by omega))
    clear b2 B1
    rw [HZ.out]
    go_wp2_with fail
    refine (s_IsDetecting hm (by omega) hs (by omega) HSG.out (by omega) (by omega) (by omega) (by omega)).mono ?_
    rintro e w3 ⟨rfl, b3⟩
    have z3 := b3.size
    have hm := hm.below b3 (by omega)
    have hs := hs.below b3 (by omega)
    have B3 := B2.trans (b3.mono (by omega))
    clear b3 B2
    rw [HZ.out]
    go_wp2_with fail
    refine (i_ValidSuite hm (by omega) hs (by omega) HSG.out).mono ?_
    rintro e w4 ⟨rfl, d4⟩
    have b4 := Dr.below d4 w3.heap.size
    have z4 := Dr.le d4
    clear d4
    have hm := hm.below b4 (by omega)
    have hs := hs.below b4 (by omega)
    have B4 := B3.trans (b4.mono (by omega))
    clear b4 B3
    rw [HV.out]
    go_wp2_with fail
    refine (s_IsDetecting hm (by omega) hs (by omega) HSG.out (by omega) (by omega) (by omega) (by omega)).mono ?_
    rintro e w5 ⟨rfl, b5⟩
    have z5 := b5.size
    have hm := hm.below b5 (by omega)
    have hs := hs.below b5 (by omega)
    have B5 := B4.trans (b5.mono (by omega))
    clear b5 B4
    rw [HZ.out]
    go_wp2
    go_ret
    exact ⟨rfl, B5⟩
  by_cases k2 : (m.length : Int) < t
  · skip
    go_wp2_with fail
    refine (i_IsDetecting hm (by omega) hs (by omega) HSG.out (by omega) (by omega) (by omega) (by omega)).mono ?_
    rintro e w2 ⟨rfl, b2⟩
    have z2 := b2.size
    have hm := hm.below b2 (by omega)
    have hs := hs.below b2 (by omega)
    have B2 := B1.trans (b2.mono (by omega))
    clear b2 B1
    rw [HZ.out]
    go_wp2_with fail
    refine (s_IsDetecting hm (by omega) hs (by omega) HSG.out (by omega) (by omega) (by omega) (by omega)).mono ?_
    rintro e w3 ⟨rfl, b3⟩
    have z3 := b3.size
    have hm := hm.below b3 (by omega)
    have hs := hs.below b3 (by omega)
    have B3 := B2.trans (b3.mono (by omega))
    clear b3 B2
    rw [HZ.out]
    go_wp2_with fail
    refine (i_ValidSuite hm (by omega) hs (by omega) HSG.out).mono ?_
    rintro e w4 ⟨rfl, d4⟩
    have b4 := Dr.below d4 w3.heap.size
    have z4 := Dr.le d4
    clear d4
    have hm := hm.below b4 (by omega)
    have hs := hs.below b4 (by omega)
    have B4 := B3.trans (b4.mono (by omega))
    clear b4 B3
    rw [HV.out]
    go_wp2_with fail
    refine (s_IsDetecting hm (by omega) hs (by omega) HSG.out (by omega) (by omega) (by omega) (by omega)).mono ?_
    rintro e w5 ⟨rfl, b5⟩
    have z5 := b5.size
    have hm := hm.below b5 (by omega)
    have hs := hs.below b5 (by omega)
    have B5 := B4.trans (b5.mono (by omega))
    clear b5 B4
    rw [HZ.out]
    go_wp2
    go_ret
    exact ⟨rfl, B5⟩
  have HC : Hid (okC m s t = true) := by
    show _ = _
    unfold okC
    rw [HOK.out, HOS.out, inR_true.2 (by omega)]; rfl
  go_wp2_with fail
  refine (i_IsDetecting hm (by omega) hs (by omega) HSG.out (by omega) (by omega) (by omega) (by omega)).mono ?_
  rintro e w2 ⟨rfl, b2⟩
  have z2 := b2.size
  have hm := hm.below b2 (by omega)
  have hs := hs.below b2 (by omega)
  have B2 := B1.trans (b2.mono (by omega))
  clear b2 B1
  rw [HZ.out]
  go_wp2_with fail
  refine (s_IsDetecting hm (by omega) hs (by omega) HSG.out (by omega) (by omega) (by omega) (by omega)).mono ?_
  rintro e w3 ⟨rfl, b3⟩
  have z3 := b3.size
  have hm := hm.below b3 (by omega)
  have hs := hs.below b3 (by omega)
  have B3 := B2.trans (b3.mono (by omega))
  clear b3 B2
  rw [HZ.out]
  go_wp2_with fail
  refine (i_ValidSuite hm (by omega) hs (by omega) HSG.out).mono ?_
  rintro e w4 ⟨rfl, d4⟩
  have b4 := Dr.below d4 w3.heap.size
  have z4 := Dr.le d4
  clear d4
  have hm := hm.below b4 (by omega)
  have hs := hs.below b4 (by omega)
  have B4 := B3.trans (b4.mono (by omega))
  clear b4 B3
  rw [HV.out]
  obtain ⟨P, hP⟩ : ∃ P, apL m t = P := ⟨_, rfl⟩
  have HP := Lib.hid hP
  have HFA : Hid (z = true → ilB m s t = true ∧ (P.length < 2 ∨ icB m s t = true)) := fun hz => by
    rw [← hP, ap_yes HOK.out (inR_true.2 (by omega))]
    exact id_loc (HZ.out.trans hz)
  clear hP hzz hze
  cases z
  · skip
    go_wp2
    go_ret
    exact ⟨rfl, B4⟩
  obtain ⟨hIL, hor⟩ := HFA.out rfl
  have HIL := Lib.hid hIL; clear hIL HFA
  go_wp2_with fail
  refine (i_IsLocating hm (by omega) hs (by omega) HSG.out (by omega) (by omega) (by omega) (by omega)).mono ?_
  rintro e w5 ⟨rfl, b5⟩
  have z5 := b5.size
  have hm := hm.below b5 (by omega)
  have hs := hs.below b5 (by omega)
  have B5 := B4.trans (b5.mono (by omega))
  clear b5 B4
  rw [HIL.out]
  go_wp2_with fail
  refine (i_AllPatterns hm (by omega) (by omega) (by omega) (by omega)).mono ?_
  rintro e w6 ⟨Aa, Ac, rfl, A, b6⟩
  have z6 := b6.size
  have hm := hm.below b6 (by omega)
  have hs := hs.below b6 (by omega)
  have B6 := B5.trans (b6.mono (by omega))
  clear b6 B5
  rw [HP.out] at A
  rw [HP.out]
  clear A
  by_cases h2 : P.length < 2
  · skip
    have hd2 : decide ((P.length : Int) < 2) = true := decide_eq_true (by omega)
    go_wp2
    go_ret
    exact ⟨rfl, B6⟩
  have hd2 : decide ((P.length : Int) < 2) = false := decide_eq_false (by omega)
  have HIC := Lib.hid (hor.resolve_left h2)
  clear hor
  go_wp2_with fail
  refine (i_IsCovering hm (by omega) hs (by omega) HSG.out (by omega) (by omega) (by omega) (by omega)).mono ?_
  rintro e w7 ⟨rfl, b7⟩
  have z7 := b7.size
  have hm := hm.below b7 (by omega)
  have hs := hs.below b7 (by omega)
  have B7 := B6.trans (b7.mono (by omega))
  clear b7 B6
  rw [HIC.out]
  go_wp2
  go_ret
  exact ⟨rfl, B7⟩

end Go.Proofs.Ytehoagbpgahopaa
