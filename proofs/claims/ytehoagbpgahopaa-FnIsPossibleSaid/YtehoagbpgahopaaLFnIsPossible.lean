/- The walk of FnIsPossible: it returns true and writes nothing that was there. -/
import Derived.Test.YtehoagbpgahopaaRo
import Derived.Test.YtehoagbpgahopaaZk
import Derived.Test.YtehoagbpgahopaaZp
namespace Go.Proofs.Ytehoagbpgahopaa
open Go.RowKit

set_option maxRecDepth 100000 in
set_option maxHeartbeats 2000000 in
theorem law_FnIsPossible {m0 : Nat} {a0 : Option Addr} {c0 : Nat} {w : World} (f0 : RB w w.heap.size a0 m0) (l0 : m0 ≤ c0) :
    Calls Try.prog 4 #[.slice a0 m0 c0] w (Tru w) := by
  by_cases hb : m0 ≤ 1048576
  case neg =>
    go_enter Try.func4, Try.ntmps4
    go_wp2
    go_ret
    exact ⟨rfl, Below.refl _ _⟩
  go_enter Try.func4, Try.ntmps4
  go_wp2_with fail
  refine (s_DrawIsPossible f0 l0 hb).mono ?_
  rintro e w1 ⟨a1, c1, m, a2, c2, s, a3, c3, p, rfl, ⟨hG, hS, hP⟩, B1⟩
  have z1 := B1.size
  have hm := hG.ri
  have hs := hS.ric
  have hl10 := hG.lp.1
  have hsl := hS.sq.1
  have scap := hS.ric.cap
  have HSR : Hid (∀ r ∈ s, r.length ≤ 12) := fun r h => (hS.sq.2 r h).1
  have HSG : Hid (∀ r ∈ s, r.length ≤ 9223372036854775807) := fun r h => by have := (hS.sq.2 r h).1; omega
  have hp := hP.ri
  have pl11 := hP.lp.1
  have hcap := hG.cap
  clear hG hS hP
  clear f0
  cases hok : (okM m && okBn m s)
  · skip
    have HIP : Hid (ipB m s p = false) := ip_no (by rw [hok]; rfl)
    have HV := Lib.hid hok; clear hok
    go_wp2_with fail
    refine (i_IsPossible hm (by omega) hs.rii (by omega) HSG.out hp (by omega) (by omega) (by omega) (by omega)).mono ?_
    rintro e w2 ⟨rfl, b2⟩
    have z2 := b2.size
    have hm := hm.below b2 (by omega)
    have hs := hs.below b2 (by omega)
    have hp := hp.below b2 (by omega)
    have B2 := B1.trans (b2.mono (by omega))
    clear b2 B1
    rw [HIP.out]
    go_wp2_with fail
    refine (s_IsPossible hm (by omega) hs.rii (by omega) HSG.out hp (by omega) (by omega) (by omega) (by omega)).mono ?_
    rintro e w3 ⟨rfl, b3⟩
    have z3 := b3.size
    have hm := hm.below b3 (by omega)
    have hs := hs.below b3 (by omega)
    have hp := hp.below b3 (by omega)
    have B3 := B2.trans (b3.mono (by omega))
    clear b3 B2
    rw [HIP.out]
    go_wp2_with fail
    refine (i_ValidBans hm (by omega) hs.rii (by omega) HSG.out).mono ?_
    rintro e w4 ⟨rfl, d4⟩
    have b4 := Dr.below d4 w3.heap.size
    have z4 := Dr.le d4
    clear d4
    have hm := hm.below b4 (by omega)
    have hs := hs.below b4 (by omega)
    have hp := hp.below b4 (by omega)
    have B4 := B3.trans (b4.mono (by omega))
    clear b4 B3
    rw [HV.out]
    go_wp2_with fail
    refine (s_IsPossible hm (by omega) hs.rii (by omega) HSG.out hp (by omega) (by omega) (by omega) (by omega)).mono ?_
    rintro e w5 ⟨rfl, b5⟩
    have z5 := b5.size
    have hm := hm.below b5 (by omega)
    have hs := hs.below b5 (by omega)
    have hp := hp.below b5 (by omega)
    have B5 := B4.trans (b5.mono (by omega))
    clear b5 B4
    rw [HIP.out]
    go_wp2
    go_ret
    exact ⟨rfl, B5⟩
  have HV := Lib.hid hok
  have HOK : Hid (okM m = true) := by show _ = _; rw [Bool.and_eq_true] at hok; exact hok.1
  clear hok
  cases hop : okP m p
  · skip
    have HIP : Hid (ipB m s p = false) := ip_no (by rw [hop]; simp)
    have HOP : Hid ((okM m && okP m p) = false) := by show _ = _; rw [hop]; simp
    clear hop
    go_wp2_with fail
    refine (i_IsPossible hm (by omega) hs.rii (by omega) HSG.out hp (by omega) (by omega) (by omega) (by omega)).mono ?_
    rintro e w2 ⟨rfl, b2⟩
    have z2 := b2.size
    have hm := hm.below b2 (by omega)
    have hs := hs.below b2 (by omega)
    have hp := hp.below b2 (by omega)
    have B2 := B1.trans (b2.mono (by omega))
    clear b2 B1
    rw [HIP.out]
    go_wp2_with fail
    refine (s_IsPossible hm (by omega) hs.rii (by omega) HSG.out hp (by omega) (by omega) (by omega) (by omega)).mono ?_
    rintro e w3 ⟨rfl, b3⟩
    have z3 := b3.size
    have hm := hm.below b3 (by omega)
    have hs := hs.below b3 (by omega)
    have hp := hp.below b3 (by omega)
    have B3 := B2.trans (b3.mono (by omega))
    clear b3 B2
    rw [HIP.out]
    go_wp2_with fail
    refine (i_ValidBans hm (by omega) hs.rii (by omega) HSG.out).mono ?_
    rintro e w4 ⟨rfl, d4⟩
    have b4 := Dr.below d4 w3.heap.size
    have z4 := Dr.le d4
    clear d4
    have hm := hm.below b4 (by omega)
    have hs := hs.below b4 (by omega)
    have hp := hp.below b4 (by omega)
    have B4 := B3.trans (b4.mono (by omega))
    clear b4 B3
    rw [HV.out]
    go_wp2_with fail
    refine (i_ValidPattern hm (by omega) hp (by omega)).mono ?_
    rintro e w5 ⟨rfl, d5⟩
    have b5 := Dr.below d5 w4.heap.size
    have z5 := Dr.le d5
    clear d5
    have hm := hm.below b5 (by omega)
    have hs := hs.below b5 (by omega)
    have hp := hp.below b5 (by omega)
    have B5 := B4.trans (b5.mono (by omega))
    clear b5 B4
    rw [HOP.out]
    go_wp2_with fail
    refine (s_IsPossible hm (by omega) hs.rii (by omega) HSG.out hp (by omega) (by omega) (by omega) (by omega)).mono ?_
    rintro e w6 ⟨rfl, b6⟩
    have z6 := b6.size
    have hm := hm.below b6 (by omega)
    have hs := hs.below b6 (by omega)
    have hp := hp.below b6 (by omega)
    have B6 := B5.trans (b6.mono (by omega))
    clear b6 B5
    rw [HIP.out]
    go_wp2
    go_ret
    exact ⟨rfl, B6⟩
  have HOP : Hid ((okM m && okP m p) = true) := by show _ = _; rw [HOK.out, hop]; rfl
  clear hop
  obtain ⟨q, hq⟩ : ∃ q, ipB m s p = q := ⟨_, rfl⟩
  have HQ := Lib.hid hq
  clear hq
  have hne : (q != q) = false := by cases q <;> rfl
  have hself : (q == q) = true := by cases q <;> rfl
  go_wp2_with fail
  refine (i_IsPossible hm (by omega) hs.rii (by omega) HSG.out hp (by omega) (by omega) (by omega) (by omega)).mono ?_
  rintro e w2 ⟨rfl, b2⟩
  have z2 := b2.size
  have hm := hm.below b2 (by omega)
  have hs := hs.below b2 (by omega)
  have hp := hp.below b2 (by omega)
  have B2 := B1.trans (b2.mono (by omega))
  clear b2 B1
  rw [HQ.out]
  go_wp2_with fail
  refine (s_IsPossible hm (by omega) hs.rii (by omega) HSG.out hp (by omega) (by omega) (by omega) (by omega)).mono ?_
  rintro e w3 ⟨rfl, b3⟩
  have z3 := b3.size
  have hm := hm.below b3 (by omega)
  have hs := hs.below b3 (by omega)
  have hp := hp.below b3 (by omega)
  have B3 := B2.trans (b3.mono (by omega))
  clear b3 B2
  rw [HQ.out]
  go_wp2_with fail
  refine (i_ValidBans hm (by omega) hs.rii (by omega) HSG.out).mono ?_
  rintro e w4 ⟨rfl, d4⟩
  have b4 := Dr.below d4 w3.heap.size
  have z4 := Dr.le d4
  clear d4
  have hm := hm.below b4 (by omega)
  have hs := hs.below b4 (by omega)
  have hp := hp.below b4 (by omega)
  have B4 := B3.trans (b4.mono (by omega))
  clear b4 B3
  rw [HV.out]
  go_wp2_with fail
  refine (i_ValidPattern hm (by omega) hp (by omega)).mono ?_
  rintro e w5 ⟨rfl, d5⟩
  have b5 := Dr.below d5 w4.heap.size
  have z5 := Dr.le d5
  clear d5
  have hm := hm.below b5 (by omega)
  have hs := hs.below b5 (by omega)
  have hp := hp.below b5 (by omega)
  have B5 := B4.trans (b5.mono (by omega))
  clear b5 B4
  rw [HOP.out]
  go_wp2_with fail
  refine (i_CompleteTest hm (by omega) hs.rii (by omega) HSG.out hp (by omega) (by omega) (by omega) (by omega)).mono ?_
  rintro e v9 ⟨ja, jc, rfl, J, bj⟩
  rw [HQ.out]
  go_wp2
  go_ret
  exact ⟨rfl, B5.trans (bj.mono (by omega))⟩

end Go.Proofs.Ytehoagbpgahopaa
