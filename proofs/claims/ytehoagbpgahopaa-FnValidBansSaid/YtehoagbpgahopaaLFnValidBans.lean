/- The walk of FnValidBans: it returns true and writes nothing that was there. -/
import Derived.Test.YtehoagbpgahopaaRo
import Derived.Test.YtehoagbpgahopaaZp
import Derived.Test.YtehoagbpgahopaaZa
import Derived.Test.YtehoagbpgahopaaYi
namespace Go.Proofs.Ytehoagbpgahopaa
open Go.RowKit

theorem okBn_take {m : List Int} {s : List (List Int)} (h : okBn m s = true) (k : Nat) : okBn m (s.take k) = true := by
  have h1 := okBn_len h
  unfold okBn
  rw [Bool.and_eq_true, List.all_eq_true, decide_eq_true_eq]
  exact ⟨fun r hr => okBn_all h (List.mem_of_mem_take hr), by simp; omega⟩

set_option maxRecDepth 100000 in
set_option maxHeartbeats 2000000 in
theorem law_FnValidBans {m0 : Nat} {a0 : Option Addr} {c0 : Nat} {w : World} (f0 : RB w w.heap.size a0 m0) (l0 : m0 ≤ c0) :
    Calls Try.prog 3 #[.slice a0 m0 c0] w (Tru w) := by
  by_cases hb : m0 ≤ 1048576
  case neg =>
    go_enter Try.func3, Try.ntmps3
    go_wp2
    go_ret
    exact ⟨rfl, Below.refl _ _⟩
  go_enter Try.func3, Try.ntmps3
  go_wp2_with fail
  refine (s_DrawValidBans f0 l0 hb).mono ?_
  rintro e w1 ⟨a1, c1, m, a2, c2, s, rfl, ⟨hG, hS⟩, B1⟩
  have z1 := B1.size
  have hm := hG.ri
  have hs := hS.ric
  have hl10 := hG.lp.1
  have hsl := hS.sq.1
  have scap := hS.ric.cap
  have HSR : Hid (∀ r ∈ s, r.length ≤ 12) := fun r h => (hS.sq.2 r h).1
  have HSG : Hid (∀ r ∈ s, r.length ≤ 9223372036854775807) := fun r h => by have := (hS.sq.2 r h).1; omega
  clear hG hS
  clear f0
  cases hok : (okM m && okBn m s)
  · skip
    have HV := Lib.hid hok; clear hok
    go_wp2_with fail
    refine (i_ValidBans hm (by omega) hs.rii (by omega) HSG.out).mono ?_
    rintro e w2 ⟨rfl, d2⟩
    have b2 := Dr.below d2 w1.heap.size
    have z2 := Dr.le d2
    clear d2
    have hm := hm.below b2 (by omega)
    have hs := hs.below b2 (by omega)
    have B2 := B1.trans (b2.mono (by omega))
    clear b2 B1
    rw [HV.out]
    go_wp2_with fail
    refine (s_ValidBans hm (by omega) hs.rii (by omega) HSG.out).mono ?_
    rintro e w3 ⟨rfl, d3⟩
    have b3 := Dr.below d3 w2.heap.size
    have z3 := Dr.le d3
    clear d3
    have hm := hm.below b3 (by omega)
    have hs := hs.below b3 (by omega)
    have B3 := B2.trans (b3.mono (by omega))
    clear b3 B2
    rw [HV.out]
    go_wp2_with fail
    refine (s_ValidBans hm (by omega) hs.rii (by omega) HSG.out).mono ?_
    rintro e w4 ⟨rfl, d4⟩
    have b4 := Dr.below d4 w3.heap.size
    have z4 := Dr.le d4
    clear d4
    have hm := hm.below b4 (by omega)
    have hs := hs.below b4 (by omega)
    have B4 := B3.trans (b4.mono (by omega))
    clear b4 B3
    rw [HV.out]
    go_wp2
    go_ret
    exact ⟨rfl, B4⟩
  have HOK : Hid (okM m = true) := by show _ = _; rw [Bool.and_eq_true] at hok; exact hok.1
  have HOS : Hid (okBn m s = true) := by show _ = _; rw [Bool.and_eq_true] at hok; exact hok.2
  have HV := Lib.hid hok; clear hok
  go_wp2_with fail
  refine (i_ValidBans hm (by omega) hs.rii (by omega) HSG.out).mono ?_
  rintro e w2 ⟨rfl, d2⟩
  have b2 := Dr.below d2 w1.heap.size
  have z2 := Dr.le d2
  clear d2
  have hm := hm.below b2 (by omega)
  have hs := hs.below b2 (by omega)
  have B2 := B1.trans (b2.mono (by omega))
  clear b2 B1
  rw [HV.out]
  go_wp2_with fail
  refine (s_ValidBans hm (by omega) hs.rii (by omega) HSG.out).mono ?_
  rintro e w3 ⟨rfl, d3⟩
  have b3 := Dr.below d3 w2.heap.size
  have z3 := Dr.le d3
  clear d3
  have hm := hm.below b3 (by omega)
  have hs := hs.below b3 (by omega)
  have B3 := B2.trans (b3.mono (by omega))
  clear b3 B2
  rw [HV.out]
  by_cases hn0 : 0 < s.length
  case neg =>
    have hz0 : ((s.length : Int) == 0) = true := by rw [beq_iff_eq]; omega
    go_wp2
    go_ret
    exact ⟨rfl, B3⟩
  have hz0 : ((s.length : Int) == 0) = false := by rw [beq_eq_false_iff_ne]; omega
  obtain ⟨b, o, ha⟩ := hs.some hn0
  subst ha
  have hst := hs.rii.takeR (s.length - 1)
  have HVT : Hid ((okM m && okBn m (s.take (s.length - 1))) = true) := by show _ = _; rw [HOK.out, okBn_take HOS.out]; rfl
  have hlt2 : (s.take (s.length - 1)).length = s.length - 1 := by simp
  have HSG2 : Hid (∀ r ∈ s.take (s.length - 1), r.length ≤ 9223372036854775807) := fun r hr => HSG.out r (List.mem_of_mem_take hr)
  obtain ⟨q, hq⟩ : ∃ x, s.take (s.length - 1) = x := ⟨_, rfl⟩
  rw [hq] at hst hlt2 HSG2 HVT
  have hsl2 := fun wx => sliceToII (b := b) (o := o) (n := s.length) (c := c2) (k := q.length) (z := (s.length : Int) - 1) (by omega) (by omega) wx
  have hlt3 : q.length ≤ 24 := by omega
  clear hlt2 hq
  go_wp2_with fail
  refine (i_ValidBans hm (by omega) hst (by omega) HSG2.out).mono ?_
  rintro e v2 ⟨rfl, d2⟩
  rw [HVT.out]
  have hz2 := Dr.le d2
  have hm := hm.dr d2
  have hs := hs.rii.dr d2
  have BB := B3.trans (Dr.below d2 _)
  obtain ⟨b5, o5, a5, c5, r, ha5, _, _, hcell, hr, hx⟩ := hs.at (show s.length - 1 < s.length by omega)
  have hidx := idxII ha5 (show s.length - 1 < s.length by omega) c2
  have e1 : ((s.length - 1 : Nat) : Int) = (s.length : Int) - 1 := by omega
  rw [e1] at hidx
  have hrl := HSR.out r (List.mem_of_getElem? hx.out)
  have HVR : Hid ((okM m && okP m r) = true) := by show _ = _; rw [HOK.out, okBn_all HOS.out (List.mem_of_getElem? hx.out)]; rfl
  clear ha5 e1 hst
  go_wp2_with fail
  refine (i_ValidPattern hm (by omega) hr (by omega)).mono ?_
  rintro e v3 ⟨rfl, d3⟩
  rw [HVR.out]
  go_wp2
  go_ret
  exact ⟨rfl, BB.trans (Dr.below d3 _)⟩

end Go.Proofs.Ytehoagbpgahopaa
