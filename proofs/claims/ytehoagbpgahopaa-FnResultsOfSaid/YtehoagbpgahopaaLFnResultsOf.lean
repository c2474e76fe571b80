/- The walk of FnResultsOf: it returns true and writes nothing that was there. -/
import Derived.Test.YtehoagbpgahopaaRo
import Derived.Test.YtehoagbpgahopaaRi
import Derived.Test.YtehoagbpgahopaaZt
import Derived.Test.YtehoagbpgahopaaVr
import Derived.Test.YtehoagbpgahopaaVe
import Derived.Test.YtehoagbpgahopaaZj
namespace Go.Proofs.Ytehoagbpgahopaa
open Go.RowKit

set_option maxRecDepth 100000 in
set_option maxHeartbeats 2000000 in
theorem law_FnResultsOf {m0 : Nat} {a0 : Option Addr} {c0 : Nat} {w : World} (f0 : RB w w.heap.size a0 m0) (l0 : m0 ≤ c0) :
    Calls Try.prog 18 #[.slice a0 m0 c0] w (Tru w) := by
  by_cases hb : m0 ≤ 1048576
  case neg =>
    go_enter Try.func18, Try.ntmps18
    go_wp2
    go_ret
    exact ⟨rfl, Below.refl _ _⟩
  go_enter Try.func18, Try.ntmps18
  go_wp2_with fail
  refine (s_DrawResultsOf f0 l0 hb).mono ?_
  rintro e w1 ⟨a1, c1, m, a2, c2, s, a3, c3, u, rfl, ⟨hG, hS, hU⟩, B1⟩
  have z1 := B1.size
  have hm := hG.ri
  have hs := hS.ric
  have hu := hU.ric
  have hl10 := hG.lp.1
  have hsl := hS.sq.1
  have hul := hU.sq.1
  have HSR : Hid (∀ r ∈ s, r.length ≤ 12) := fun r h => (hS.sq.2 r h).1
  have HSG : Hid (∀ r ∈ s, r.length ≤ 9223372036854775807) := fun r h => by have := (hS.sq.2 r h).1; omega
  have HUG : Hid (∀ r ∈ u, r.length ≤ 9223372036854775807) := fun r h => by have := (hU.sq.2 r h).1; omega
  clear hG hS hU
  clear f0
  obtain ⟨L, hL⟩ : ∃ L, roL m s u = L := ⟨_, rfl⟩
  have HL := Lib.hid hL
  have HLN := @roL_len m s u
  have heqL : eqBo L L = true := eqBo_true.2 rfl
  rw [hL] at HLN
  clear hL
  cases hos : (okM m && okS m s)
  · skip
    have HV := Lib.hid hos; clear hos
    go_wp2_with fail
    refine (i_ResultsOf hm (by omega) hs.rii (by omega) HSG.out hu.rii (by omega) HUG.out (by omega) (by omega)).mono ?_
    rintro e w2 ⟨Aa, Ac, rfl, A, b2⟩
    have z2 := b2.size
    have hm := hm.below b2 (by omega)
    have hs := hs.below b2 (by omega)
    have hu := hu.below b2 (by omega)
    have B2 := B1.trans (b2.mono (by omega))
    clear b2 B1
    rw [HL.out] at A ⊢
    go_wp2_with fail
    refine (s_ResultsOf hm (by omega) hs.rii (by omega) HSG.out hu.rii (by omega) HUG.out (by omega) (by omega)).mono ?_
    rintro e w3 ⟨Sa, Sc, rfl, S, b3⟩
    have z3 := b3.size
    have hm := hm.below b3 (by omega)
    have hs := hs.below b3 (by omega)
    have hu := hu.below b3 (by omega)
    have A := A.below b3 (by omega)
    have B3 := B2.trans (b3.mono (by omega))
    clear b3 B2
    rw [HL.out] at S ⊢
    go_wp2_with fail
    refine (l_equalBools A.ri S.ri (by omega) (by omega)).mono ?_
    rintro e w4 ⟨rfl, d4⟩
    have b4 := Dr.below d4 w3.heap.size
    have z4 := Dr.le d4
    clear d4
    have hm := hm.below b4 (by omega)
    have hs := hs.below b4 (by omega)
    have hu := hu.below b4 (by omega)
    have A := A.below b4 (by omega)
    have S := S.below b4 (by omega)
    have B4 := B3.trans (b4.mono (by omega))
    clear b4 B3
    rw [heqL]
    go_wp2_with fail
    refine (i_ValidSuite hm (by omega) hs.rii (by omega) HSG.out).mono ?_
    rintro e w5 ⟨rfl, d5⟩
    have b5 := Dr.below d5 w4.heap.size
    have z5 := Dr.le d5
    clear d5
    have hm := hm.below b5 (by omega)
    have hs := hs.below b5 (by omega)
    have hu := hu.below b5 (by omega)
    have A := A.below b5 (by omega)
    have B5 := B4.trans (b5.mono (by omega))
    clear b5 B4
    rw [HV.out]
    go_wp2_with fail
    refine (s_ResultsOf hm (by omega) hs.rii (by omega) HSG.out hu.rii (by omega) HUG.out (by omega) (by omega)).mono ?_
    rintro e w6 ⟨S2a, S2c, rfl, S2, b6⟩
    have z6 := b6.size
    have hm := hm.below b6 (by omega)
    have hs := hs.below b6 (by omega)
    have hu := hu.below b6 (by omega)
    have A := A.below b6 (by omega)
    have B6 := B5.trans (b6.mono (by omega))
    clear b6 B5
    rw [HL.out] at S2 ⊢
    go_wp2_with fail
    refine (l_equalBools A.ri S2.ri (by omega) (by omega)).mono ?_
    rintro e w7 ⟨rfl, d7⟩
    have b7 := Dr.below d7 w6.heap.size
    have z7 := Dr.le d7
    clear d7
    have hm := hm.below b7 (by omega)
    have hs := hs.below b7 (by omega)
    have hu := hu.below b7 (by omega)
    have A := A.below b7 (by omega)
    have S2 := S2.below b7 (by omega)
    have B7 := B6.trans (b7.mono (by omega))
    clear b7 B6
    rw [heqL]
    go_wp2
    go_ret
    exact ⟨rfl, B7⟩
  have HV := Lib.hid hos
  have hos2 := hos
  rw [Bool.and_eq_true] at hos2
  have HOK := Lib.hid hos2.1
  have HOS := Lib.hid hos2.2
  clear hos hos2
  cases hob : (okM m && okBn m u)
  · skip
    have HW := Lib.hid hob; clear hob
    go_wp2_with fail
    refine (i_ResultsOf hm (by omega) hs.rii (by omega) HSG.out hu.rii (by omega) HUG.out (by omega) (by omega)).mono ?_
    rintro e w2 ⟨Aa, Ac, rfl, A, b2⟩
    have z2 := b2.size
    have hm := hm.below b2 (by omega)
    have hs := hs.below b2 (by omega)
    have hu := hu.below b2 (by omega)
    have B2 := B1.trans (b2.mono (by omega))
    clear b2 B1
    rw [HL.out] at A ⊢
    go_wp2_with fail
    refine (s_ResultsOf hm (by omega) hs.rii (by omega) HSG.out hu.rii (by omega) HUG.out (by omega) (by omega)).mono ?_
    rintro e w3 ⟨Sa, Sc, rfl, S, b3⟩
    have z3 := b3.size
    have hm := hm.below b3 (by omega)
    have hs := hs.below b3 (by omega)
    have hu := hu.below b3 (by omega)
    have A := A.below b3 (by omega)
    have B3 := B2.trans (b3.mono (by omega))
    clear b3 B2
    rw [HL.out] at S ⊢
    go_wp2_with fail
    refine (l_equalBools A.ri S.ri (by omega) (by omega)).mono ?_
    rintro e w4 ⟨rfl, d4⟩
    have b4 := Dr.below d4 w3.heap.size
    have z4 := Dr.le d4
    clear d4
    have hm := hm.below b4 (by omega)
    have hs := hs.below b4 (by omega)
    have hu := hu.below b4 (by omega)
    have A := A.below b4 (by omega)
    have S := S.below b4 (by omega)
    have B4 := B3.trans (b4.mono (by omega))
    clear b4 B3
    rw [heqL]
    go_wp2_with fail
    refine (i_ValidSuite hm (by omega) hs.rii (by omega) HSG.out).mono ?_
    rintro e w5 ⟨rfl, d5⟩
    have b5 := Dr.below d5 w4.heap.size
    have z5 := Dr.le d5
    clear d5
    have hm := hm.below b5 (by omega)
    have hs := hs.below b5 (by omega)
    have hu := hu.below b5 (by omega)
    have A := A.below b5 (by omega)
    have B5 := B4.trans (b5.mono (by omega))
    clear b5 B4
    rw [HV.out]
    go_wp2_with fail
    refine (i_ValidBans hm (by omega) hu.rii (by omega) HUG.out).mono ?_
    rintro e w6 ⟨rfl, d6⟩
    have b6 := Dr.below d6 w5.heap.size
    have z6 := Dr.le d6
    clear d6
    have hm := hm.below b6 (by omega)
    have hs := hs.below b6 (by omega)
    have hu := hu.below b6 (by omega)
    have A := A.below b6 (by omega)
    have B6 := B5.trans (b6.mono (by omega))
    clear b6 B5
    rw [HW.out]
    go_wp2_with fail
    refine (s_ResultsOf hm (by omega) hs.rii (by omega) HSG.out hu.rii (by omega) HUG.out (by omega) (by omega)).mono ?_
    rintro e w7 ⟨S2a, S2c, rfl, S2, b7⟩
    have z7 := b7.size
    have hm := hm.below b7 (by omega)
    have hs := hs.below b7 (by omega)
    have hu := hu.below b7 (by omega)
    have A := A.below b7 (by omega)
    have B7 := B6.trans (b7.mono (by omega))
    clear b7 B6
    rw [HL.out] at S2 ⊢
    go_wp2_with fail
    refine (l_equalBools A.ri S2.ri (by omega) (by omega)).mono ?_
    rintro e w8 ⟨rfl, d8⟩
    have b8 := Dr.below d8 w7.heap.size
    have z8 := Dr.le d8
    clear d8
    have hm := hm.below b8 (by omega)
    have hs := hs.below b8 (by omega)
    have hu := hu.below b8 (by omega)
    have A := A.below b8 (by omega)
    have S2 := S2.below b8 (by omega)
    have B8 := B7.trans (b8.mono (by omega))
    clear b8 B7
    rw [heqL]
    go_wp2
    go_ret
    exact ⟨rfl, B8⟩
  have HW := Lib.hid hob
  have HOB : Hid (okBn m u = true) := by show _ = _; rw [Bool.and_eq_true] at hob; exact hob.2
  clear hob
  have hF := ro_at HOK.out HOS.out HOB.out
  rw [HL.out] at hF
  have HLL := Lib.hid hF.1; have HAT := Lib.hid hF.2.1
  have HHS : Hid (∀ x ∈ s, hasL (atL m u) x = !bnB u x) := fun x hx => by
    rw [← hF.2.2 x hx, Bool.eq_iff_iff, hasL_iff]; unfold hasP'; rw [decide_eq_true_eq]
  clear hF
  have hcmp : ((L.length : Int) == (s.length : Int)) = true := by rw [HLL.out]; simp
  obtain ⟨G, hG⟩ : ∃ G, atL m u = G := ⟨_, rfl⟩
  have HGL := Lib.hid hG
  have HGN := @atL_len m u
  have HGG := Lib.hid (@atL_gr m u).2
  rw [hG] at HGN HGG HHS
  clear hG
  go_wp2_with fail
  refine (i_ResultsOf hm (by omega) hs.rii (by omega) HSG.out hu.rii (by omega) HUG.out (by omega) (by omega)).mono ?_
  rintro e w2 ⟨Aa, Ac, rfl, A, b2⟩
  have z2 := b2.size
  have hm := hm.below b2 (by omega)
  have hs := hs.below b2 (by omega)
  have hu := hu.below b2 (by omega)
  have B2 := B1.trans (b2.mono (by omega))
  clear b2 B1
  rw [HL.out] at A ⊢
  go_wp2_with fail
  refine (s_ResultsOf hm (by omega) hs.rii (by omega) HSG.out hu.rii (by omega) HUG.out (by omega) (by omega)).mono ?_
  rintro e w3 ⟨Sa, Sc, rfl, S, b3⟩
  have z3 := b3.size
  have hm := hm.below b3 (by omega)
  have hs := hs.below b3 (by omega)
  have hu := hu.below b3 (by omega)
  have A := A.below b3 (by omega)
  have B3 := B2.trans (b3.mono (by omega))
  clear b3 B2
  rw [HL.out] at S ⊢
  go_wp2_with fail
  refine (l_equalBools A.ri S.ri (by omega) (by omega)).mono ?_
  rintro e w4 ⟨rfl, d4⟩
  have b4 := Dr.below d4 w3.heap.size
  have z4 := Dr.le d4
  clear d4
  have hm := hm.below b4 (by omega)
  have hs := hs.below b4 (by omega)
  have hu := hu.below b4 (by omega)
  have A := A.below b4 (by omega)
  have S := S.below b4 (by omega)
  have B4 := B3.trans (b4.mono (by omega))
  clear b4 B3
  rw [heqL]
  go_wp2_with fail
  refine (i_ValidSuite hm (by omega) hs.rii (by omega) HSG.out).mono ?_
  rintro e w5 ⟨rfl, d5⟩
  have b5 := Dr.below d5 w4.heap.size
  have z5 := Dr.le d5
  clear d5
  have hm := hm.below b5 (by omega)
  have hs := hs.below b5 (by omega)
  have hu := hu.below b5 (by omega)
  have A := A.below b5 (by omega)
  have B5 := B4.trans (b5.mono (by omega))
  clear b5 B4
  rw [HV.out]
  go_wp2_with fail
  refine (i_ValidBans hm (by omega) hu.rii (by omega) HUG.out).mono ?_
  rintro e w6 ⟨rfl, d6⟩
  have b6 := Dr.below d6 w5.heap.size
  have z6 := Dr.le d6
  clear d6
  have hm := hm.below b6 (by omega)
  have hs := hs.below b6 (by omega)
  have hu := hu.below b6 (by omega)
  have A := A.below b6 (by omega)
  have B6 := B5.trans (b6.mono (by omega))
  clear b6 B5
  rw [HW.out]
  go_wp2_with fail
  refine (i_AllowedTests hm (by omega) hu.rii (by omega) HUG.out (by omega) (by omega)).mono ?_
  rintro e w7 ⟨Ea, Ec, rfl, E, b7⟩
  have z7 := b7.size
  have hm := hm.below b7 (by omega)
  have hs := hs.below b7 (by omega)
  have hu := hu.below b7 (by omega)
  have A := A.below b7 (by omega)
  have B7 := B6.trans (b7.mono (by omega))
  clear b7 B6
  rw [HGL.out] at E ⊢
  clear S
  go_wp2
  go_loopw [8] (fun i wr => ∃ k : Nat, k ≤ s.length ∧ i = .int .i64 k ∧ Dr w7 wr) (fun i _ => s.length - (intOf i).toNat)
  case atStart => exact ⟨0, Nat.zero_le _, rfl, Dr.refl _⟩
  case round =>
    obtain ⟨k, hk, rfl, hd⟩ := hrel
    have hz := Dr.le hd
    have hbd := Dr.below hd w7.heap.size
    have A := A.below hbd (by omega)
    have E := E.below hbd (by omega)
    have hs := hs.below hbd (by omega)
    have BB := B7.trans (hbd.mono (by omega))
    by_cases hlt : k < s.length
    · skip
      obtain ⟨b, o, a5, c5, r, ha, _, hbh, hcell, hr, hx⟩ := hs.rii.at hlt
      have hidx := idxII ha hlt c2
      have HLK : Hid (k < L.length) := by show _ < _; rw [HLL.out]; exact hlt
      obtain ⟨b6, o6, v, ha6, _, _, hcell6, hv⟩ := A.ri.at HLK.out
      have hidx6 := idxBo ha6 HLK.out Ac
      have hve : v = bnB u r := by have h9 := HAT.out k r hx.out; rw [hv.out] at h9; exact Option.some.inj h9
      have hhr := HHS.out r (List.mem_of_getElem? hx.out)
      rw [← hve] at hhr
      have hrl : r.length ≤ 12 := HSR.out r (List.mem_of_getElem? hx.out)
      have HC := Lib.hid (fun nn => l_holdsList (c := Ec) (d := c5) (E.rii.dr (w' := wr.drewN nn) ⟨nn, rfl⟩) (hr.dr (w' := wr.drewN nn) ⟨nn, rfl⟩) (by omega) (by omega) HGG.out)
      rw [hhr] at HC
      clear ha ha6 hv hve hhr hx A E BB
      cases v
      all_goals
        go_wp2_with fail
        go_quiet (exact Calls.quiet_of (HC.out _))
        go_wp2
        go_roundw
        case rel => exact ⟨k + 1, by omega, by go_num, hd.drewN _⟩
        case measure => simp [intOf]; omega
    · skip
      go_wp2
      go_ret
      exact ⟨rfl, BB⟩

end Go.Proofs.Ytehoagbpgahopaa
