/- The walk of FnSpareTests: it returns true and writes nothing that was there. -/
import Derived.Test.YtcdhahdobegagaaRs
import Derived.Test.YtcdhahdobegagaaYk
namespace Go.Proofs.Ytcdhahdobegagaa
open Go.RowKit

theorem in_twice {m : List Int} {s : List (List Int)} {t : Int} {i k : Nat} {r u : List Int} (h : okC m s t = true) (hi : s[i]? = some r) (hk : s[k]? = some u) (hne : i < k) (he : eqI r u = true) : inL (spL m s t) (i : Int) = true ∧ inL (spL m s t) (k : Int) = true := by
  rw [eqI_true] at he
  subst he
  exact ⟨inL_iff.2 (sp_mem h (lt_of_at hi) (spF_twice hk hi (by omega))), inL_iff.2 (sp_mem h (lt_of_at hk) (spF_twice hi hk (by omega)))⟩

set_option maxRecDepth 100000 in
set_option maxHeartbeats 2000000 in
theorem law_FnSpareTests {m0 : Nat} {a0 : Option Addr} {c0 : Nat} {w : World} (f0 : RB w w.heap.size a0 m0) (l0 : m0 ≤ c0) :
    Calls Try.prog 5 #[.slice a0 m0 c0] w (Tru w) := by
  by_cases hb : m0 ≤ 1048576
  case neg =>
    go_enter Try.func5, Try.ntmps5
    go_wp2
    go_ret
    exact ⟨rfl, Below.refl _ _⟩
  go_enter Try.func5, Try.ntmps5
  go_wp2_with fail
  refine (s_DrawSpareTests f0 l0 hb).mono ?_
  rintro e w1 ⟨a1, c1, m, a2, c2, s, t, rfl, ⟨hG, hS, ht0, ht1⟩, B1⟩
  have z1 := B1.size
  have hm := hG.ri
  have hs := hS.ric
  have hl10 := hG.lp.1
  have hsl := hS.sq.1
  have scap := hS.ric.cap
  have HSR : Hid (∀ r ∈ s, r.length ≤ 12) := fun r h => (hS.sq.2 r h).1
  have HSG : Hid (∀ r ∈ s, r.length ≤ 9223372036854775807) := fun r h => by have := (hS.sq.2 r h).1; omega
  clear hG hS
  clear f0
  obtain ⟨L, hL⟩ : ∃ L, spL m s t = L := ⟨_, rfl⟩
  have HL := Lib.hid hL
  have HLN := @spL_len m s t
  have heqL : eqI L L = true := eqI_true.2 rfl
  rw [hL] at HLN
  clear hL
  cases hok : (okM m && okS m s)
  · skip
    have HC : Hid (okC m s t = false) := okC_no (.inl hok)
    have HV := Lib.hid hok; clear hok
    go_wp2_with fail
    refine (i_SpareTests hm (by omega) hs.rii (by omega) HSG.out (by omega) (by omega) (by omega) (by omega) (by omega)).mono ?_
    rintro e w2 ⟨Aa, Ac, rfl, A, b2⟩
    have z2 := b2.size
    have hm := hm.below b2 (by omega)
    have hs := hs.below b2 (by omega)
    have B2 := B1.trans (b2.mono (by omega))
    clear b2 B1
    rw [HL.out] at A
    rw [HL.out]
    go_wp2_with fail
    refine (s_SpareTests hm (by omega) hs.rii (by omega) HSG.out (by omega) (by omega) (by omega) (by omega) (by omega)).mono ?_
    rintro e w3 ⟨Sa, Sc, rfl, S, b3⟩
    have z3 := b3.size
    have hm := hm.below b3 (by omega)
    have hs := hs.below b3 (by omega)
    have A := A.below b3 (by omega)
    have B3 := B2.trans (b3.mono (by omega))
    clear b3 B2
    rw [HL.out] at S
    rw [HL.out]
    go_wp2_with fail
    refine (l_equalInts A.ri S.ri (by omega) (by omega)).mono ?_
    rintro e w4 ⟨rfl, d4⟩
    have b4 := Dr.below d4 w3.heap.size
    have z4 := Dr.le d4
    clear d4
    have hm := hm.below b4 (by omega)
    have hs := hs.below b4 (by omega)
    have A := A.below b4 (by omega)
    have S := S.below b4 (by omega)
    have B4 := B3.trans (b4.mono (by omega))
    clear b4 B3
    rw [heqL]
    go_wp2_with fail
    refine (i_ValidSuite hm (by omega) hs.rii (by omega) HSG.out).mono ?_
    rintro e w5 ⟨rfl, d5⟩
    have b5 := Dr.below d5 w4.heap.size
    have z5 := Dr.le d5
    clear d5
    have hm := hm.below b5 (by omega)
    have hs := hs.below b5 (by omega)
    have A := A.below b5 (by omega)
    have B5 := B4.trans (b5.mono (by omega))
    clear b5 B4
    rw [HV.out]
    go_wp2_with fail
    refine (s_SpareTests hm (by omega) hs.rii (by omega) HSG.out (by omega) (by omega) (by omega) (by omega) (by omega)).mono ?_
    rintro e w6 ⟨Ta, Tc, rfl, T, b6⟩
    have z6 := b6.size
    have hm := hm.below b6 (by omega)
    have hs := hs.below b6 (by omega)
    have A := A.below b6 (by omega)
    have B6 := B5.trans (b6.mono (by omega))
    clear b6 B5
    rw [HL.out] at T
    rw [HL.out]
    go_wp2_with fail
    refine (l_equalInts A.ri T.ri (by omega) (by omega)).mono ?_
    rintro e w7 ⟨rfl, d7⟩
    have b7 := Dr.below d7 w6.heap.size
    have z7 := Dr.le d7
    clear d7
    have hm := hm.below b7 (by omega)
    have hs := hs.below b7 (by omega)
    have A := A.below b7 (by omega)
    have T := T.below b7 (by omega)
    have B7 := B6.trans (b7.mono (by omega))
    clear b7 B6
    rw [heqL]
    go_wp2
    go_ret
    exact ⟨rfl, B7⟩
  have HV := Lib.hid hok
  by_cases hlo : t < 0
  · skip
    have HC : Hid (okC m s t = false) := okC_no (.inr (.inl hlo))
    clear hok
    go_wp2_with fail
    refine (i_SpareTests hm (by omega) hs.rii (by omega) HSG.out (by omega) (by omega) (by omega) (by omega) (by omega)).mono ?_
    rintro e w2 ⟨Aa, Ac, rfl, A, b2⟩
    have z2 := b2.size
    have hm := hm.below b2 (by omega)
    have hs := hs.below b2 (by omega)
    have B2 := B1.trans (b2.mono (by omega))
    clear b2 B1
    rw [HL.out] at A
    rw [HL.out]
    go_wp2_with fail
    refine (s_SpareTests hm (by omega) hs.rii (by omega) HSG.out (by omega) (by omega) (by omega) (by omega) (by omega)).mono ?_
    rintro e w3 ⟨Sa, Sc, rfl, S, b3⟩
    have z3 := b3.size
    have hm := hm.below b3 (by omega)
    have hs := hs.below b3 (by omega)
    have A := A.below b3 (by omega)
    have B3 := B2.trans (b3.mono (by omega))
    clear b3 B2
    rw [HL.out] at S
    rw [HL.out]
    go_wp2_with fail
    refine (l_equalInts A.ri S.ri (by omega) (by omega)).mono ?_
    rintro e w4 ⟨rfl, d4⟩
    have b4 := Dr.below d4 w3.heap.size
    have z4 := Dr.le d4
    clear d4
    have hm := hm.below b4 (by omega)
    have hs := hs.below b4 (by omega)
    have A := A.below b4 (by omega)
    have S := S.below b4 (by omega)
    have B4 := B3.trans (b4.mono (by omega))
    clear b4 B3
    rw [heqL]
    go_wp2_with fail
    refine (i_ValidSuite hm (by omega) hs.rii (by omega) HSG.out).mono ?_
    rintro e w5 ⟨rfl, d5⟩
    have b5 := Dr.below d5 w4.heap.size
    have z5 := Dr.le d5
    clear d5
    have hm := hm.below b5 (by omega)
    have hs := hs.below b5 (by omega)
    have A := A.below b5 (by omega)
    have B5 := B4.trans (b5.mono (by omega))
    clear b5 B4
    rw [HV.out]
    go_wp2_with fail
    refine (s_SpareTests hm (by omega) hs.rii (by omega) HSG.out (by omega) (by omega) (by omega) (by omega) (by omega)).mono ?_
    rintro e w6 ⟨Ta, Tc, rfl, T, b6⟩
    have z6 := b6.size
    have hm := hm.below b6 (by omega)
    have hs := hs.below b6 (by omega)
    have A := A.below b6 (by omega)
    have B6 := B5.trans (b6.mono (by omega))
    clear b6 B5
    rw [HL.out] at T
    rw [HL.out]
    go_wp2_with fail
    refine (l_equalInts A.ri T.ri (by omega) (by omega)).mono ?_
    rintro e w7 ⟨rfl, d7⟩
    have b7 := Dr.below d7 w6.heap.size
    have z7 := Dr.le d7
    clear d7
    have hm := hm.below b7 (by omega)
    have hs := hs.below b7 (by omega)
    have A := A.below b7 (by omega)
    have T := T.below b7 (by omega)
    have B7 := B6.trans (b7.mono (by omega))
    clear b7 B6
    rw [heqL]
    go_wp2
    go_ret
    exact ⟨rfl, B7⟩
  by_cases hhi : (m.length : Int) < t
  · skip
    have HC : Hid (okC m s t = false) := okC_no (.inr (.inr hhi))
    clear hok
    go_wp2_with fail
    refine (i_SpareTests hm (by omega) hs.rii (by omega) HSG.out (by omega) (by omega) (by omega) (by omega) (by omega)).mono ?_
    rintro e w2 ⟨Aa, Ac, rfl, A, b2⟩
    have z2 := b2.size
    have hm := hm.below b2 (by omega)
    have hs := hs.below b2 (by omega)
    have B2 := B1.trans (b2.mono (by omega))
    clear b2 B1
    rw [HL.out] at A
    rw [HL.out]
    go_wp2_with fail
    refine (s_SpareTests hm (by omega) hs.rii (by omega) HSG.out (by omega) (by omega) (by omega) (by omega) (by omega)).mono ?_
    rintro e w3 ⟨Sa, Sc, rfl, S, b3⟩
    have z3 := b3.size
    have hm := hm.below b3 (by omega)
    have hs := hs.below b3 (by omega)
    have A := A.below b3 (by omega)
    have B3 := B2.trans (b3.mono (by omega))
    clear b3 B2
    rw [HL.out] at S
    rw [HL.out]
    go_wp2_with fail
    refine (l_equalInts A.ri S.ri (by omega) (by omega)).mono ?_
    rintro e w4 ⟨rfl, d4⟩
    have b4 := Dr.below d4 w3.heap.size
    have z4 := Dr.le d4
    clear d4
    have hm := hm.below b4 (by omega)
    have hs := hs.below b4 (by omega)
    have A := A.below b4 (by omega)
    have S := S.below b4 (by omega)
    have B4 := B3.trans (b4.mono (by omega))
    clear b4 B3
    rw [heqL]
    go_wp2_with fail
    refine (i_ValidSuite hm (by omega) hs.rii (by omega) HSG.out).mono ?_
    rintro e w5 ⟨rfl, d5⟩
    have b5 := Dr.below d5 w4.heap.size
    have z5 := Dr.le d5
    clear d5
    have hm := hm.below b5 (by omega)
    have hs := hs.below b5 (by omega)
    have A := A.below b5 (by omega)
    have B5 := B4.trans (b5.mono (by omega))
    clear b5 B4
    rw [HV.out]
    go_wp2_with fail
    refine (s_SpareTests hm (by omega) hs.rii (by omega) HSG.out (by omega) (by omega) (by omega) (by omega) (by omega)).mono ?_
    rintro e w6 ⟨Ta, Tc, rfl, T, b6⟩
    have z6 := b6.size
    have hm := hm.below b6 (by omega)
    have hs := hs.below b6 (by omega)
    have A := A.below b6 (by omega)
    have B6 := B5.trans (b6.mono (by omega))
    clear b6 B5
    rw [HL.out] at T
    rw [HL.out]
    go_wp2_with fail
    refine (l_equalInts A.ri T.ri (by omega) (by omega)).mono ?_
    rintro e w7 ⟨rfl, d7⟩
    have b7 := Dr.below d7 w6.heap.size
    have z7 := Dr.le d7
    clear d7
    have hm := hm.below b7 (by omega)
    have hs := hs.below b7 (by omega)
    have A := A.below b7 (by omega)
    have T := T.below b7 (by omega)
    have B7 := B6.trans (b7.mono (by omega))
    clear b7 B6
    rw [heqL]
    go_wp2
    go_ret
    exact ⟨rfl, B7⟩
  have HC := Lib.hid (okC_mk hok hlo hhi)
  have HOK : Hid (okM m = true) := by show _ = _; rw [Bool.and_eq_true] at hok; exact hok.1
  have HOS : Hid (okS m s = true) := by show _ = _; rw [Bool.and_eq_true] at hok; exact hok.2
  have hm5 := okM_len HOK.out
  clear hok
  go_wp2_with fail
  refine (i_SpareTests hm (by omega) hs.rii (by omega) HSG.out (by omega) (by omega) (by omega) (by omega) (by omega)).mono ?_
  rintro e w2 ⟨Aa, Ac, rfl, A, b2⟩
  have z2 := b2.size
  have hm := hm.below b2 (by omega)
  have hs := hs.below b2 (by omega)
  have B2 := B1.trans (b2.mono (by omega))
  clear b2 B1
  rw [HL.out] at A
  rw [HL.out]
  go_wp2_with fail
  refine (s_SpareTests hm (by omega) hs.rii (by omega) HSG.out (by omega) (by omega) (by omega) (by omega) (by omega)).mono ?_
  rintro e w3 ⟨Sa, Sc, rfl, S, b3⟩
  have z3 := b3.size
  have hm := hm.below b3 (by omega)
  have hs := hs.below b3 (by omega)
  have A := A.below b3 (by omega)
  have B3 := B2.trans (b3.mono (by omega))
  clear b3 B2
  rw [HL.out] at S
  rw [HL.out]
  go_wp2_with fail
  refine (l_equalInts A.ri S.ri (by omega) (by omega)).mono ?_
  rintro e w4 ⟨rfl, d4⟩
  have b4 := Dr.below d4 w3.heap.size
  have z4 := Dr.le d4
  clear d4
  have hm := hm.below b4 (by omega)
  have hs := hs.below b4 (by omega)
  have A := A.below b4 (by omega)
  have S := S.below b4 (by omega)
  have B4 := B3.trans (b4.mono (by omega))
  clear b4 B3
  rw [heqL]
  go_wp2_with fail
  refine (i_ValidSuite hm (by omega) hs.rii (by omega) HSG.out).mono ?_
  rintro e w5 ⟨rfl, d5⟩
  have b5 := Dr.below d5 w4.heap.size
  have z5 := Dr.le d5
  clear d5
  have hm := hm.below b5 (by omega)
  have hs := hs.below b5 (by omega)
  have A := A.below b5 (by omega)
  have B5 := B4.trans (b5.mono (by omega))
  clear b5 B4
  rw [HV.out]
  have HTW := Lib.hid (fun (i k : Nat) (r u : List Int) => in_twice (i := i) (k := k) (r := r) (u := u) HC.out)
  rw [HL.out] at HTW
  have HLT : Hid (L.Pairwise (· < ·)) := by have := spL_lt m s t; rw [HL.out] at this; exact this
  have HSG4 : Hid (∀ r ∈ s, r.length ≤ 4611686018427387904) := fun r h => by have := HSR.out r h; omega
  go_wp2
  go_loopw [7, 8] (fun i _ wr => ∃ k : Nat, k ≤ s.length ∧ i = .int .i64 k ∧ Dr w5 wr) (fun i _ _ => s.length - (intOf i).toNat)
  case atStart => exact ⟨0, Nat.zero_le _, rfl, Dr.refl _⟩
  case round =>
    obtain ⟨k, hk, rfl, hd⟩ := hrel
    by_cases hlt : k < s.length
    · skip
      obtain ⟨b, o, a4, c4, u, ha, _, _, hcell, hu, hux⟩ := hs.rii.at hlt
      have hidx := idxII ha hlt c2
      have hul := HSG4.out u (List.mem_of_getElem? hux.out)
      clear ha
      go_wp2
      go_loopw [8] (fun i wr => ∃ j : Nat, j ≤ k ∧ i = .int .i64 j ∧ Dr w5 wr) (fun i _ => k - (intOf i).toNat)
      case atStart => exact ⟨0, Nat.zero_le _, rfl, hd⟩
      case round =>
        obtain ⟨j, hj, rfl, hd2⟩ := hrel
        by_cases hlt2 : j < k
        · skip
          obtain ⟨b1, o1, a5, c5, r, ha1, _, _, hcell1, hr, hrx⟩ := (hs.rii.dr hd2).at (show j < s.length by omega)
          have hidx1 := idxII ha1 (show j < s.length by omega) c2
          have hrl := HSG4.out r (List.mem_of_getElem? hrx.out)
          have hcell2 := (Dr.cell hd2 _).trans hcell
          have hu2 := hu.dr hd2
          have hA2 := A.ri.dr hd2
          clear ha1
          cases heq : eqI r u
          · skip
            have HE := Lib.hid heq; clear heq
            clear hd hcell hu
            go_wp2_with fail
            go_quiet ((go_at_call 28; exact RO.quiet (l_equalIntsB (hr.drewN _) (hu2.drewN _) hrl hul HE.out)))
            go_wp2
            go_roundw
            case rel => exact ⟨j + 1, by omega, by go_num, hd2.drewN _⟩
            case measure => simp [intOf]; omega
          · skip
            have HE := Lib.hid heq
            have HI := HTW.out j k r u hrx.out hux.out hlt2 heq
            have HI1 := Lib.hid HI.1
            have HI2 := Lib.hid HI.2
            clear heq HI
            clear hd hcell hu
            go_wp2_with fail
            go_quiet ((first | (go_at_call 28; exact RO.quiet (l_equalIntsB (hr.drewN _) (hu2.drewN _) hrl hul HE.out)) | (go_at_call 30; exact RO.quiet (l_isInB (hA2.drewN _) (by omega) HI1.out)) | (go_at_call 30; exact RO.quiet (l_isInB (hA2.drewN _) (by omega) HI2.out))))
            go_wp2
            go_roundw
            case rel => exact ⟨j + 1, by omega, by go_num, hd2.drewN _⟩
            case measure => simp [intOf]; omega
        · skip
          go_wp2
          go_roundw
          case rel => exact ⟨k + 1, by omega, by go_num, hd2⟩
          case measure => simp [intOf]; omega
    · skip
      have hA2 := A.ri.dr hd
      go_wp2_with fail
      refine (l_ascends hA2 (by omega) HLT.out).mono ?_
      rintro e v1 ⟨rfl, d1⟩
      go_wp2
      go_ret
      exact ⟨rfl, (B5.trans (Dr.below hd _)).trans (Dr.below d1 _)⟩

end Go.Proofs.Ytcdhahdobegagaa
