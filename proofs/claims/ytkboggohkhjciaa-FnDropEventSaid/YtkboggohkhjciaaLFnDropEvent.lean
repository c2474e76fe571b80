/- The walk of FnDropEvent: it returns true and writes nothing that was there. -/
import Derived.Test.YtkboggohkhjciaaRc
import Derived.Test.YtkboggohkhjciaaNa
import Derived.Test.YtkboggohkhjciaaNc
import Derived.Test.YtkboggohkhjciaaUb
import Derived.Test.YtkboggohkhjciaaUk
import Derived.Test.YtkboggohkhjciaaUg
import Derived.Test.YtkboggohkhjciaaUe
import Derived.Test.YtkboggohkhjciaaOc
import Derived.Test.YtkboggohkhjciaaTg
namespace Go.Proofs.Ytkboggohkhjciaa
open Go.RowKit

set_option maxRecDepth 100000 in
set_option maxHeartbeats 2000000 in
theorem law_FnDropEvent {m0 : Nat} {a0 : Option Addr} {c0 : Nat} {w : World} (f0 : RB w w.heap.size a0 m0) (l0 : m0 ≤ c0) :
    Calls Try.prog 10 #[.slice a0 m0 c0] w (Tru w) := by
  by_cases hb : m0 ≤ 1048576
  case neg =>
    go_enter Try.func10, Try.ntmps10
    go_wp2
    go_ret
    exact ⟨rfl, Below.refl _ _⟩
  go_enter Try.func10, Try.ntmps10
  go_wp2_with fail
  refine (s_DrawDropEvent f0 l0 hb).mono ?_
  rintro e w1 ⟨n, a2, c2, R, t, rfl, hG, B1⟩
  have z1 := B1.size
  obtain ⟨hG, ht0, ht1⟩ := hG
  have hs := hG.ric
  have hn0 := hG.n0
  have hn6 := hG.n6
  have hlen := hG.len
  have HR6 := Lib.hid hG.row
  have HRG : Hid (∀ r ∈ R, r.length ≤ 9223372036854775807) := fun r h => by have := HR6.out r h; omega
  have scap := hs.cap
  clear hG
  clear f0
  obtain ⟨L, hL⟩ : ∃ L, dvL n R t = L := ⟨_, rfl⟩
  obtain ⟨b, hB⟩ : ∃ b, dvB n R t = b := ⟨_, rfl⟩
  have HL := Lib.hid hL
  have HB := Lib.hid hB
  have HLN := @dvL_len n R t
  have HGR := Lib.hid (@dvL_gr n R t).2
  rw [hL] at HLN HGR
  have heqL : eqII L L = true := eqII_true.2 rfl
  clear hL hB
  cases b
  · skip
    go_wp2_with fail
    refine (i_DropEvent (by omega) (by omega) hs.rii (by omega) HRG.out (by omega) (by omega) (by omega)).mono ?_
    rintro e w2 ⟨Aa, Ac, rfl, A, b2⟩
    have z2 := b2.size
    have hs := hs.below b2 (by omega)
    have B2 := B1.trans (b2.mono (by omega))
    clear b2 B1
    rw [HL.out] at A
    rw [HL.out, HB.out]
    go_wp2_with fail
    refine (s_DropEvent (by omega) (by omega) hs.rii (by omega) HRG.out (by omega) (by omega) (by omega)).mono ?_
    rintro e w3 ⟨Sa, Sc, rfl, S, b3⟩
    have z3 := b3.size
    have hs := hs.below b3 (by omega)
    have A := A.below b3 (by omega)
    have B3 := B2.trans (b3.mono (by omega))
    clear b3 B2
    rw [HL.out] at S
    rw [HL.out, HB.out]
    go_wp2_with fail
    refine (l_equalLists A.rii S.rii (by omega) (by omega) HGR.out HGR.out).mono ?_
    rintro e w4 ⟨rfl, d4⟩
    have b4 := Dr.below d4 w3.heap.size
    have z4 := Dr.le d4
    clear d4
    have hs := hs.below b4 (by omega)
    have A := A.below b4 (by omega)
    have S := S.below b4 (by omega)
    have B4 := B3.trans (b4.mono (by omega))
    clear b4 B3
    rw [heqL]
    go_wp2_with fail
    refine (l_equalLists A.rii S.rii (by omega) (by omega) HGR.out HGR.out).mono ?_
    rintro e w5 ⟨rfl, d5⟩
    have b5 := Dr.below d5 w4.heap.size
    have z5 := Dr.le d5
    clear d5
    have hs := hs.below b5 (by omega)
    have A := A.below b5 (by omega)
    have S := S.below b5 (by omega)
    have B5 := B4.trans (b5.mono (by omega))
    clear b5 B4
    rw [heqL]
    go_wp2
    go_ret
    exact ⟨rfl, B5⟩
  go_wp2_with fail
  refine (i_DropEvent (by omega) (by omega) hs.rii (by omega) HRG.out (by omega) (by omega) (by omega)).mono ?_
  rintro e w2 ⟨Aa, Ac, rfl, A, b2⟩
  have z2 := b2.size
  have hs := hs.below b2 (by omega)
  have B2 := B1.trans (b2.mono (by omega))
  clear b2 B1
  rw [HL.out] at A
  rw [HL.out, HB.out]
  go_wp2_with fail
  refine (s_DropEvent (by omega) (by omega) hs.rii (by omega) HRG.out (by omega) (by omega) (by omega)).mono ?_
  rintro e w3 ⟨Sa, Sc, rfl, S, b3⟩
  have z3 := b3.size
  have hs := hs.below b3 (by omega)
  have A := A.below b3 (by omega)
  have B3 := B2.trans (b3.mono (by omega))
  clear b3 B2
  rw [HL.out] at S
  rw [HL.out, HB.out]
  go_wp2_with fail
  refine (l_equalLists A.rii S.rii (by omega) (by omega) HGR.out HGR.out).mono ?_
  rintro e w4 ⟨rfl, d4⟩
  have b4 := Dr.below d4 w3.heap.size
  have z4 := Dr.le d4
  clear d4
  have hs := hs.below b4 (by omega)
  have A := A.below b4 (by omega)
  have S := S.below b4 (by omega)
  have B4 := B3.trans (b4.mono (by omega))
  clear b4 B3
  rw [heqL]
  have hM := dvB_m HB.out
  obtain ⟨N, rfl⟩ := Int.eq_ofNat_of_zero_le hn0
  have hN5 : 2 ≤ N ∧ N ≤ 5 := by omega
  have HDL : Hid (∀ T : Nat, T < N → ioB (N : Int) R (T : Int) = true → ioB ((N : Int) - 1) L (T : Int) = true) := fun T hT h => by rw [← HL.out]; exact dv_law HB.out hT h
  have hlen2 : (L.length : Int) = (R.length : Int) := by rw [← HL.out]; exact_mod_cast dv_len HB.out
  have HLE : Hid (((L.length : Int) == (R.length : Int)) = true) := by show _ = _; rw [hlen2]; simp
  have HLE2 : Hid ((L.length == R.length) = true) := by show _ = _; rw [beq_iff_eq]; omega
  have hL21 : L.length ≤ 21 := by omega
  have HOK : Hid (okRs ((N : Int) - 1) L = true) := by show _ = _; rw [← HL.out]; exact dv_ok HB.out
  have hw : IntKind.i64.wrap ((N : Int) - 1) = (N : Int) - 1 := by rw [IntWalk.i64_in _ (by omega)]
  have HG9 : Hid (∀ r ∈ L, r.length ≤ 9223372036854775807) := fun r h => by have := HGR.out r h; omega
  clear hM hlen2 S
  go_wp2
  go_loopw [10] (fun i wr => ∃ k : Nat, k ≤ N ∧ i = .int .i64 k ∧ Below w4.heap.size w4 wr) (fun i _ => N - (intOf i).toNat)
  case atStart => exact ⟨0, Nat.zero_le _, rfl, Below.refl _ _⟩
  case round =>
    obtain ⟨k, hk, rfl, hd⟩ := hrel
    have hz := hd.size
    have hs := hs.below hd (by omega)
    have A := A.below hd (by omega)
    have BB := B4.trans (hd.mono (by omega))
    by_cases hlt : k < N
    · skip
      cases hio : ioB (N : Int) R (k : Int)
      · skip
        have HIO := Lib.hid hio; clear hio
        go_wp2_with fail
        refine (i_IsOrdering (by omega) (by omega) hs.rii (by omega) HRG.out (by omega) (by omega) (by omega)).mono ?_
        rintro e v1 ⟨rfl, b1⟩
        rw [HIO.out]
        have hd1 := hd.trans (b1.mono (by omega))
        go_wp2
        go_roundw
        case rel => exact ⟨k + 1, by omega, by go_num, hd1⟩
        case measure => simp [intOf]; omega
      · skip
        have HIO := Lib.hid hio
        have HI2 := Lib.hid (HDL.out k hlt hio)
        clear hio
        go_wp2_with fail
        refine (i_IsOrdering (by omega) (by omega) hs.rii (by omega) HRG.out (by omega) (by omega) (by omega)).mono ?_
        rintro e v1 ⟨rfl, b1⟩
        rw [HIO.out]
        have hzz := b1.size
        have hd1 := hd.trans (b1.mono (by omega))
        have A := A.below b1 (by omega)
        go_wp2_with fail
        refine (i_IsOrdering (by omega) (by omega) A.rii (by omega) HG9.out (by omega) (by omega) (by omega)).mono ?_
        rintro e v2 ⟨rfl, b2⟩
        rw [HI2.out]
        have hd2 := hd1.trans (b2.mono (by omega))
        go_wp2
        go_roundw
        case rel => exact ⟨k + 1, by omega, by go_num, hd2⟩
        case measure => simp [intOf]; omega
    · skip
      have hle1 := HLE.out; have hle2 := HLE2.out
      go_wp2_with fail
      refine (i_ValidRuns (by omega) (by omega) A.rii (by omega) HG9.out (by omega)).mono ?_
      rintro e v1 ⟨rfl, b1⟩
      rw [HOK.out]
      go_wp2
      go_ret
      exact ⟨rfl, BB.trans (b1.mono (by omega))⟩

end Go.Proofs.Ytkboggohkhjciaa
