/- The walk of FnTurnRuns: it returns true and writes nothing that was there. -/
import Derived.Test.YtkboggohkhjciaaRc
import Derived.Test.YtkboggohkhjciaaNa
import Derived.Test.YtkboggohkhjciaaNd
import Derived.Test.YtkboggohkhjciaaUb
import Derived.Test.YtkboggohkhjciaaUj
import Derived.Test.YtkboggohkhjciaaUg
import Derived.Test.YtkboggohkhjciaaUe
import Derived.Test.YtkboggohkhjciaaOc
import Derived.Test.YtkboggohkhjciaaTg
namespace Go.Proofs.Ytkboggohkhjciaa
open Go.RowKit

theorem minN2 (x : Int) (wx : World) : (Builtin.min_ #[3, 3] 3 #[.int .i64 x, .int .i64 2]).run Try.prog wx = .ok (.int .i64 (min x 2)) wx := by
  rw [run_min_int2]
  congr 2
  split <;> omega

set_option maxRecDepth 100000 in
set_option maxHeartbeats 2000000 in
theorem law_FnTurnRuns {m0 : Nat} {a0 : Option Addr} {c0 : Nat} {w : World} (f0 : RB w w.heap.size a0 m0) (l0 : m0 ≤ c0) :
    Calls Try.prog 8 #[.slice a0 m0 c0] w (Tru w) := by
  by_cases hb : m0 ≤ 1048576
  case neg =>
    go_enter Try.func8, Try.ntmps8
    go_wp2
    go_ret
    exact ⟨rfl, Below.refl _ _⟩
  go_enter Try.func8, Try.ntmps8
  go_wp2_with fail
  refine (s_DrawTurnRuns f0 l0 hb).mono ?_
  rintro e w1 ⟨n, a2, c2, L, rfl, hG, B1⟩
  have z1 := B1.size
  have hs := hG.ric
  have hn0 := hG.n0
  have hn6 := hG.n6
  have hlen := hG.len
  have HR6 := Lib.hid hG.row
  have HRG : Hid (∀ r ∈ L, r.length ≤ 9223372036854775807) := fun r h => by have := HR6.out r h; omega
  have scap := hs.cap
  clear hG
  clear f0
  have HUL := @tuL_len n L
  have HGR := Lib.hid (@tuL_gr n L).2
  obtain ⟨U, hU⟩ : ∃ U, tuL n L = U := ⟨_, rfl⟩
  have HU := Lib.hid hU
  rw [hU] at HUL HGR
  have heqL : eqII U U = true := eqII_true.2 rfl
  clear hU
  by_cases hU0 : U.length = 0
  · skip
    obtain rfl := List.eq_nil_of_length_eq_zero hU0
    go_wp2_with fail
    refine (i_TurnRuns (by omega) (by omega) hs.rii (by omega) HRG.out (by omega)).mono ?_
    rintro e w2 ⟨Aa, Ac, rfl, A, b2⟩
    have z2 := b2.size
    have hs := hs.below b2 (by omega)
    have B2 := B1.trans (b2.mono (by omega))
    clear b2 B1
    rw [HU.out] at A ⊢
    go_wp2_with fail
    refine (s_TurnRuns (by omega) (by omega) hs.rii (by omega) HRG.out (by omega)).mono ?_
    rintro e w3 ⟨Sa, Sc, rfl, S, b3⟩
    have z3 := b3.size
    have hs := hs.below b3 (by omega)
    have A := A.below b3 (by omega)
    have B3 := B2.trans (b3.mono (by omega))
    clear b3 B2
    rw [HU.out] at S ⊢
    go_wp2_with fail
    refine (l_equalLists A.rii S.rii (by omega) (by omega) HGR.out HGR.out).mono ?_
    rintro e w4 ⟨rfl, d4⟩
    have b4 := Dr.below d4 w3.heap.size
    have z4 := Dr.le d4
    clear d4
    have hs := hs.below b4 (by omega)
    have A := A.below b4 (by omega)
    have S := S.below b4 (by omega)
    have B4 := B3.trans (b4.mono (by omega))
    clear b4 B3
    rw [heqL]
    go_wp2_with fail
    refine (s_TurnRuns (by omega) (by omega) hs.rii (by omega) HRG.out (by omega)).mono ?_
    rintro e w5 ⟨S2a, S2c, rfl, S2, b5⟩
    have z5 := b5.size
    have hs := hs.below b5 (by omega)
    have A := A.below b5 (by omega)
    have B5 := B4.trans (b5.mono (by omega))
    clear b5 B4
    rw [HU.out] at S2 ⊢
    go_wp2_with fail
    refine (l_equalLists A.rii S2.rii (by omega) (by omega) HGR.out HGR.out).mono ?_
    rintro e w6 ⟨rfl, d6⟩
    have b6 := Dr.below d6 w5.heap.size
    have z6 := Dr.le d6
    clear d6
    have hs := hs.below b6 (by omega)
    have A := A.below b6 (by omega)
    have S2 := S2.below b6 (by omega)
    have B6 := B5.trans (b6.mono (by omega))
    clear b6 B5
    rw [heqL]
    go_wp2
    go_ret
    exact ⟨rfl, B6⟩
  have hg : tuG n L = true := by
    cases h : tuG n L
    · exfalso; have h2 := tu_no h; rw [HU.out] at h2; rw [h2] at hU0; exact hU0 rfl
    · rfl
  have hlu : U.length = 2 * L.length := by rw [← HU.out, tu_yes hg, tuA_len]
  have hM := okRs_m (tuG_m hg).1
  have hl10 := (tuG_m hg).2
  obtain ⟨N, rfl⟩ := Int.eq_ofNat_of_zero_le hn0
  have hN5 : 1 ≤ N ∧ N ≤ 5 := by omega
  have hd0 : ((U.length : Int) == 0) = false := by rw [beq_eq_false_iff_ne]; omega
  have hw : IntKind.i64.wrap (2 * (L.length : Int)) = 2 * (L.length : Int) := by rw [IntWalk.i64_in _ (by omega)]
  have hLE : ((U.length : Int) == 2 * (L.length : Int)) = true := by rw [beq_iff_eq]; omega
  have HAM : Hid (∀ k : Nat, k ≤ N → amgL (uoL (N : Int) U (k : Int)) (uoL (N : Int) L (k : Int)) = true) := fun k hk => amgL_iff.2 (fun l hl => tu_law hg (by rw [HU.out]; exact hl) hk)
  have hLne : L ≠ [] := by intro h; rw [h] at hlu; exact hU0 hlu
  have hm2a : min N 2 ≤ N := Nat.min_le_left _ _
  have hm2b : min N 2 ≤ 2 := Nat.min_le_right _ _
  have HIO : Hid (ioB (N : Int) U (min (N : Int) 2) = true) := by
    have h := tu_io hg hLne hm2a hm2b
    rw [HU.out] at h
    have e : ((min N 2 : Nat) : Int) = min (N : Int) 2 := by simp only [Nat.min_def, Int.min_def]; split <;> split <;> omega
    rw [e] at h; exact h
  have hmm : -9223372036854775808 ≤ min (N : Int) 2 ∧ min (N : Int) 2 ≤ 9223372036854775807 := by omega
  have HG9 : Hid (∀ r ∈ U, r.length ≤ 9223372036854775807) := fun r h => by have := HGR.out r h; omega
  clear hg hlu hM hLne hm2a hm2b
  go_wp2_with fail
  refine (i_TurnRuns (by omega) (by omega) hs.rii (by omega) HRG.out (by omega)).mono ?_
  rintro e w2 ⟨Aa, Ac, rfl, A, b2⟩
  have z2 := b2.size
  have hs := hs.below b2 (by omega)
  have B2 := B1.trans (b2.mono (by omega))
  clear b2 B1
  rw [HU.out] at A ⊢
  go_wp2_with fail
  refine (s_TurnRuns (by omega) (by omega) hs.rii (by omega) HRG.out (by omega)).mono ?_
  rintro e w3 ⟨Sa, Sc, rfl, S, b3⟩
  have z3 := b3.size
  have hs := hs.below b3 (by omega)
  have A := A.below b3 (by omega)
  have B3 := B2.trans (b3.mono (by omega))
  clear b3 B2
  rw [HU.out] at S ⊢
  go_wp2_with fail
  refine (l_equalLists A.rii S.rii (by omega) (by omega) HGR.out HGR.out).mono ?_
  rintro e w4 ⟨rfl, d4⟩
  have b4 := Dr.below d4 w3.heap.size
  have z4 := Dr.le d4
  clear d4
  have hs := hs.below b4 (by omega)
  have A := A.below b4 (by omega)
  have S := S.below b4 (by omega)
  have B4 := B3.trans (b4.mono (by omega))
  clear b4 B3
  rw [heqL]
  clear S
  go_wp2
  go_loopw [6] (fun i wr => ∃ k : Nat, k ≤ N + 1 ∧ i = .int .i64 k ∧ Below w4.heap.size w4 wr) (fun i _ => N + 1 - (intOf i).toNat)
  case atStart => exact ⟨0, Nat.zero_le _, rfl, Below.refl _ _⟩
  case round =>
    obtain ⟨k, hk, rfl, hd⟩ := hrel
    have hz := hd.size
    have hs := hs.below hd (by omega)
    have A := A.below hd (by omega)
    have BB := B4.trans (hd.mono (by omega))
    by_cases hlt : k ≤ N
    · skip
      have HA2 := Lib.hid (HAM.out k hlt)
      have HQ1 := @uoL_len (N : Int) U (k : Int)
      have HQ2 := @uoL_len (N : Int) L (k : Int)
      have HR1 := Lib.hid (@uoL_gr (N : Int) U (k : Int)).2
      have HR2 := Lib.hid (@uoL_gr (N : Int) L (k : Int)).2
      obtain ⟨V1, hV⟩ : ∃ V, uoL (N : Int) U (k : Int) = V := ⟨_, rfl⟩
      have HV1 := Lib.hid hV
      rw [hV] at HA2 HQ1 HR1
      clear hV
      obtain ⟨V2, hV⟩ : ∃ V, uoL (N : Int) L (k : Int) = V := ⟨_, rfl⟩
      have HV2 := Lib.hid hV
      rw [hV] at HA2 HQ2 HR2
      clear hV
      go_wp2_with fail
      refine (i_UnseenOf (by omega) (by omega) A.rii (by omega) HG9.out (by omega) (by omega) (by omega)).mono ?_
      rintro e v1 ⟨Va, Vc, rfl, W1, b1⟩
      rw [HV1.out] at W1 ⊢
      have hzz := b1.size
      have hs := hs.below b1 (by omega)
      have hd1 := hd.trans (b1.mono (by omega))
      go_wp2_with fail
      refine (i_UnseenOf (by omega) (by omega) hs.rii (by omega) HRG.out (by omega) (by omega) (by omega)).mono ?_
      rintro e v2 ⟨Vb, Vd, rfl, W2, b2⟩
      rw [HV2.out] at W2 ⊢
      have W1 := W1.below b2 (by omega)
      have hd2 := hd1.trans (b2.mono (by omega))
      go_wp2_with fail
      refine (l_among W1.rii W2.rii (by omega) (by omega) HR1.out HR2.out).mono ?_
      rintro e v3 ⟨rfl, d3⟩
      rw [HA2.out]
      have hd3 := hd2.trans (Dr.below d3 _)
      go_wp2
      go_roundw
      case rel => exact ⟨k + 1, by omega, by go_num, hd3⟩
      case measure => simp [intOf]; omega
    · skip
      have hmin := fun wx => minN2 (N : Int) wx
      go_wp2_with fail
      refine (i_IsOrdering (by omega) (by omega) A.rii (by omega) HG9.out hmm.1 hmm.2 (by omega)).mono ?_
      rintro e v1 ⟨rfl, b1⟩
      rw [HIO.out]
      go_wp2
      go_ret
      exact ⟨rfl, BB.trans (b1.mono (by omega))⟩

end Go.Proofs.Ytkboggohkhjciaa
