/- The walk of FnAllLists: it returns true and writes nothing that was there. -/
import Derived.Test.YtkboggohkhjciaaRc
import Derived.Test.YtkboggohkhjciaaUq
import Derived.Test.YtkboggohkhjciaaUg
import Derived.Test.YtkboggohkhjciaaTg
namespace Go.Proofs.Ytkboggohkhjciaa
open Go.RowKit

set_option maxRecDepth 100000 in
set_option maxHeartbeats 2000000 in
theorem law_FnAllLists {m0 : Nat} {a0 : Option Addr} {c0 : Nat} {w : World} (f0 : RB w w.heap.size a0 m0) (l0 : m0 ≤ c0) :
    Calls Try.prog 4 #[.slice a0 m0 c0] w (Tru w) := by
  by_cases hb : m0 ≤ 1048576
  case neg =>
    go_enter Try.func4, Try.ntmps4
    go_wp2
    go_ret
    exact ⟨rfl, Below.refl _ _⟩
  go_enter Try.func4, Try.ntmps4
  go_wp2_with fail
  refine (s_DrawAllLists f0 l0 hb).mono ?_
  rintro e w1 ⟨n, t, rfl, ⟨hn0, hn1, ht0, ht1⟩, B1⟩
  have z1 := B1.size
  clear f0
  have HLN := @uoL_len n [] t
  have HGR := Lib.hid (@uoL_gr n [] t).2
  obtain ⟨L, hL⟩ : ∃ L, uoL n [] t = L := ⟨_, rfl⟩
  have HL := Lib.hid hL
  rw [hL] at HLN HGR
  have heqL : eqII L L = true := eqII_true.2 rfl
  clear hL
  by_cases hg : 1 ≤ n ∧ n ≤ 5 ∧ 0 ≤ t ∧ t ≤ n
  case neg =>
    by_cases k1 : n < 1
    case pos =>
      go_wp2_with fail
      refine (i_AllLists (by omega) (by omega) (by omega) (by omega)).mono ?_
      rintro e w2 ⟨Aa, Ac, rfl, A, b2⟩
      have z2 := b2.size
      have B2 := B1.trans (b2.mono (by omega))
      clear b2 B1
      rw [HL.out] at A ⊢
      go_wp2_with fail
      refine (s_AllLists (by omega) (by omega) (by omega) (by omega)).mono ?_
      rintro e w3 ⟨Sa, Sc, rfl, S, b3⟩
      have z3 := b3.size
      have A := A.below b3 (by omega)
      have B3 := B2.trans (b3.mono (by omega))
      clear b3 B2
      rw [HL.out] at S ⊢
      go_wp2_with fail
      refine (l_equalLists A.rii S.rii (by omega) (by omega) HGR.out HGR.out).mono ?_
      rintro e w4 ⟨rfl, d4⟩
      have b4 := Dr.below d4 w3.heap.size
      have z4 := Dr.le d4
      clear d4
      have A := A.below b4 (by omega)
      have S := S.below b4 (by omega)
      have B4 := B3.trans (b4.mono (by omega))
      clear b4 B3
      rw [heqL]
      go_wp2_with fail
      refine (s_AllLists (by omega) (by omega) (by omega) (by omega)).mono ?_
      rintro e w5 ⟨S2a, S2c, rfl, S2, b5⟩
      have z5 := b5.size
      have A := A.below b5 (by omega)
      have B5 := B4.trans (b5.mono (by omega))
      clear b5 B4
      rw [HL.out] at S2 ⊢
      go_wp2_with fail
      refine (l_equalLists A.rii S2.rii (by omega) (by omega) HGR.out HGR.out).mono ?_
      rintro e w6 ⟨rfl, d6⟩
      have b6 := Dr.below d6 w5.heap.size
      have z6 := Dr.le d6
      clear d6
      have A := A.below b6 (by omega)
      have S2 := S2.below b6 (by omega)
      have B6 := B5.trans (b6.mono (by omega))
      clear b6 B5
      rw [heqL]
      go_wp2
      go_ret
      exact ⟨rfl, B6⟩
    by_cases k2 : 5 < n
    case pos =>
      go_wp2_with fail
      refine (i_AllLists (by omega) (by omega) (by omega) (by omega)).mono ?_
      rintro e w2 ⟨Aa, Ac, rfl, A, b2⟩
      have z2 := b2.size
      have B2 := B1.trans (b2.mono (by omega))
      clear b2 B1
      rw [HL.out] at A ⊢
      go_wp2_with fail
      refine (s_AllLists (by omega) (by omega) (by omega) (by omega)).mono ?_
      rintro e w3 ⟨Sa, Sc, rfl, S, b3⟩
      have z3 := b3.size
      have A := A.below b3 (by omega)
      have B3 := B2.trans (b3.mono (by omega))
      clear b3 B2
      rw [HL.out] at S ⊢
      go_wp2_with fail
      refine (l_equalLists A.rii S.rii (by omega) (by omega) HGR.out HGR.out).mono ?_
      rintro e w4 ⟨rfl, d4⟩
      have b4 := Dr.below d4 w3.heap.size
      have z4 := Dr.le d4
      clear d4
      have A := A.below b4 (by omega)
      have S := S.below b4 (by omega)
      have B4 := B3.trans (b4.mono (by omega))
      clear b4 B3
      rw [heqL]
      go_wp2_with fail
      refine (s_AllLists (by omega) (by omega) (by omega) (by omega)).mono ?_
      rintro e w5 ⟨S2a, S2c, rfl, S2, b5⟩
      have z5 := b5.size
      have A := A.below b5 (by omega)
      have B5 := B4.trans (b5.mono (by omega))
      clear b5 B4
      rw [HL.out] at S2 ⊢
      go_wp2_with fail
      refine (l_equalLists A.rii S2.rii (by omega) (by omega) HGR.out HGR.out).mono ?_
      rintro e w6 ⟨rfl, d6⟩
      have b6 := Dr.below d6 w5.heap.size
      have z6 := Dr.le d6
      clear d6
      have A := A.below b6 (by omega)
      have S2 := S2.below b6 (by omega)
      have B6 := B5.trans (b6.mono (by omega))
      clear b6 B5
      rw [heqL]
      go_wp2
      go_ret
      exact ⟨rfl, B6⟩
    by_cases k3 : t < 0
    case pos =>
      go_wp2_with fail
      refine (i_AllLists (by omega) (by omega) (by omega) (by omega)).mono ?_
      rintro e w2 ⟨Aa, Ac, rfl, A, b2⟩
      have z2 := b2.size
      have B2 := B1.trans (b2.mono (by omega))
      clear b2 B1
      rw [HL.out] at A ⊢
      go_wp2_with fail
      refine (s_AllLists (by omega) (by omega) (by omega) (by omega)).mono ?_
      rintro e w3 ⟨Sa, Sc, rfl, S, b3⟩
      have z3 := b3.size
      have A := A.below b3 (by omega)
      have B3 := B2.trans (b3.mono (by omega))
      clear b3 B2
      rw [HL.out] at S ⊢
      go_wp2_with fail
      refine (l_equalLists A.rii S.rii (by omega) (by omega) HGR.out HGR.out).mono ?_
      rintro e w4 ⟨rfl, d4⟩
      have b4 := Dr.below d4 w3.heap.size
      have z4 := Dr.le d4
      clear d4
      have A := A.below b4 (by omega)
      have S := S.below b4 (by omega)
      have B4 := B3.trans (b4.mono (by omega))
      clear b4 B3
      rw [heqL]
      go_wp2_with fail
      refine (s_AllLists (by omega) (by omega) (by omega) (by omega)).mono ?_
      rintro e w5 ⟨S2a, S2c, rfl, S2, b5⟩
      have z5 := b5.size
      have A := A.below b5 (by omega)
      have B5 := B4.trans (b5.mono (by omega))
      clear b5 B4
      rw [HL.out] at S2 ⊢
      go_wp2_with fail
      refine (l_equalLists A.rii S2.rii (by omega) (by omega) HGR.out HGR.out).mono ?_
      rintro e w6 ⟨rfl, d6⟩
      have b6 := Dr.below d6 w5.heap.size
      have z6 := Dr.le d6
      clear d6
      have A := A.below b6 (by omega)
      have S2 := S2.below b6 (by omega)
      have B6 := B5.trans (b6.mono (by omega))
      clear b6 B5
      rw [heqL]
      go_wp2
      go_ret
      exact ⟨rfl, B6⟩
    by_cases k4 : n < t
    case pos =>
      go_wp2_with fail
      refine (i_AllLists (by omega) (by omega) (by omega) (by omega)).mono ?_
      rintro e w2 ⟨Aa, Ac, rfl, A, b2⟩
      have z2 := b2.size
      have B2 := B1.trans (b2.mono (by omega))
      clear b2 B1
      rw [HL.out] at A ⊢
      go_wp2_with fail
      refine (s_AllLists (by omega) (by omega) (by omega) (by omega)).mono ?_
      rintro e w3 ⟨Sa, Sc, rfl, S, b3⟩
      have z3 := b3.size
      have A := A.below b3 (by omega)
      have B3 := B2.trans (b3.mono (by omega))
      clear b3 B2
      rw [HL.out] at S ⊢
      go_wp2_with fail
      refine (l_equalLists A.rii S.rii (by omega) (by omega) HGR.out HGR.out).mono ?_
      rintro e w4 ⟨rfl, d4⟩
      have b4 := Dr.below d4 w3.heap.size
      have z4 := Dr.le d4
      clear d4
      have A := A.below b4 (by omega)
      have S := S.below b4 (by omega)
      have B4 := B3.trans (b4.mono (by omega))
      clear b4 B3
      rw [heqL]
      go_wp2_with fail
      refine (s_AllLists (by omega) (by omega) (by omega) (by omega)).mono ?_
      rintro e w5 ⟨S2a, S2c, rfl, S2, b5⟩
      have z5 := b5.size
      have A := A.below b5 (by omega)
      have B5 := B4.trans (b5.mono (by omega))
      clear b5 B4
      rw [HL.out] at S2 ⊢
      go_wp2_with fail
      refine (l_equalLists A.rii S2.rii (by omega) (by omega) HGR.out HGR.out).mono ?_
      rintro e w6 ⟨rfl, d6⟩
      have b6 := Dr.below d6 w5.heap.size
      have z6 := Dr.le d6
      clear d6
      have A := A.below b6 (by omega)
      have S2 := S2.below b6 (by omega)
      have B6 := B5.trans (b6.mono (by omega))
      clear b6 B5
      rw [heqL]
      go_wp2
      go_ret
      exact ⟨rfl, B6⟩
    omega
  obtain ⟨N, rfl⟩ := Int.eq_ofNat_of_zero_le hn0
  obtain ⟨T, rfl⟩ := Int.eq_ofNat_of_zero_le hg.2.2.1
  have hNT : 1 ≤ N ∧ N ≤ 5 ∧ T ≤ N := by omega
  have hU : uoG (N : Int) [] (T : Int) = true := by unfold uoG okRs; rw [inR_true.2 ⟨hg.1, hg.2.1⟩, inR_true.2 ⟨hg.2.2.1, hg.2.2.2⟩]; rfl
  have HYE : Hid (L = alE N T) := by show _ = _; rw [← HL.out, uo_yes hU, unA_nil]; rfl
  have HCT : Hid ((L.length : Int) = (fall N T : Nat)) := by show _ = _; rw [HYE.out]; exact_mod_cast al_count ⟨N, by omega⟩ ⟨T, by omega⟩ (by show T ≤ N; omega)
  have HAD : Hid (∀ (k : Nat) (r q : List Int), L[k]? = some r → L[k + 1]? = some q → eqI r q = false) := fun k r q h1 h2 => by rw [HYE.out] at h1 h2; exact al_adj (by omega) (by omega) h1 h2
  have HRL : Hid (∀ r ∈ L, r.length = T) := fun r hr => by rw [HYE.out] at hr; exact (alE_row hr).1
  clear hU hg hn0 hn1 ht0 ht1
  go_wp2_with fail
  refine (i_AllLists (by omega) (by omega) (by omega) (by omega)).mono ?_
  rintro e w2 ⟨Aa, Ac, rfl, A, b2⟩
  have z2 := b2.size
  have B2 := B1.trans (b2.mono (by omega))
  clear b2 B1
  rw [HL.out] at A ⊢
  go_wp2_with fail
  refine (s_AllLists (by omega) (by omega) (by omega) (by omega)).mono ?_
  rintro e w3 ⟨Sa, Sc, rfl, S, b3⟩
  have z3 := b3.size
  have A := A.below b3 (by omega)
  have B3 := B2.trans (b3.mono (by omega))
  clear b3 B2
  rw [HL.out] at S ⊢
  go_wp2_with fail
  refine (l_equalLists A.rii S.rii (by omega) (by omega) HGR.out HGR.out).mono ?_
  rintro e w4 ⟨rfl, d4⟩
  have b4 := Dr.below d4 w3.heap.size
  have z4 := Dr.le d4
  clear d4
  have A := A.below b4 (by omega)
  have S := S.below b4 (by omega)
  have B4 := B3.trans (b4.mono (by omega))
  clear b4 B3
  rw [heqL]
  clear S
  go_wp2
  go_loopw [6] (fun i wr => ∃ k : Nat, k ≤ L.length ∧ i = .int .i64 k ∧ Dr w4 wr) (fun i _ => L.length - (intOf i).toNat)
  case atStart => exact ⟨0, Nat.zero_le _, rfl, Dr.refl _⟩
  case round =>
    obtain ⟨k, hk, rfl, hd⟩ := hrel
    have hz := Dr.le hd
    have A := A.rii.dr hd
    have BB := B4.trans (Dr.below hd _)
    by_cases hlt : k < L.length
    · skip
      obtain ⟨b, o, a3, c3, r, ha, _, hbh, hcell, hr, hx⟩ := A.at hlt
      have hidx := idxII ha hlt Ac
      have HRT := Lib.hid (HRL.out r (List.mem_of_getElem? hx.out))
      have hne : ((r.length : Int) != (T : Int)) = false := by rw [HRT.out]; simp
      have hr5 : r.length ≤ 5 := by have := HRT.out; omega
      have HX := Lib.hid hx.out
      clear hx
      by_cases hk0 : k = 0
      case pos =>
        have hg0 : decide (0 < (k : Int)) = false := decide_eq_false (by omega)
        have hg1 : decide (0 < k) = false := decide_eq_false (by omega)
        clear ha hk0
        go_wp2_with fail
        go_quiet (fail)
        go_wp2
        go_roundw
        case rel => exact ⟨k + 1, by omega, by go_num, hd.drewN _⟩
        case measure => simp [intOf]; omega
      obtain ⟨j, hj⟩ : ∃ j, k = j + 1 := ⟨k - 1, by omega⟩
      have hjl : j < L.length := by omega
      obtain ⟨b4, o4, a4, c4, q, ha4, _, _, hcell4, hr4, hx4⟩ := A.at hjl
      subst ha
      obtain ⟨rfl, rfl⟩ : b = b4 ∧ o = o4 := by simpa using ha4
      have hidx4 := idxII (a := some ⟨b, o, none⟩) rfl hjl Ac
      have hw : IntKind.i64.wrap ((k : Int) - 1) = (j : Int) := by rw [IntWalk.i64_in _ (by omega)]; omega
      have hg0 : decide (0 < (k : Int)) = true := decide_eq_true (by omega)
      have hg1 : decide (0 < k) = true := decide_eq_true (by omega)
      have hqr : eqI q r = false := HAD.out j q r hx4.out (by rw [← hj]; exact HX.out)
      have hq5 : q.length ≤ 5 := by have := HRL.out q (List.mem_of_getElem? hx4.out); omega
      have HC := Lib.hid (fun nn => l_equalInts (c := c4) (d := c3) (hr4.dr (w' := wr.drewN nn) ⟨nn, rfl⟩) (hr.dr (w' := wr.drewN nn) ⟨nn, rfl⟩) (by omega) (by omega))
      rw [hqr] at HC
      clear ha4 hk0 hj hqr hx4
      go_wp2_with fail
      go_quiet (exact Calls.quiet_of (HC.out _))
      go_wp2
      go_roundw
      case rel => exact ⟨k + 1, by omega, by go_num, hd.drewN _⟩
      case measure => simp [intOf]; omega
    · skip
      go_wp2_with fail
      refine (l_falling (n := N) (t := T) (by omega) (by omega)).mono ?_
      rintro e v2 ⟨rfl, d2⟩
      rw [← HCT.out]
      go_wp2
      go_ret
      exact ⟨rfl, BB.trans (Dr.below d2 _)⟩

end Go.Proofs.Ytkboggohkhjciaa
