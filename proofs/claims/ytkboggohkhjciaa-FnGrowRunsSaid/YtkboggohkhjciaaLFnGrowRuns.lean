/- The walk of FnGrowRuns: it returns true and writes nothing that was there. -/
import Derived.Test.YtkboggohkhjciaaRc
import Derived.Test.YtkboggohkhjciaaNa
import Derived.Test.YtkboggohkhjciaaUs
import Derived.Test.YtkboggohkhjciaaUo
import Derived.Test.YtkboggohkhjciaaUm
import Derived.Test.YtkboggohkhjciaaUg
import Derived.Test.YtkboggohkhjciaaUe
import Derived.Test.YtkboggohkhjciaaOc
import Derived.Test.YtkboggohkhjciaaTg
namespace Go.Proofs.Ytkboggohkhjciaa
open Go.RowKit

set_option maxRecDepth 100000 in
set_option maxHeartbeats 2000000 in
theorem law_FnGrowRuns {m0 : Nat} {a0 : Option Addr} {c0 : Nat} {w : World} (f0 : RB w w.heap.size a0 m0) (l0 : m0 ≤ c0) :
    Calls Try.prog 9 #[.slice a0 m0 c0] w (Tru w) := by
  by_cases hb : m0 ≤ 1048576
  case neg =>
    go_enter Try.func9, Try.ntmps9
    go_wp2
    go_ret
    exact ⟨rfl, Below.refl _ _⟩
  go_enter Try.func9, Try.ntmps9
  go_wp2_with fail
  refine (s_DrawGrowRuns f0 l0 hb).mono ?_
  rintro e w1 ⟨n, t, rfl, ⟨hn0, hn1, ht0, ht1⟩, B1⟩
  have z1 := B1.size
  clear f0
  obtain ⟨L, hL⟩ : ∃ L, gwL n t = L := ⟨_, rfl⟩
  obtain ⟨b, hB⟩ : ∃ b, gwB n t = b := ⟨_, rfl⟩
  have HL := Lib.hid hL
  have HB := Lib.hid hB
  have HLN := @gwL_len n t
  have HGR := Lib.hid (@gwL_gr n t).2
  rw [hL] at HLN HGR
  have heqL : eqII L L = true := eqII_true.2 rfl
  clear hL hB
  cases b
  · skip
    go_wp2_with fail
    refine (i_GrowRuns (by omega) (by omega) (by omega) (by omega)).mono ?_
    rintro e w2 ⟨Aa, Ac, rfl, A, b2⟩
    have z2 := b2.size
    have B2 := B1.trans (b2.mono (by omega))
    clear b2 B1
    rw [HL.out] at A
    rw [HL.out, HB.out]
    go_wp2_with fail
    refine (s_GrowRuns (by omega) (by omega) (by omega) (by omega)).mono ?_
    rintro e w3 ⟨Sa, Sc, rfl, S, b3⟩
    have z3 := b3.size
    have A := A.below b3 (by omega)
    have B3 := B2.trans (b3.mono (by omega))
    clear b3 B2
    rw [HL.out] at S
    rw [HL.out, HB.out]
    go_wp2_with fail
    refine (l_equalLists A.rii S.rii (by omega) (by omega) HGR.out HGR.out).mono ?_
    rintro e w4 ⟨rfl, d4⟩
    have b4 := Dr.below d4 w3.heap.size
    have z4 := Dr.le d4
    clear d4
    have A := A.below b4 (by omega)
    have S := S.below b4 (by omega)
    have B4 := B3.trans (b4.mono (by omega))
    clear b4 B3
    rw [heqL]
    go_wp2_with fail
    refine (l_equalLists A.rii S.rii (by omega) (by omega) HGR.out HGR.out).mono ?_
    rintro e w5 ⟨rfl, d5⟩
    have b5 := Dr.below d5 w4.heap.size
    have z5 := Dr.le d5
    clear d5
    have A := A.below b5 (by omega)
    have S := S.below b5 (by omega)
    have B5 := B4.trans (b5.mono (by omega))
    clear b5 B4
    rw [heqL]
    go_wp2
    go_ret
    exact ⟨rfl, B5⟩
  go_wp2_with fail
  refine (i_GrowRuns (by omega) (by omega) (by omega) (by omega)).mono ?_
  rintro e w2 ⟨Aa, Ac, rfl, A, b2⟩
  have z2 := b2.size
  have B2 := B1.trans (b2.mono (by omega))
  clear b2 B1
  rw [HL.out] at A
  rw [HL.out, HB.out]
  go_wp2_with fail
  refine (s_GrowRuns (by omega) (by omega) (by omega) (by omega)).mono ?_
  rintro e w3 ⟨Sa, Sc, rfl, S, b3⟩
  have z3 := b3.size
  have A := A.below b3 (by omega)
  have B3 := B2.trans (b3.mono (by omega))
  clear b3 B2
  rw [HL.out] at S
  rw [HL.out, HB.out]
  go_wp2_with fail
  refine (l_equalLists A.rii S.rii (by omega) (by omega) HGR.out HGR.out).mono ?_
  rintro e w4 ⟨rfl, d4⟩
  have b4 := Dr.below d4 w3.heap.size
  have z4 := Dr.le d4
  clear d4
  have A := A.below b4 (by omega)
  have S := S.below b4 (by omega)
  have B4 := B3.trans (b4.mono (by omega))
  clear b4 B3
  rw [heqL]
  have hG : 1 ≤ n ∧ n ≤ 5 ∧ 0 ≤ t ∧ t ≤ n := gwB_m HB.out
  obtain ⟨N, rfl⟩ := Int.eq_ofNat_of_zero_le hn0
  obtain ⟨T, rfl⟩ := Int.eq_ofNat_of_zero_le hG.2.2.1
  have hN : 1 ≤ N ∧ N ≤ 5 ∧ T ≤ N := by omega
  have HF := Lib.hid (gw_law HB.out)
  rw [HL.out] at HF
  have HIO : Hid (ioB (N : Int) L (T : Int) = true) := HF.out.1
  have HFA : Hid (fall T T ≤ L.length) := HF.out.2.1
  have HQ : Hid (∀ k, k < L.length → (uoL (N : Int) (L.take (k + 1)) (T : Int)).length < (uoL (N : Int) (L.take k) (T : Int)).length) := HF.out.2.2
  have HG9 : Hid (∀ r ∈ L, r.length ≤ 9223372036854775807) := fun r h => by have := HGR.out r h; omega
  clear hG hn0 hn1 ht0 ht1 HF S
  have Acap := A.cap
  go_wp2
  go_loopw [9] (fun i wr => ∃ k : Nat, k ≤ L.length ∧ i = .int .i64 k ∧ Below w4.heap.size w4 wr) (fun i _ => L.length - (intOf i).toNat)
  case atStart => exact ⟨0, Nat.zero_le _, rfl, Below.refl _ _⟩
  case round =>
    obtain ⟨k, hk, rfl, hd⟩ := hrel
    have hz := hd.size
    have A := A.below hd (by omega)
    have BB := B4.trans (hd.mono (by omega))
    by_cases hlt : k < L.length
    · skip
      obtain ⟨b, o, a3, c3, r, ha, hb1, hb2, hcell, hr, hx⟩ := A.rii.at hlt
      subst ha
      have hq0 := A.rii.takeR k
      have hq1 := A.rii.takeR (k + 1)
      have HLT := Lib.hid (HQ.out k hlt)
      have HG9a : Hid (∀ r ∈ L.take k, r.length ≤ 9223372036854775807) := fun r hr => HG9.out r (List.mem_of_mem_take hr)
      have HG9b : Hid (∀ r ∈ L.take (k + 1), r.length ≤ 9223372036854775807) := fun r hr => HG9.out r (List.mem_of_mem_take hr)
      obtain ⟨q0, hq⟩ : ∃ x, L.take k = x := ⟨_, rfl⟩
      have hqk : q0.length = k := by rw [← hq]; simp; omega
      rw [hq] at hq0 HLT HG9a
      clear hq
      obtain ⟨q1, hq⟩ : ∃ x, L.take (k + 1) = x := ⟨_, rfl⟩
      have hqk1 : q1.length = k + 1 := by rw [← hq]; simp; omega
      rw [hq] at hq1 HLT HG9b
      clear hq
      have hw : IntKind.i64.wrap ((k : Int) + 1) = (q1.length : Int) := by rw [IntWalk.i64_in _ (by omega)]; omega
      have hsl1 := fun wx => sliceToII (b := b) (o := o) (n := L.length) (c := Ac) (k := q1.length) (z := (q1.length : Int)) rfl (by omega) wx
      have hsl0 := fun wx => sliceToII (b := b) (o := o) (n := L.length) (c := Ac) (k := q0.length) (z := (k : Int)) (by omega) (by omega) wx
      have hge : decide (((uoL (N : Int) q0 (T : Int)).length : Int) ≤ ((uoL (N : Int) q1 (T : Int)).length : Int)) = false := decide_eq_false (by have := HLT.out; omega)
      have hge2 : decide ((uoL (N : Int) q0 (T : Int)).length ≤ (uoL (N : Int) q1 (T : Int)).length) = false := decide_eq_false (by have := HLT.out; omega)
      have HC0 : Hid (∀ w', Below wr.heap.size wr w' → Calls Try.prog 26 #[.int .i64 (N : Int), .slice (some ⟨b, o, none⟩) q0.length Ac, .int .i64 (T : Int)] w' (NewII w' (uoL (N : Int) q0 (T : Int)))) := fun w' hb => i_UnseenOf (by omega) (by omega) (hq0.below hb (by omega)) (by omega) HG9a.out (by omega) (by omega) (by have := hb.size; omega)
      have HC1 : Hid (∀ w', Below wr.heap.size wr w' → Calls Try.prog 26 #[.int .i64 (N : Int), .slice (some ⟨b, o, none⟩) q1.length Ac, .int .i64 (T : Int)] w' (NewII w' (uoL (N : Int) q1 (T : Int)))) := fun w' hb => i_UnseenOf (by omega) (by omega) (hq1.below hb (by omega)) (by omega) HG9b.out (by omega) (by omega) (by have := hb.size; omega)
      have HQK := Lib.hid hqk; have HQK1 := Lib.hid hqk1; clear hqk hqk1 hcell hx hr
      have hqs : Below wr.heap.size wr wr := Below.refl _ _
      go_wp2_with fail
      go_region_held3 (fun _ => True) (trivial) ((first
        | (go_at_call 26; (with_reducible refine Calls.mono (HC0.out _ (by first | exact hqs | exact hqs.drew)) ?_); rintro e w5 ⟨a5, c5, rfl, h5, hb5⟩; have hqs : Below wr.heap.size wr w5 := (by first | exact hqs.trans (hb5.mono hqs.size) | exact hqs.drew.trans (hb5.mono hqs.size)))
        | (go_at_call 26; (with_reducible refine Calls.mono (HC1.out _ (by first | exact hqs | exact hqs.drew)) ?_); rintro e w6 ⟨a6, c6, rfl, h6, hb6⟩; have hqs : Below wr.heap.size wr w6 := (by first | exact hqs.trans (hb6.mono hqs.size) | exact hqs.drew.trans (hb6.mono hqs.size)))))
      all_goals
        have hd1 := hd.trans (hqs.mono (by omega))
        go_wp2
        go_roundw
        case rel => exact ⟨k + 1, by omega, by have := HQK1.out; first | go_num | (congr 1; omega), hd1⟩
        case measure => have := HQK1.out; simp [intOf]; omega
    · skip
      go_wp2_with fail
      refine (i_IsOrdering (by omega) (by omega) A.rii (by omega) HG9.out (by omega) (by omega) (by omega)).mono ?_
      rintro e v2 ⟨rfl, b2⟩
      rw [HIO.out]
      have zz := b2.size
      have BB := BB.trans (b2.mono (by omega))
      go_wp2_with fail
      refine (l_falling (n := T) (t := T) (by omega) (by omega)).mono ?_
      rintro e v3 ⟨rfl, d3⟩
      have hfl : decide (((fall T T : Nat) : Int) ≤ (L.length : Int)) = true := decide_eq_true (by have := HFA.out; omega)
      have hfl2 : decide (fall T T ≤ L.length) = true := decide_eq_true HFA.out
      go_wp2
      go_ret
      exact ⟨rfl, BB.trans (Dr.below d3 _)⟩

end Go.Proofs.Ytkboggohkhjciaa
