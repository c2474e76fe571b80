/- The walk of FnBestTest: it returns true and writes nothing that was there. -/
import Derived.Test.YtekkhadlchfjnaaRo
import Derived.Test.YtekkhadlchfjnaaRi
import Derived.Test.YtekkhadlchfjnaaVs
import Derived.Test.YtekkhadlchfjnaaVb
import Derived.Test.YtekkhadlchfjnaaWx
import Derived.Test.YtekkhadlchfjnaaWc
namespace Go.Proofs.Ytekkhadlchfjnaa
open Go.RowKit

set_option maxRecDepth 100000 in
set_option maxHeartbeats 2000000 in
theorem law_FnBestTest {m0 : Nat} {a0 : Option Addr} {c0 : Nat} {w : World} (f0 : RB w w.heap.size a0 m0) (l0 : m0 ≤ c0) :
    Calls Try.prog 7 #[.slice a0 m0 c0] w (Tru w) := by
  by_cases hb : m0 ≤ 1048576
  case neg =>
    go_enter Try.func7, Try.ntmps7
    go_wp2
    go_ret
    exact ⟨rfl, Below.refl _ _⟩
  go_enter Try.func7, Try.ntmps7
  go_wp2_with fail
  refine (s_DrawBestTest f0 l0 hb).mono ?_
  rintro e w1 ⟨a1, c1, m, a2, c2, s, t, rfl, ⟨hG, hS, ht0, ht1⟩, B1⟩
  have z1 := B1.size
  have hm := hG.ri
  have hs := hS.ric
  have hl10 := hG.lp.1
  have hsl := hS.sq.1
  have scap := hS.ric.cap
  have HSR : Hid (∀ r ∈ s, r.length ≤ 12) := fun r h => (hS.sq.2 r h).1
  have HSG : Hid (∀ r ∈ s, r.length ≤ 9223372036854775807) := fun r h => by have := (hS.sq.2 r h).1; omega
  clear hG hS
  clear f0
  obtain ⟨L, hL⟩ : ∃ L, beL m s t = L := ⟨_, rfl⟩
  have HL := Lib.hid hL
  have HLN := @beL_len m s t
  have heqL : eqI L L = true := eqI_true.2 rfl
  rw [hL] at HLN
  clear hL
  cases hok : (okM m && okS m s)
  · skip
    have HC : Hid (okC m s t = false) := okC_no (.inl hok)
    have HV := Lib.hid hok; clear hok
    go_wp2_with fail
    refine (i_BestTest hm (by omega) hs.rii (by omega) HSG.out (by omega) (by omega) (by omega) (by omega)).mono ?_
    rintro e w2 ⟨Aa, Ac, rfl, A, b2⟩
    have z2 := b2.size
    have hm := hm.below b2 (by omega)
    have hs := hs.below b2 (by omega)
    have B2 := B1.trans (b2.mono (by omega))
    clear b2 B1
    rw [HL.out] at A
    rw [HL.out]
    go_wp2_with fail
    refine (s_BestTest hm (by omega) hs.rii (by omega) HSG.out (by omega) (by omega) (by omega) (by omega)).mono ?_
    rintro e w3 ⟨Sa, Sc, rfl, S, b3⟩
    have z3 := b3.size
    have hm := hm.below b3 (by omega)
    have hs := hs.below b3 (by omega)
    have A := A.below b3 (by omega)
    have B3 := B2.trans (b3.mono (by omega))
    clear b3 B2
    rw [HL.out] at S
    rw [HL.out]
    go_wp2_with fail
    refine (l_equalInts A.ri S.ri (by omega) (by omega)).mono ?_
    rintro e w4 ⟨rfl, d4⟩
    have b4 := Dr.below d4 w3.heap.size
    have z4 := Dr.le d4
    clear d4
    have hm := hm.below b4 (by omega)
    have hs := hs.below b4 (by omega)
    have A := A.below b4 (by omega)
    have S := S.below b4 (by omega)
    have B4 := B3.trans (b4.mono (by omega))
    clear b4 B3
    rw [heqL]
    go_wp2_with fail
    refine (i_ValidSuite hm (by omega) hs.rii (by omega) HSG.out).mono ?_
    rintro e w5 ⟨rfl, d5⟩
    have b5 := Dr.below d5 w4.heap.size
    have z5 := Dr.le d5
    clear d5
    have hm := hm.below b5 (by omega)
    have hs := hs.below b5 (by omega)
    have A := A.below b5 (by omega)
    have B5 := B4.trans (b5.mono (by omega))
    clear b5 B4
    rw [HV.out]
    go_wp2_with fail
    refine (s_BestTest hm (by omega) hs.rii (by omega) HSG.out (by omega) (by omega) (by omega) (by omega)).mono ?_
    rintro e w6 ⟨Ta, Tc, rfl, T, b6⟩
    have z6 := b6.size
    have hm := hm.below b6 (by omega)
    have hs := hs.below b6 (by omega)
    have A := A.below b6 (by omega)
    have B6 := B5.trans (b6.mono (by omega))
    clear b6 B5
    rw [HL.out] at T
    rw [HL.out]
    go_wp2_with fail
    refine (l_equalInts A.ri T.ri (by omega) (by omega)).mono ?_
    rintro e w7 ⟨rfl, d7⟩
    have b7 := Dr.below d7 w6.heap.size
    have z7 := Dr.le d7
    clear d7
    have hm := hm.below b7 (by omega)
    have hs := hs.below b7 (by omega)
    have A := A.below b7 (by omega)
    have T := T.below b7 (by omega)
    have B7 := B6.trans (b7.mono (by omega))
    clear b7 B6
    rw [heqL]
    go_wp2
    go_ret
    exact ⟨rfl, B7⟩
  have HV := Lib.hid hok
  by_cases hlo : t < 0
  · skip
    have HC : Hid (okC m s t = false) := okC_no (.inr (.inl hlo))
    clear hok
    go_wp2_with fail
    refine (i_BestTest hm (by omega) hs.rii (by omega) HSG.out (by omega) (by omega) (by omega) (by omega)).mono ?_
    rintro e w2 ⟨Aa, Ac, rfl, A, b2⟩
    have z2 := b2.size
    have hm := hm.below b2 (by omega)
    have hs := hs.below b2 (by omega)
    have B2 := B1.trans (b2.mono (by omega))
    clear b2 B1
    rw [HL.out] at A
    rw [HL.out]
    go_wp2_with fail
    refine (s_BestTest hm (by omega) hs.rii (by omega) HSG.out (by omega) (by omega) (by omega) (by omega)).mono ?_
    rintro e w3 ⟨Sa, Sc, rfl, S, b3⟩
    have z3 := b3.size
    have hm := hm.below b3 (by omega)
    have hs := hs.below b3 (by omega)
    have A := A.below b3 (by omega)
    have B3 := B2.trans (b3.mono (by omega))
    clear b3 B2
    rw [HL.out] at S
    rw [HL.out]
    go_wp2_with fail
    refine (l_equalInts A.ri S.ri (by omega) (by omega)).mono ?_
    rintro e w4 ⟨rfl, d4⟩
    have b4 := Dr.below d4 w3.heap.size
    have z4 := Dr.le d4
    clear d4
    have hm := hm.below b4 (by omega)
    have hs := hs.below b4 (by omega)
    have A := A.below b4 (by omega)
    have S := S.below b4 (by omega)
    have B4 := B3.trans (b4.mono (by omega))
    clear b4 B3
    rw [heqL]
    go_wp2_with fail
    refine (i_ValidSuite hm (by omega) hs.rii (by omega) HSG.out).mono ?_
    rintro e w5 ⟨rfl, d5⟩
    have b5 := Dr.below d5 w4.heap.size
    have z5 := Dr.le d5
    clear d5
    have hm := hm.below b5 (by omega)
    have hs := hs.below b5 (by omega)
    have A := A.below b5 (by omega)
    have B5 := B4.trans (b5.mono (by omega))
    clear b5 B4
    rw [HV.out]
    go_wp2_with fail
    refine (s_BestTest hm (by omega) hs.rii (by omega) HSG.out (by omega) (by omega) (by omega) (by omega)).mono ?_
    rintro e w6 ⟨Ta, Tc, rfl, T, b6⟩
    have z6 := b6.size
    have hm := hm.below b6 (by omega)
    have hs := hs.below b6 (by omega)
    have A := A.below b6 (by omega)
    have B6 := B5.trans (b6.mono (by omega))
    clear b6 B5
    rw [HL.out] at T
    rw [HL.out]
    go_wp2_with fail
    refine (l_equalInts A.ri T.ri (by omega) (by omega)).mono ?_
    rintro e w7 ⟨rfl, d7⟩
    have b7 := Dr.below d7 w6.heap.size
    have z7 := Dr.le d7
    clear d7
    have hm := hm.below b7 (by omega)
    have hs := hs.below b7 (by omega)
    have A := A.below b7 (by omega)
    have T := T.below b7 (by omega)
    have B7 := B6.trans (b7.mono (by omega))
    clear b7 B6
    rw [heqL]
    go_wp2
    go_ret
    exact ⟨rfl, B7⟩
  by_cases hhi : (m.length : Int) < t
  · skip
    have HC : Hid (okC m s t = false) := okC_no (.inr (.inr hhi))
    clear hok
    go_wp2_with fail
    refine (i_BestTest hm (by omega) hs.rii (by omega) HSG.out (by omega) (by omega) (by omega) (by omega)).mono ?_
    rintro e w2 ⟨Aa, Ac, rfl, A, b2⟩
    have z2 := b2.size
    have hm := hm.below b2 (by omega)
    have hs := hs.below b2 (by omega)
    have B2 := B1.trans (b2.mono (by omega))
    clear b2 B1
    rw [HL.out] at A
    rw [HL.out]
    go_wp2_with fail
    refine (s_BestTest hm (by omega) hs.rii (by omega) HSG.out (by omega) (by omega) (by omega) (by omega)).mono ?_
    rintro e w3 ⟨Sa, Sc, rfl, S, b3⟩
    have z3 := b3.size
    have hm := hm.below b3 (by omega)
    have hs := hs.below b3 (by omega)
    have A := A.below b3 (by omega)
    have B3 := B2.trans (b3.mono (by omega))
    clear b3 B2
    rw [HL.out] at S
    rw [HL.out]
    go_wp2_with fail
    refine (l_equalInts A.ri S.ri (by omega) (by omega)).mono ?_
    rintro e w4 ⟨rfl, d4⟩
    have b4 := Dr.below d4 w3.heap.size
    have z4 := Dr.le d4
    clear d4
    have hm := hm.below b4 (by omega)
    have hs := hs.below b4 (by omega)
    have A := A.below b4 (by omega)
    have S := S.below b4 (by omega)
    have B4 := B3.trans (b4.mono (by omega))
    clear b4 B3
    rw [heqL]
    go_wp2_with fail
    refine (i_ValidSuite hm (by omega) hs.rii (by omega) HSG.out).mono ?_
    rintro e w5 ⟨rfl, d5⟩
    have b5 := Dr.below d5 w4.heap.size
    have z5 := Dr.le d5
    clear d5
    have hm := hm.below b5 (by omega)
    have hs := hs.below b5 (by omega)
    have A := A.below b5 (by omega)
    have B5 := B4.trans (b5.mono (by omega))
    clear b5 B4
    rw [HV.out]
    go_wp2_with fail
    refine (s_BestTest hm (by omega) hs.rii (by omega) HSG.out (by omega) (by omega) (by omega) (by omega)).mono ?_
    rintro e w6 ⟨Ta, Tc, rfl, T, b6⟩
    have z6 := b6.size
    have hm := hm.below b6 (by omega)
    have hs := hs.below b6 (by omega)
    have A := A.below b6 (by omega)
    have B6 := B5.trans (b6.mono (by omega))
    clear b6 B5
    rw [HL.out] at T
    rw [HL.out]
    go_wp2_with fail
    refine (l_equalInts A.ri T.ri (by omega) (by omega)).mono ?_
    rintro e w7 ⟨rfl, d7⟩
    have b7 := Dr.below d7 w6.heap.size
    have z7 := Dr.le d7
    clear d7
    have hm := hm.below b7 (by omega)
    have hs := hs.below b7 (by omega)
    have A := A.below b7 (by omega)
    have T := T.below b7 (by omega)
    have B7 := B6.trans (b7.mono (by omega))
    clear b7 B6
    rw [heqL]
    go_wp2
    go_ret
    exact ⟨rfl, B7⟩
  have HC := Lib.hid (okC_mk hok hlo hhi)
  have HOK : Hid (okM m = true) := by show _ = _; rw [Bool.and_eq_true] at hok; exact hok.1
  have HOS : Hid (okS m s = true) := by show _ = _; rw [Bool.and_eq_true] at hok; exact hok.2
  have hm5 := okM_len HOK.out
  clear hok
  go_wp2_with fail
  refine (i_BestTest hm (by omega) hs.rii (by omega) HSG.out (by omega) (by omega) (by omega) (by omega)).mono ?_
  rintro e w2 ⟨Aa, Ac, rfl, A, b2⟩
  have z2 := b2.size
  have hm := hm.below b2 (by omega)
  have hs := hs.below b2 (by omega)
  have B2 := B1.trans (b2.mono (by omega))
  clear b2 B1
  rw [HL.out] at A
  rw [HL.out]
  go_wp2_with fail
  refine (s_BestTest hm (by omega) hs.rii (by omega) HSG.out (by omega) (by omega) (by omega) (by omega)).mono ?_
  rintro e w3 ⟨Sa, Sc, rfl, S, b3⟩
  have z3 := b3.size
  have hm := hm.below b3 (by omega)
  have hs := hs.below b3 (by omega)
  have A := A.below b3 (by omega)
  have B3 := B2.trans (b3.mono (by omega))
  clear b3 B2
  rw [HL.out] at S
  rw [HL.out]
  go_wp2_with fail
  refine (l_equalInts A.ri S.ri (by omega) (by omega)).mono ?_
  rintro e w4 ⟨rfl, d4⟩
  have b4 := Dr.below d4 w3.heap.size
  have z4 := Dr.le d4
  clear d4
  have hm := hm.below b4 (by omega)
  have hs := hs.below b4 (by omega)
  have A := A.below b4 (by omega)
  have S := S.below b4 (by omega)
  have B4 := B3.trans (b4.mono (by omega))
  clear b4 B3
  rw [heqL]
  go_wp2_with fail
  refine (i_ValidSuite hm (by omega) hs.rii (by omega) HSG.out).mono ?_
  rintro e w5 ⟨rfl, d5⟩
  have b5 := Dr.below d5 w4.heap.size
  have z5 := Dr.le d5
  clear d5
  have hm := hm.below b5 (by omega)
  have hs := hs.below b5 (by omega)
  have A := A.below b5 (by omega)
  have B5 := B4.trans (b5.mono (by omega))
  clear b5 B4
  rw [HV.out]
  obtain ⟨n, hf, hn, ht, hxl, hmx, hic⟩ := be_facts HC.out
  rw [HL.out] at hf ht hxl
  have HF := Lib.hid hf; have HT := Lib.hid ht; have HMX := Lib.hid hmx; have HIC := Lib.hid hic; have HXL := Lib.hid hxl
  have HVT : Hid ((okM m && okT m L) = true) := by show _ = _; rw [HOK.out, HT.out]; rfl
  clear hf ht hmx hic hxl
  have HQL := @apL_len m m.length
  have HQG := Lib.hid (@apL_row m m.length)
  go_wp2_with fail
  refine (i_FreshOf hm (by omega) hs.rii (by omega) HSG.out A.ri (by omega) (by omega) (by omega) (by omega) (by omega) (by omega)).mono ?_
  rintro e w6 ⟨rfl, b6⟩
  have z6 := b6.size
  have hm := hm.below b6 (by omega)
  have hs := hs.below b6 (by omega)
  have A := A.below b6 (by omega)
  have B6 := B5.trans (b6.mono (by omega))
  clear b6 B5
  rw [HF.out]
  go_wp2_with fail
  refine (i_AllTests hm (by omega) (by omega)).mono ?_
  rintro e w7 ⟨Qa, Qc, rfl, Q, b7⟩
  have z7 := b7.size
  have hm := hm.below b7 (by omega)
  have hs := hs.below b7 (by omega)
  have A := A.below b7 (by omega)
  have B7 := B6.trans (b7.mono (by omega))
  clear b7 B6
  obtain ⟨P, hP⟩ : ∃ P, apL m m.length = P := ⟨_, rfl⟩
  rw [hP] at Q HQL HQG HMX ⊢
  clear hP
  have hself : (((n : Int) == 0) == ((n : Int) == 0)) = true := by cases ((n : Int) == 0) <;> rfl
  go_wp2
  go_loopw [9] (fun i wr => ∃ k : Nat, k ≤ P.length ∧ i = .int .i64 k ∧ Below w7.heap.size w7 wr) (fun i _ => P.length - (intOf i).toNat)
  case atStart => exact ⟨0, Nat.zero_le _, rfl, Below.refl _ _⟩
  case round =>
    obtain ⟨k, hk, rfl, hd⟩ := hrel
    have hz := hd.size
    have hm := hm.below hd (by omega)
    have hs := hs.below hd (by omega)
    have A := A.below hd (by omega)
    have BB := B7.trans (hd.mono (by omega))
    by_cases hlt : k < P.length
    · skip
      obtain ⟨b, o, a3, c3, r, ha, _, _, hcell, hr, hx⟩ := (Q.rii.below hd (by omega)).at hlt
      have hidx := idxII ha hlt Qc
      have hrl : r.length ≤ 5 := by have := HQG.out r (List.mem_of_getElem? hx.out); omega
      have hle := HMX.out r (List.mem_of_getElem? hx.out)
      obtain ⟨z, hz1⟩ : ∃ z, frV m s r t = z := ⟨_, rfl⟩
      rw [hz1] at hle
      have HZ := Lib.hid hz1
      have hdec : decide ((n : Int) < z) = false := decide_eq_false (by omega)
      clear ha A hz1 Q
      go_wp2_with fail
      refine (i_FreshOf hm (by omega) hs.rii (by omega) HSG.out hr (by omega) (by omega) (by omega) (by omega) (by omega) (by omega)).mono ?_
      rintro e v1 ⟨rfl, b1⟩
      rw [HZ.out]
      have hd1 := hd.trans (b1.mono (by omega))
      clear BB hd b1
      go_wp2
      go_roundw
      case rel => exact ⟨k + 1, by omega, by go_num, hd1⟩
      case measure => simp [intOf]; omega
    · skip
      go_wp2_with fail
      refine (i_IsCovering hm (by omega) hs.rii (by omega) HSG.out (by omega) (by omega) (by omega) (by omega)).mono ?_
      rintro e v2 ⟨rfl, b2⟩
      rw [HIC.out]
      have zz := b2.size
      have hm := hm.below b2 (by omega)
      have A := A.below b2 (by omega)
      have BB := BB.trans (b2.mono (by omega))
      go_wp2_with fail
      refine (i_ValidTest hm (by omega) A.ri (by omega)).mono ?_
      rintro e v3 ⟨rfl, d3⟩
      rw [HVT.out]
      go_wp2
      go_ret
      exact ⟨rfl, BB.trans (Dr.below d3 _)⟩

end Go.Proofs.Ytekkhadlchfjnaa
