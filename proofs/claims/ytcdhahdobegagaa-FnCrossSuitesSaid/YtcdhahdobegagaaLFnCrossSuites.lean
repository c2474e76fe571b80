/- The walk of FnCrossSuites: it returns true and writes nothing that was there. -/
import Derived.Test.YtcdhahdobegagaaRw
namespace Go.Proofs.Ytcdhahdobegagaa
open Go.RowKit

set_option maxRecDepth 100000 in
set_option maxHeartbeats 2000000 in
theorem law_FnCrossSuites {m0 : Nat} {a0 : Option Addr} {c0 : Nat} {w : World} (f0 : RB w w.heap.size a0 m0) (l0 : m0 ≤ c0) :
    Calls Try.prog 12 #[.slice a0 m0 c0] w (Tru w) := by
  by_cases hb : m0 ≤ 1048576
  case neg =>
    go_enter Try.func12, Try.ntmps12
    go_wp2
    go_ret
    exact ⟨rfl, Below.refl _ _⟩
  go_enter Try.func12, Try.ntmps12
  go_wp2_with fail
  refine (s_DrawCrossSuites f0 l0 hb).mono ?_
  rintro e w1 ⟨a1, c1, m, a2, c2, s, a3, c3, n, a4, c4, t, rfl, ⟨hG, hS, hN, hT⟩, B1⟩
  have z1 := B1.size
  have hm := hG.ri
  have hs := hS.ric
  have hn := hN.ri
  have ht := hT.ric
  have hl10 := hG.lp.1
  have nl10 := hN.lp.1
  have hsl := hS.sq.1
  have htl := hT.sq.1
  have HSG : Hid (∀ r ∈ s, r.length ≤ 9223372036854775807) := fun r h => by have := (hS.sq.2 r h).1; omega
  have HTG : Hid (∀ r ∈ t, r.length ≤ 9223372036854775807) := fun r h => by have := (hT.sq.2 r h).1; omega
  clear hG hS hN hT
  clear f0
  obtain ⟨L, hL⟩ : ∃ L, crL m s n t = L := ⟨_, rfl⟩
  obtain ⟨b, hB⟩ : ∃ b, crB m s n t = b := ⟨_, rfl⟩
  have HL := Lib.hid hL
  have HB := Lib.hid hB
  have HLN := @crL_len m n s t
  have HGR := Lib.hid (@crL_gr m n s t).2
  rw [hL] at HLN HGR
  have heqL : eqII L L = true := eqII_true.2 rfl
  clear hL hB
  cases b
  · skip
    go_wp2_with fail
    refine (i_CrossSuites hm (by omega) hs.rii (by omega) HSG.out hn (by omega) ht.rii (by omega) HTG.out (by omega) (by omega) (by omega) (by omega)).mono ?_
    rintro e w2 ⟨Aa, Ac, rfl, A, b2⟩
    have z2 := b2.size
    have hm := hm.below b2 (by omega)
    have hs := hs.below b2 (by omega)
    have hn := hn.below b2 (by omega)
    have ht := ht.below b2 (by omega)
    have B2 := B1.trans (b2.mono (by omega))
    clear b2 B1
    rw [HL.out] at A
    rw [HL.out, HB.out]
    go_wp2_with fail
    refine (s_CrossSuites hm (by omega) hs.rii (by omega) HSG.out hn (by omega) ht.rii (by omega) HTG.out (by omega) (by omega) (by omega) (by omega)).mono ?_
    rintro e w3 ⟨Sa, Sc, rfl, S, b3⟩
    have z3 := b3.size
    have hm := hm.below b3 (by omega)
    have hs := hs.below b3 (by omega)
    have hn := hn.below b3 (by omega)
    have ht := ht.below b3 (by omega)
    have A := A.below b3 (by omega)
    have B3 := B2.trans (b3.mono (by omega))
    clear b3 B2
    rw [HL.out] at S
    rw [HL.out, HB.out]
    go_wp2_with fail
    refine (l_equalLists A.rii S.rii (by omega) (by omega) HGR.out HGR.out).mono ?_
    rintro e w4 ⟨rfl, d4⟩
    have b4 := Dr.below d4 w3.heap.size
    have z4 := Dr.le d4
    clear d4
    have hm := hm.below b4 (by omega)
    have hs := hs.below b4 (by omega)
    have hn := hn.below b4 (by omega)
    have ht := ht.below b4 (by omega)
    have A := A.below b4 (by omega)
    have S := S.below b4 (by omega)
    have B4 := B3.trans (b4.mono (by omega))
    clear b4 B3
    rw [heqL]
    go_wp2_with fail
    refine (l_equalLists A.rii S.rii (by omega) (by omega) HGR.out HGR.out).mono ?_
    rintro e w5 ⟨rfl, d5⟩
    have b5 := Dr.below d5 w4.heap.size
    have z5 := Dr.le d5
    clear d5
    have hm := hm.below b5 (by omega)
    have hs := hs.below b5 (by omega)
    have hn := hn.below b5 (by omega)
    have ht := ht.below b5 (by omega)
    have A := A.below b5 (by omega)
    have S := S.below b5 (by omega)
    have B5 := B4.trans (b5.mono (by omega))
    clear b5 B4
    rw [heqL]
    go_wp2
    go_ret
    exact ⟨rfl, B5⟩
  go_wp2_with fail
  refine (i_CrossSuites hm (by omega) hs.rii (by omega) HSG.out hn (by omega) ht.rii (by omega) HTG.out (by omega) (by omega) (by omega) (by omega)).mono ?_
  rintro e w2 ⟨Aa, Ac, rfl, A, b2⟩
  have z2 := b2.size
  have hm := hm.below b2 (by omega)
  have hs := hs.below b2 (by omega)
  have hn := hn.below b2 (by omega)
  have ht := ht.below b2 (by omega)
  have B2 := B1.trans (b2.mono (by omega))
  clear b2 B1
  rw [HL.out] at A
  rw [HL.out, HB.out]
  go_wp2_with fail
  refine (s_CrossSuites hm (by omega) hs.rii (by omega) HSG.out hn (by omega) ht.rii (by omega) HTG.out (by omega) (by omega) (by omega) (by omega)).mono ?_
  rintro e w3 ⟨Sa, Sc, rfl, S, b3⟩
  have z3 := b3.size
  have hm := hm.below b3 (by omega)
  have hs := hs.below b3 (by omega)
  have hn := hn.below b3 (by omega)
  have ht := ht.below b3 (by omega)
  have A := A.below b3 (by omega)
  have B3 := B2.trans (b3.mono (by omega))
  clear b3 B2
  rw [HL.out] at S
  rw [HL.out, HB.out]
  go_wp2_with fail
  refine (l_equalLists A.rii S.rii (by omega) (by omega) HGR.out HGR.out).mono ?_
  rintro e w4 ⟨rfl, d4⟩
  have b4 := Dr.below d4 w3.heap.size
  have z4 := Dr.le d4
  clear d4
  have hm := hm.below b4 (by omega)
  have hs := hs.below b4 (by omega)
  have hn := hn.below b4 (by omega)
  have ht := ht.below b4 (by omega)
  have A := A.below b4 (by omega)
  have S := S.below b4 (by omega)
  have B4 := B3.trans (b4.mono (by omega))
  clear b4 B3
  rw [heqL]
  have HCL := Lib.hid (cross_law HB.out)
  rw [HL.out] at HCL
  have H20 : Hid (s.length ≤ 20 ∧ t.length ≤ 20 ∧ m.length + n.length ≤ 5) := by
    have h := HB.out
    unfold crB at h
    simp only [Bool.and_eq_true, decide_eq_true_eq] at h
    exact ⟨okS_len h.1.1.1.2, okS_len h.1.1.2.2, h.1.2⟩
  have hmul := (mul_i64 HCL.out.1.2.2.symm H20.out.1 H20.out.2.1).1
  have h5 := H20.out.2.2
  have hLL : ((L.length : Int) == (L.length : Int)) = true := beq_self_eq_true _
  obtain ⟨l, hl⟩ : ∃ l, m ++ n = l := ⟨_, rfl⟩
  have hl5 : l.length ≤ 5 := by rw [← hl, List.length_append]; exact h5
  rw [hl] at HCL
  have HLAP := Lib.hid hl
  have HVS : Hid ((okM l && okS l L) = true) := by show _ = _; rw [HCL.out.1.1, HCL.out.1.2.1]; rfl
  have HG9 : Hid (∀ r ∈ L, r.length ≤ 9223372036854775807) := fun r h => by have := HGR.out r h; omega
  clear hl S
  have hstr := OwnL.made w4 w4.heap.size (Nat.le_refl _)
  have hbA := (Below.refl w4.heap.size w4).alloc (Nat.le_refl _) (.cells #[] 3)
  have hmA := hm.below hbA (by omega)
  clear hbA
  have hl0 : ([] : List Int).length ≤ 1099511627776 := by simp
  have hl1 : m.length ≤ 1099511627776 := by omega
  have hl2 : n.length ≤ 1099511627776 := by omega
  have hzz : w1.heap.size ≤ w4.heap.size := by omega
  go_wp2_with (first
    | (at_builtin; refine wpList_appA rfl (.tmp 60) (.tmp 61) rfl w4.heap.size _ [] rfl hstr m _ _ c1 a1 rfl hmA hl0 hl1 (by simp) ?_; intro v6 w6 hown6 hb6; rw [List.nil_append] at hown6; have hb06 := chain1 hb6; have hn6 := hn.below hb06 hzz; obtain ⟨x6, y6, rfl, _⟩ := hown6.slice; clear hstr hmA hb6)
    | (at_builtin; refine wpList_appA rfl (.tmp 62) (.tmp 63) rfl w4.heap.size _ m rfl hown6 n _ _ c3 a3 rfl hn6 hl1 hl2 hb06.size ?_; intro v7 w7 hown7 hb7; have hb07 := hb06.trans hb7; rw [HLAP.out] at hown7; obtain ⟨Qa, Qc, rfl, Q⟩ := hown7.slice; clear hown6 hn6 hb06 hb7 hown7))
  have z7 := hb07.size
  have hm := hm.below hb07 (by omega)
  have hs := hs.below hb07 (by omega)
  have hn := hn.below hb07 (by omega)
  have ht := ht.below hb07 (by omega)
  have A := A.below hb07 (by omega)
  have B7 := B4.trans (hb07.mono (by omega))
  clear hb07 B4
  go_loopw [12] (fun i wr => ∃ k : Nat, k ≤ m.length + 1 ∧ i = .int .i64 k ∧ Below w7.heap.size w7 wr) (fun i _ => m.length + 1 - (intOf i).toNat)
  case atStart => exact ⟨0, Nat.zero_le _, rfl, Below.refl _ _⟩
  case round =>
    obtain ⟨k, hk, rfl, hd⟩ := hrel
    have hz := hd.size
    have hm := hm.below hd (by omega)
    have hs := hs.below hd (by omega)
    have hn := hn.below hd (by omega)
    have ht := ht.below hd (by omega)
    have A := A.below hd (by omega)
    have Q := Q.below hd (by omega)
    have BB := B7.trans (hd.mono (by omega))
    by_cases h1 : (k : Int) ≤ (m.length : Int)
    case neg =>
      go_wp2_with fail
      refine (i_ValidSuite Q.ri (by omega) A.rii (by omega) HG9.out).mono ?_
      rintro e v3 ⟨rfl, d3⟩
      rw [HVS.out]
      go_wp2
      go_ret
      exact ⟨rfl, BB.trans (Dr.below d3 _)⟩
    by_cases h2 : (k : Int) ≤ (n.length : Int)
    case neg =>
      go_wp2_with fail
      refine (i_ValidSuite Q.ri (by omega) A.rii (by omega) HG9.out).mono ?_
      rintro e v3 ⟨rfl, d3⟩
      rw [HVS.out]
      go_wp2
      go_ret
      exact ⟨rfl, BB.trans (Dr.below d3 _)⟩
    obtain ⟨v, hv⟩ : ∃ v, icB m s k = v := ⟨_, rfl⟩
    obtain ⟨u, hu⟩ : ∃ u, icB n t k = u := ⟨_, rfl⟩
    have HV := Lib.hid hv
    have HU := Lib.hid hu
    clear hv hu
    go_wp2_with fail
    refine (i_IsCovering hm (by omega) hs.rii (by omega) HSG.out (by omega) (by omega) (by omega) (by omega)).mono ?_
    rintro e v1 ⟨rfl, b1⟩
    rw [HV.out]
    have y1 := b1.size
    have hd1 := hd.trans (b1.mono (by omega))
    have hn := hn.below b1 (by omega)
    have ht := ht.below b1 (by omega)
    have A := A.below b1 (by omega)
    have Q := Q.below b1 (by omega)
    clear BB hd b1
    cases v
    · skip
      go_wp2
      go_roundw
      case rel => exact ⟨k + 1, by omega, by go_num, hd1⟩
      case measure => simp [intOf]; omega
    go_wp2_with fail
    refine (i_IsCovering hn (by omega) ht.rii (by omega) HTG.out (by omega) (by omega) (by omega) (by omega)).mono ?_
    rintro e v2 ⟨rfl, b2⟩
    rw [HU.out]
    have y2 := b2.size
    have hd2 := hd1.trans (b2.mono (by omega))
    have A := A.below b2 (by omega)
    have Q := Q.below b2 (by omega)
    clear hd1 b2
    cases u
    · skip
      go_wp2
      go_roundw
      case rel => exact ⟨k + 1, by omega, by go_num, hd2⟩
      case measure => simp [intOf]; omega
    have HI : Hid (icB l L k = true) := HCL.out.2 k h1 h2 HV.out HU.out
    go_wp2_with fail
    refine (i_IsCovering Q.ri (by omega) A.rii (by omega) HG9.out (by omega) (by omega) (by omega) (by omega)).mono ?_
    rintro e v3 ⟨rfl, b3⟩
    rw [HI.out]
    have hd3 := hd2.trans (b3.mono (by omega))
    clear hd2 b3
    go_wp2
    go_roundw
    case rel => exact ⟨k + 1, by omega, by go_num, hd3⟩
    case measure => simp [intOf]; omega

end Go.Proofs.Ytcdhahdobegagaa
