/- The walk of FnSuspectsOfFault: it returns true and writes nothing that was there. -/
import Derived.Test.YtehoagbpgahopaaRc
import Derived.Test.YtehoagbpgahopaaRl
import Derived.Test.YtehoagbpgahopaaJa
import Derived.Test.YtehoagbpgahopaaJe
import Derived.Test.YtehoagbpgahopaaVr
import Derived.Test.YtehoagbpgahopaaWe
import Derived.Test.YtehoagbpgahopaaWi
namespace Go.Proofs.Ytehoagbpgahopaa
open Go.RowKit

theorem riiBox {w : World} {lo hi c : Nat} {a : Option Addr} {p : List Int} (h : RI w lo hi a p) (hc : p.length ≤ c) (hlo : lo ≤ w.heap.size) (hhi : hi ≤ w.heap.size) : RII (w.alloc (.cells #[.slice a p.length c] 23)) lo (w.heap.size + 1) (some ⟨w.heap.size, 0, none⟩) [p] := by
  intro k hk
  obtain rfl : k = 0 := by simpa using hk
  exact ⟨w.heap.size, 0, a, c, p, rfl, hlo, by omega, rfl, (by have h1 := cell_one_new w (.slice a p.length c) 23 0 _ rfl; rw [addrAdd] at h1; exact h1), (h.below ((Below.refl w.heap.size w).alloc (Nat.le_refl _) _) hhi).wide (Nat.le_refl _) (by omega), hc⟩

theorem sf_law {m p : List Int} {s : List (List Int)} (hm : okM m = true) (hs : okS m s = true) (hp : okP m p = true) : roL m s [p] = rowB s p ∧ hasL (suL m s (rowB s p) (strN p)) p = decide (0 < hoV m s p) := by
  have hb : okBn m [p] = true := by unfold okBn; simp [hp]
  have h1 := ro_yes hm hs hb
  rw [row_one] at h1
  have hc : jdG m s (rowB s p) (strN p) = true := by
    unfold jdG okC
    have h2 := strN_le p
    have h3 := okW_len hp
    rw [hm, hs, inR_true.2 (by omega)]; simp [rowB]
  refine ⟨h1, ?_⟩
  rw [Bool.eq_iff_iff, hasL_iff, decide_eq_true_eq, su_yes hc, hoV_yes hm hs hp]
  have := su_fault (s := s) hm hp
  rw [row_one] at this
  rw [this]; omega

set_option maxRecDepth 100000 in
set_option maxHeartbeats 2000000 in
theorem law_FnSuspectsOfFault {m0 : Nat} {a0 : Option Addr} {c0 : Nat} {w : World} (f0 : RB w w.heap.size a0 m0) (l0 : m0 ≤ c0) :
    Calls Try.prog 20 #[.slice a0 m0 c0] w (Tru w) := by
  by_cases hb : m0 ≤ 1048576
  case neg =>
    go_enter Try.func20, Try.ntmps20
    go_wp2
    go_ret
    exact ⟨rfl, Below.refl _ _⟩
  go_enter Try.func20, Try.ntmps20
  go_wp2_with fail
  refine (s_DrawHowOften f0 l0 hb).mono ?_
  rintro e w1 ⟨a1, c1, m, a2, c2, s, a3, c3, p, rfl, ⟨hG, hS, hP⟩, B1⟩
  have z1 := B1.size
  have hm := hG.ri
  have hs := hS.ric
  have hl10 := hG.lp.1
  have hsl := hS.sq.1
  have HSR : Hid (∀ r ∈ s, r.length ≤ 12) := fun r h => (hS.sq.2 r h).1
  have HSG : Hid (∀ r ∈ s, r.length ≤ 9223372036854775807) := fun r h => by have := (hS.sq.2 r h).1; omega
  have hp := hP.ri
  have pl11 := hP.lp.1
  have pcap := hP.cap
  clear hG hS hP
  clear f0
  cases hok : (okM m && okP m p)
  · skip
    have HV := Lib.hid hok; clear hok
    go_wp2_with fail
    refine (i_ValidPattern hm (by omega) hp (by omega)).mono ?_
    rintro e w2 ⟨rfl, d2⟩
    have b2 := Dr.below d2 w1.heap.size
    have z2 := Dr.le d2
    clear d2
    have hm := hm.below b2 (by omega)
    have hs := hs.below b2 (by omega)
    have hp := hp.below b2 (by omega)
    have B2 := B1.trans (b2.mono (by omega))
    clear b2 B1
    rw [HV.out]
    go_wp2_with fail
    refine (s_ValidPattern hm (by omega) hp (by omega)).mono ?_
    rintro e w3 ⟨rfl, d3⟩
    have b3 := Dr.below d3 w2.heap.size
    have z3 := Dr.le d3
    clear d3
    have hm := hm.below b3 (by omega)
    have hs := hs.below b3 (by omega)
    have hp := hp.below b3 (by omega)
    have B3 := B2.trans (b3.mono (by omega))
    clear b3 B2
    rw [HV.out]
    go_wp2_with fail
    refine (s_ValidPattern hm (by omega) hp (by omega)).mono ?_
    rintro e w4 ⟨rfl, d4⟩
    have b4 := Dr.below d4 w3.heap.size
    have z4 := Dr.le d4
    clear d4
    have hm := hm.below b4 (by omega)
    have hs := hs.below b4 (by omega)
    have hp := hp.below b4 (by omega)
    have B4 := B3.trans (b4.mono (by omega))
    clear b4 B3
    rw [HV.out]
    go_wp2
    go_ret
    exact ⟨rfl, B4⟩
  have HV := Lib.hid hok
  rw [Bool.and_eq_true] at hok
  have HOK := Lib.hid hok.1; have HPF := Lib.hid hok.2
  clear hok
  have hm5 := okM_len HOK.out
  cases hos : okS m s
  · skip
    have HVS : Hid ((okM m && okS m s) = false) := by show _ = _; rw [hos]; simp
    clear hos
    go_wp2_with fail
    refine (i_ValidPattern hm (by omega) hp (by omega)).mono ?_
    rintro e w2 ⟨rfl, d2⟩
    have b2 := Dr.below d2 w1.heap.size
    have z2 := Dr.le d2
    clear d2
    have hm := hm.below b2 (by omega)
    have hs := hs.below b2 (by omega)
    have hp := hp.below b2 (by omega)
    have B2 := B1.trans (b2.mono (by omega))
    clear b2 B1
    rw [HV.out]
    go_wp2_with fail
    refine (s_ValidPattern hm (by omega) hp (by omega)).mono ?_
    rintro e w3 ⟨rfl, d3⟩
    have b3 := Dr.below d3 w2.heap.size
    have z3 := Dr.le d3
    clear d3
    have hm := hm.below b3 (by omega)
    have hs := hs.below b3 (by omega)
    have hp := hp.below b3 (by omega)
    have B3 := B2.trans (b3.mono (by omega))
    clear b3 B2
    rw [HV.out]
    go_wp2_with fail
    refine (i_ValidSuite hm (by omega) hs.rii (by omega) HSG.out).mono ?_
    rintro e w4 ⟨rfl, d4⟩
    have b4 := Dr.below d4 w3.heap.size
    have z4 := Dr.le d4
    clear d4
    have hm := hm.below b4 (by omega)
    have hs := hs.below b4 (by omega)
    have hp := hp.below b4 (by omega)
    have B4 := B3.trans (b4.mono (by omega))
    clear b4 B3
    rw [HVS.out]
    go_wp2_with fail
    refine (s_ValidPattern hm (by omega) hp (by omega)).mono ?_
    rintro e w5 ⟨rfl, d5⟩
    have b5 := Dr.below d5 w4.heap.size
    have z5 := Dr.le d5
    clear d5
    have hm := hm.below b5 (by omega)
    have hs := hs.below b5 (by omega)
    have hp := hp.below b5 (by omega)
    have B5 := B4.trans (b5.mono (by omega))
    clear b5 B4
    rw [HV.out]
    go_wp2
    go_ret
    exact ⟨rfl, B5⟩
  have HVS : Hid ((okM m && okS m s) = true) := by show _ = _; rw [HOK.out, hos]; rfl
  obtain ⟨hF1, hF2⟩ := sf_law HOK.out hos HPF.out
  have HST := Lib.hid (strV_yes HOK.out HPF.out)
  have hsn : strN p ≤ m.length := by have := strN_le p; have := okW_len HPF.out; omega
  obtain ⟨q, hq⟩ : ∃ q, strN p = q := ⟨_, rfl⟩
  rw [hq] at hsn hF2
  have HQ := Lib.hid hq
  obtain ⟨F, hF⟩ : ∃ F, rowB s p = F := ⟨_, rfl⟩
  have hFL : F.length ≤ s.length := by rw [← hF]; simp [rowB]
  rw [hF] at hF1 hF2
  obtain ⟨L, hL⟩ : ∃ L, suL m s F (q : Int) = L := ⟨_, rfl⟩
  have HLN := @suL_len m s F (q : Int)
  have HLG := Lib.hid (@suL_gr m s F (q : Int)).2
  rw [hL] at hF2 HLN HLG
  have HL := Lib.hid hL
  have HF := Lib.hid hF1
  obtain ⟨z, hz⟩ : ∃ z, hoV m s p = z := ⟨_, rfl⟩
  rw [hz] at hF2
  have HZ := Lib.hid hz
  clear hq hF hL hF1 hz hos
  obtain ⟨x, hx⟩ : ∃ x, decide (0 < z) = x := ⟨_, rfl⟩
  rw [hx] at hF2
  have HX := Lib.hid hF2; clear hF2
  go_wp2_with fail
  refine (i_ValidPattern hm (by omega) hp (by omega)).mono ?_
  rintro e w2 ⟨rfl, d2⟩
  have b2 := Dr.below d2 w1.heap.size
  have z2 := Dr.le d2
  clear d2
  have hm := hm.below b2 (by omega)
  have hs := hs.below b2 (by omega)
  have hp := hp.below b2 (by omega)
  have B2 := B1.trans (b2.mono (by omega))
  clear b2 B1
  rw [HV.out]
  go_wp2_with fail
  refine (s_ValidPattern hm (by omega) hp (by omega)).mono ?_
  rintro e w3 ⟨rfl, d3⟩
  have b3 := Dr.below d3 w2.heap.size
  have z3 := Dr.le d3
  clear d3
  have hm := hm.below b3 (by omega)
  have hs := hs.below b3 (by omega)
  have hp := hp.below b3 (by omega)
  have B3 := B2.trans (b3.mono (by omega))
  clear b3 B2
  rw [HV.out]
  go_wp2_with fail
  refine (i_ValidSuite hm (by omega) hs.rii (by omega) HSG.out).mono ?_
  rintro e w4 ⟨rfl, d4⟩
  have b4 := Dr.below d4 w3.heap.size
  have z4 := Dr.le d4
  clear d4
  have hm := hm.below b4 (by omega)
  have hs := hs.below b4 (by omega)
  have hp := hp.below b4 (by omega)
  have B4 := B3.trans (b4.mono (by omega))
  clear b4 B3
  rw [HVS.out]
  have HBX := Lib.hid (riiBox (lo := w.heap.size) (hp) (pcap) (by omega) (by omega))
  have hbA := (Below.refl w4.heap.size w4).alloc (Nat.le_refl _) (.cells #[.slice a3 p.length c3] 23)
  have zA : w4.heap.size + 1 ≤ (w4.alloc (.cells #[.slice a3 p.length c3] 23)).heap.size ∧ (w4.alloc (.cells #[.slice a3 p.length c3] 23)).heap.size ≤ w4.heap.size + 1 := by simp
  have hm := hm.below hbA (by omega)
  have hs := hs.below hbA (by omega)
  have hp := hp.below hbA (by omega)
  have BA := B4.trans (hbA.mono (by omega))
  clear hbA B4
  go_wp2_with fail
  refine (i_ResultsOf (b := [p]) hm (by omega) hs.rii (by omega) HSG.out HBX.out (by simp) (by intro r hr; simp at hr; subst hr; omega) (by omega) (by omega)).mono ?_
  rintro e w5 ⟨Fa, Fc, rfl, R, b5⟩
  have z5 := b5.size
  have hm := hm.below b5 (by omega)
  have hs := hs.below b5 (by omega)
  have hp := hp.below b5 (by omega)
  have B5 := BA.trans (b5.mono (by omega))
  clear b5 BA HBX
  rw [HF.out] at R
  rw [HF.out]
  go_wp2_with fail
  refine (i_StrengthOf hm (by omega) hp (by omega)).mono ?_
  rintro e w6 ⟨rfl, d6⟩
  have b6 := Dr.below d6 w5.heap.size
  have z6 := Dr.le d6
  clear d6
  have hm := hm.below b6 (by omega)
  have hs := hs.below b6 (by omega)
  have hp := hp.below b6 (by omega)
  have R := R.below b6 (by omega)
  have B6 := B5.trans (b6.mono (by omega))
  clear b6 B5
  rw [HST.out, HQ.out]
  go_wp2_with fail
  refine (i_SuspectsOf hm (by omega) hs.rii (by omega) HSG.out R.ri (by omega) (by omega) (by omega) (by omega) (by omega) (by omega)).mono ?_
  rintro e w7 ⟨Aa, Ac, rfl, A, b7⟩
  have z7 := b7.size
  have hm := hm.below b7 (by omega)
  have hs := hs.below b7 (by omega)
  have hp := hp.below b7 (by omega)
  have R := R.below b7 (by omega)
  have B7 := B6.trans (b7.mono (by omega))
  clear b7 B6
  rw [HL.out] at A
  rw [HL.out]
  go_wp2_with fail
  refine (l_holdsList A.rii hp (by omega) (by omega) HLG.out).mono ?_
  rintro e w8 ⟨rfl, d8⟩
  have b8 := Dr.below d8 w7.heap.size
  have z8 := Dr.le d8
  clear d8
  have hm := hm.below b8 (by omega)
  have hs := hs.below b8 (by omega)
  have hp := hp.below b8 (by omega)
  have R := R.below b8 (by omega)
  have A := A.below b8 (by omega)
  have B8 := B7.trans (b8.mono (by omega))
  clear b8 B7
  rw [HX.out]
  go_wp2_with fail
  refine (i_HowOften hm (by omega) hs.rii (by omega) HSG.out hp (by omega) (by omega) (by omega)).mono ?_
  rintro e w9 ⟨rfl, b9⟩
  have z9 := b9.size
  have hm := hm.below b9 (by omega)
  have hs := hs.below b9 (by omega)
  have hp := hp.below b9 (by omega)
  have R := R.below b9 (by omega)
  have A := A.below b9 (by omega)
  have B9 := B8.trans (b9.mono (by omega))
  clear b9 B8
  rw [HZ.out]
  cases x
  · skip
    go_wp2
    go_ret
    exact ⟨rfl, B9⟩
  · skip
    go_wp2
    go_ret
    exact ⟨rfl, B9⟩

end Go.Proofs.Ytehoagbpgahopaa
