/- The walk of FnAllTests: it returns true and writes nothing that was there. -/
import Derived.Test.YtmmebcjebphfcaaLFnValidTest
import Derived.Test.YtmmebcjebphfcaaLFnValidModel
namespace Go.Proofs.Ytmmebcjebphfcaa
open Go.RowKit

theorem full_row {m r : List Int} {k : Nat} (h : okM m = true) (hr : (apL m m.length)[k]? = some r) : (okM m && okT m r) = true := by
  have h1 := hasL_iff.2 (List.mem_of_getElem? hr)
  rw [has_full h] at h1
  rw [h, h1]; rfl
theorem apL_nodup {m : List Int} {t : Int} : (apL m t).Nodup := by
  unfold apL
  split
  · exact nodup_patsR
  · simp
theorem eqI_ne {x y : List Int} (h : x ≠ y) : eqI x y = false := eqI_no h

set_option maxRecDepth 100000 in
set_option maxHeartbeats 2000000 in
theorem law_FnAllTests {m0 : Nat} {a0 : Option Addr} {c0 : Nat} {w : World} (f0 : RB w w.heap.size a0 m0) (l0 : m0 ≤ c0) :
    Calls Try.prog 7 #[.slice a0 m0 c0] w (Tru w) := by
  by_cases hb : m0 ≤ 1048576
  case neg =>
    go_enter Try.func7, Try.ntmps7
    go_wp2
    go_ret
    exact ⟨rfl, Below.refl _ _⟩
  go_enter Try.func7, Try.ntmps7
  go_wp2_with fail
  refine (s_DrawAllTests f0 l0 hb).mono ?_
  rintro e w1 ⟨a1, c1, m, rfl, hG, B1⟩
  have z1 := B1.size
  have hm := hG.ri
  have hl10 := hG.lp.1
  have hcap := hG.cap
  clear hG
  clear f0
  have HLN := @apL_len m m.length
  have HGR := Lib.hid (@apL_g m m.length)
  have heqL : eqII (apL m m.length) (apL m m.length) = true := eqII_true.2 rfl
  cases hok : okM m
  · skip
    have HOK := Lib.hid hok; clear hok
    go_wp2_with fail
    refine (i_AllTests hm (by omega) (by omega)).mono ?_
    rintro e w2 ⟨Aa, Ac, rfl, A, b2⟩
    have z2 := b2.size
    have hm := hm.below b2 (by omega)
    have B2 := B1.trans (b2.mono (by omega))
    clear b2 B1
    go_wp2_with fail
    refine (s_AllTests hm (by omega) (by omega)).mono ?_
    rintro e w3 ⟨Sa, Sc, rfl, S, b3⟩
    have z3 := b3.size
    have hm := hm.below b3 (by omega)
    have A := A.below b3 (by omega)
    have B3 := B2.trans (b3.mono (by omega))
    clear b3 B2
    go_wp2_with fail
    refine (l_equalLists A.rii S.rii (by omega) (by omega) HGR.out HGR.out).mono ?_
    rintro e w4 ⟨rfl, d4⟩
    have b4 := Dr.below d4 w3.heap.size
    have z4 := Dr.le d4
    clear d4
    have hm := hm.below b4 (by omega)
    have A := A.below b4 (by omega)
    have S := S.below b4 (by omega)
    have B4 := B3.trans (b4.mono (by omega))
    clear b4 B3
    rw [heqL]
    go_wp2_with fail
    refine (i_ValidModel hm (by omega)).mono ?_
    rintro e w5 ⟨rfl, d5⟩
    have b5 := Dr.below d5 w4.heap.size
    have z5 := Dr.le d5
    clear d5
    have hm := hm.below b5 (by omega)
    have A := A.below b5 (by omega)
    have S := S.below b5 (by omega)
    have B5 := B4.trans (b5.mono (by omega))
    clear b5 B4
    rw [HOK.out]
    go_wp2_with fail
    refine (s_AllTests hm (by omega) (by omega)).mono ?_
    rintro e w6 ⟨Ta, Tc, rfl, T, b6⟩
    have z6 := b6.size
    have hm := hm.below b6 (by omega)
    have A := A.below b6 (by omega)
    have S := S.below b6 (by omega)
    have B6 := B5.trans (b6.mono (by omega))
    clear b6 B5
    go_wp2_with fail
    refine (l_equalLists A.rii T.rii (by omega) (by omega) HGR.out HGR.out).mono ?_
    rintro e w7 ⟨rfl, d7⟩
    have b7 := Dr.below d7 w6.heap.size
    have z7 := Dr.le d7
    clear d7
    have hm := hm.below b7 (by omega)
    have A := A.below b7 (by omega)
    have S := S.below b7 (by omega)
    have T := T.below b7 (by omega)
    have B7 := B6.trans (b7.mono (by omega))
    clear b7 B6
    rw [heqL]
    go_wp2
    go_ret
    exact ⟨rfl, B7⟩
  have HOK := Lib.hid hok; clear hok
  have hm5 := okM_len HOK.out
  have HLEN := Lib.hid (len_apL HOK.out)
  go_wp2_with fail
  refine (i_AllTests hm (by omega) (by omega)).mono ?_
  rintro e w2 ⟨Aa, Ac, rfl, A, b2⟩
  have z2 := b2.size
  have hm := hm.below b2 (by omega)
  have B2 := B1.trans (b2.mono (by omega))
  clear b2 B1
  go_wp2_with fail
  refine (s_AllTests hm (by omega) (by omega)).mono ?_
  rintro e w3 ⟨Sa, Sc, rfl, S, b3⟩
  have z3 := b3.size
  have hm := hm.below b3 (by omega)
  have A := A.below b3 (by omega)
  have B3 := B2.trans (b3.mono (by omega))
  clear b3 B2
  go_wp2_with fail
  refine (l_equalLists A.rii S.rii (by omega) (by omega) HGR.out HGR.out).mono ?_
  rintro e w4 ⟨rfl, d4⟩
  have b4 := Dr.below d4 w3.heap.size
  have z4 := Dr.le d4
  clear d4
  have hm := hm.below b4 (by omega)
  have A := A.below b4 (by omega)
  have S := S.below b4 (by omega)
  have B4 := B3.trans (b4.mono (by omega))
  clear b4 B3
  rw [heqL]
  go_wp2_with fail
  refine (i_ValidModel hm (by omega)).mono ?_
  rintro e w5 ⟨rfl, d5⟩
  have b5 := Dr.below d5 w4.heap.size
  have z5 := Dr.le d5
  clear d5
  have hm := hm.below b5 (by omega)
  have A := A.below b5 (by omega)
  have S := S.below b5 (by omega)
  have B5 := B4.trans (b5.mono (by omega))
  clear b5 B4
  rw [HOK.out]
  obtain ⟨L, hL⟩ : ∃ L, apL m m.length = L := ⟨_, rfl⟩
  have HL := Lib.hid hL
  have A : OIIc _ _ _ _ _ L := hL ▸ A
  rw [hL] at HLN heqL HGR HLEN ⊢
  clear hL S
  go_wp2
  go_loopw [5] (fun i wr => ∃ k : Nat, k ≤ L.length ∧ i = .int .i64 k ∧ Dr w5 wr) (fun i _ => L.length - (intOf i).toNat)
  case atStart => exact ⟨0, Nat.zero_le _, rfl, Dr.refl _⟩
  case round =>
    obtain ⟨k, hk, rfl, hd⟩ := hrel
    by_cases hlt : k < L.length
    · skip
      obtain ⟨b, o, a3, c3, r, ha, _, _, hcell, hr, hx⟩ := (A.rii.dr hd).at hlt
      have hidx := idxII ha hlt Ac
      have hrl := HGR.out r (List.mem_of_getElem? hx.out)
      have hmd := hm.dr hd
      have hval : (okM m && okT m r) = true := full_row HOK.out (by rw [HL.out]; exact hx.out)
      by_cases hk0 : k = 0
      · skip
        have hdk : decide (0 < k) = false := by rw [decide_eq_false_iff_not]; omega
        clear ha hm A hk0
        go_wp2_with fail
        go_quiet ((go_at_call 23; exact RO.quiet (i_ValidTest (hmd.drewN _) (by omega) (hr.drewN _) (by omega))))
        go_wp2
        go_roundw
        case rel => exact ⟨k + 1, by omega, by go_num, hd.drewN _⟩
        case measure => simp [intOf]; omega
      · skip
        obtain ⟨b2, o2, a4, c4, r2, ha2, _, _, hcell2, hr2, hx2⟩ := (A.rii.dr hd).at (show k - 1 < L.length by omega)
        have hidx2 := idxII ha2 (show k - 1 < L.length by omega) Ac
        have e1 : ((k - 1 : Nat) : Int) = (k : Int) - 1 := by omega
        rw [e1] at hidx2
        have hrl2 := HGR.out r2 (List.mem_of_getElem? hx2.out)
        have hne : eqI r2 r = false := eqI_ne (nodup_at (HL.out ▸ apL_nodup) hx2.out hx.out (by omega))
        have hdk : decide (0 < k) = true := by rw [decide_eq_true_iff]; omega
        clear ha ha2 hm A hk0 e1
        go_wp2_with fail
        go_quiet ((first | (go_at_call 23; exact RO.quiet (i_ValidTest (hmd.drewN _) (by omega) (hr.drewN _) (by omega))) | (go_at_call 37; exact RO.quiet (l_equalInts (hr2.drewN _) (hr.drewN _) hrl2 hrl))))
        go_wp2
        go_roundw
        case rel => exact ⟨k + 1, by omega, by go_num, hd.drewN _⟩
        case measure => simp [intOf]; omega
    · skip
      have hz := Dr.le hd
      have hm := hm.dr hd
      have A := A.below (Dr.below hd _) (by omega)
      have BB := B5.trans (Dr.below hd _)
      have hself : ((L.length : Int) == (L.length : Int)) = true := by simp
      go_wp2_with fail
      refine (l_product HOK.out hm (by omega) (by omega)).mono ?_
      rintro e v1 ⟨rfl, d1⟩
      rw [← HLEN.out]
      have hy1 := Dr.le d1
      have hm := hm.dr d1
      have A := A.below (Dr.below d1 _) (by omega)
      have BB := BB.trans (Dr.below d1 _)
      go_wp2_with fail
      refine (i_AllPatterns hm (by omega) (by omega) (by omega) (by omega)).mono ?_
      rintro e v2 ⟨Pa, Pc, rfl, P, b2⟩
      rw [HL.out] at P
      rw [HL.out]
      have A := A.below b2 (by omega)
      have BB := BB.trans (b2.mono (by omega))
      go_wp2_with fail
      refine (l_equalLists A.rii P.rii (by omega) (by omega) HGR.out HGR.out).mono ?_
      rintro e v3 ⟨rfl, d3⟩
      rw [heqL]
      go_wp2
      go_ret
      exact ⟨rfl, BB.trans (Dr.below d3 _)⟩

end Go.Proofs.Ytmmebcjebphfcaa
