/- The walk of FnHuntFault: it returns true and writes nothing that was there. -/
import Derived.Test.YtehoagbpgahopaaRc
import Derived.Test.YtehoagbpgahopaaJr
import Derived.Test.YtehoagbpgahopaaJp
import Derived.Test.YtehoagbpgahopaaJq
import Derived.Test.YtehoagbpgahopaaJa
import Derived.Test.YtehoagbpgahopaaWg
import Derived.Test.YtehoagbpgahopaaWs
import Derived.Test.YtehoagbpgahopaaTg
namespace Go.Proofs.Ytehoagbpgahopaa
open Go.RowKit

theorem i_MatchesB' {m p t : List Int} {a a' a'' : Option Addr} {c c' c'' lo hi lo' hi' lo'' hi'' : Nat} {w w' : World} {x : Bool} (hb : Below w.heap.size w w') (hm : RI w lo hi a m) (hlm : m.length ≤ 9223372036854775807) (hp : RI w lo' hi' a' p) (hlp : p.length ≤ 9223372036854775807) (ht : RI w lo'' hi'' a'' t) (hlt : t.length ≤ 9223372036854775807)
    (h1 : hi ≤ w.heap.size) (h2 : hi' ≤ w.heap.size) (h3 : hi'' ≤ w.heap.size) (hx : (okM m && okP m p && okT m t && mB p t) = x) :
    Calls Try.prog 57 #[.slice a m.length c, .slice a' p.length c', .slice a'' t.length c''] w' (fun e v => e = .returned (.bool x) ∧ Below w.heap.size w v) := by
  refine (i_Matches (hm.below hb h1) hlm (hp.below hb h2) hlp (ht.below hb h3) hlt (Nat.le_trans h2 hb.size) (Nat.le_trans h3 hb.size)).mono ?_
  rintro e v ⟨rfl, hv⟩
  exact ⟨by rw [hx], hb.trans (hv.mono hb.size)⟩

set_option maxRecDepth 100000 in
set_option maxHeartbeats 2000000 in
theorem law_FnHuntFault {m0 : Nat} {a0 : Option Addr} {c0 : Nat} {w : World} (f0 : RB w w.heap.size a0 m0) (l0 : m0 ≤ c0) :
    Calls Try.prog 25 #[.slice a0 m0 c0] w (Tru w) := by
  by_cases hb : m0 ≤ 1048576
  case neg =>
    go_enter Try.func25, Try.ntmps25
    go_wp2
    go_ret
    exact ⟨rfl, Below.refl _ _⟩
  go_enter Try.func25, Try.ntmps25
  go_wp2_with fail
  refine (s_DrawHuntFault f0 l0 hb).mono ?_
  rintro e w1 ⟨a1, c1, m, a2, c2, t, rfl, ⟨hG, hT⟩, B1⟩
  have z1 := B1.size
  have hm := hG.ri
  have ht := hT.ri
  have hl10 := hG.lp.1
  have tl11 := hT.lp.1
  have hcap := hG.cap
  have tcap := hT.cap
  clear hG hT
  clear f0
  have HLN := @huL_len m t
  have HGR := Lib.hid (@huL_gr m t).2
  obtain ⟨L, hL⟩ : ∃ L, huL m t = L := ⟨_, rfl⟩
  obtain ⟨z, hZ⟩ : ∃ z, huN m t = z := ⟨_, rfl⟩
  have HL := Lib.hid hL
  have HZ := Lib.hid hZ
  rw [hL] at HLN HGR
  have heqL : eqII L L = true := eqII_true.2 rfl
  have hzz : (z != z) = false := by simp
  have hze : (z == z) = true := by simp
  clear hL hZ
  cases hb : huB m t
  · skip
    have hz1 : z = -1 := by rw [← HZ.out]; exact (hu_no hb).2
    clear hb
    go_wp2_with fail
    refine (i_HuntFault hm (by omega) ht (by omega) (by omega) (by omega)).mono ?_
    rintro e w2 ⟨Aa, Ac, rfl, A, b2⟩
    have z2 := b2.size
    have hm := hm.below b2 (by omega)
    have ht := ht.below b2 (by omega)
    have B2 := B1.trans (b2.mono (by omega))
    clear b2 B1
    rw [HL.out] at A
    rw [HL.out, HZ.out]
    go_wp2_with fail
    refine (s_HuntFault hm (by omega) ht (by omega) (by omega) (by omega)).mono ?_
    rintro e w3 ⟨Sa, Sc, rfl, S, b3⟩
    have z3 := b3.size
    have hm := hm.below b3 (by omega)
    have ht := ht.below b3 (by omega)
    have A := A.below b3 (by omega)
    have B3 := B2.trans (b3.mono (by omega))
    clear b3 B2
    rw [HL.out] at S
    rw [HL.out, HZ.out]
    go_wp2_with fail
    refine (l_equalLists A.rii S.rii (by omega) (by omega) HGR.out HGR.out).mono ?_
    rintro e w4 ⟨rfl, d4⟩
    have b4 := Dr.below d4 w3.heap.size
    have z4 := Dr.le d4
    clear d4
    have hm := hm.below b4 (by omega)
    have ht := ht.below b4 (by omega)
    have A := A.below b4 (by omega)
    have S := S.below b4 (by omega)
    have B4 := B3.trans (b4.mono (by omega))
    clear b4 B3
    rw [heqL]
    go_wp2_with fail
    refine (l_equalLists A.rii S.rii (by omega) (by omega) HGR.out HGR.out).mono ?_
    rintro e w5 ⟨rfl, d5⟩
    have b5 := Dr.below d5 w4.heap.size
    have z5 := Dr.le d5
    clear d5
    have hm := hm.below b5 (by omega)
    have ht := ht.below b5 (by omega)
    have A := A.below b5 (by omega)
    have S := S.below b5 (by omega)
    have B5 := B4.trans (b5.mono (by omega))
    clear b5 B4
    rw [heqL]
    go_wp2
    go_ret
    exact ⟨rfl, B5⟩
  obtain ⟨hF1, hF2, hF3, hF4⟩ := hu_law hb
  rw [HL.out] at hF1 hF2
  rw [HZ.out] at hF3 hF4
  have hb2 := hb
  simp only [huB, Bool.and_eq_true] at hb2
  have HOK := Lib.hid hb2.1
  have HPF := Lib.hid hb2.2
  have hm5 := okM_len HOK.out
  have HLP : Hid (∀ p ∈ L, okP m p = true) := fun p hp => by
    rw [← HL.out] at hp
    exact ((mem_patS HOK.out).1 (huL_mem hp).2).1
  have HLR : Hid (∀ p ∈ L, p.length ≤ 5) := fun p hp => by
    rw [← HL.out] at hp
    have := huL_row p hp; omega
  have HHAS : Hid (hasL L t = true) := hasL_iff.2 hF2
  have HST := Lib.hid (strV_yes HOK.out HPF.out)
  have hsn : strN t ≤ m.length := by have := strN_le t; have := okW_len HPF.out; omega
  have HMM := Lib.hid hF1
  clear hF1 hF2 hb hb2
  obtain ⟨q, hq⟩ : ∃ q, strN t = q := ⟨_, rfl⟩
  rw [hq] at hsn hF4
  have HQ := Lib.hid hq
  clear hq
  have hF5 : z < ((apL m (q : Int)).length : Int) := by rw [ap_yes HOK.out (inR_true.2 (by omega))]; exact hF4
  clear hF4
  obtain ⟨R, hR⟩ : ∃ R, apL m (q : Int) = R := ⟨_, rfl⟩
  rw [hR] at hF5
  have HR := Lib.hid hR
  have hRL := @apL_len m (q : Int)
  rw [hR] at hRL
  clear hR
  have hz0 : decide (z < 0) = false := decide_eq_false (by omega)
  have hz5 : decide (z < (R.length : Int)) = true := decide_eq_true (by omega)
  go_wp2_with fail
  refine (i_HuntFault hm (by omega) ht (by omega) (by omega) (by omega)).mono ?_
  rintro e w2 ⟨Aa, Ac, rfl, A, b2⟩
  have z2 := b2.size
  have hm := hm.below b2 (by omega)
  have ht := ht.below b2 (by omega)
  have B2 := B1.trans (b2.mono (by omega))
  clear b2 B1
  rw [HL.out] at A
  rw [HL.out, HZ.out]
  go_wp2_with fail
  refine (s_HuntFault hm (by omega) ht (by omega) (by omega) (by omega)).mono ?_
  rintro e w3 ⟨Sa, Sc, rfl, S, b3⟩
  have z3 := b3.size
  have hm := hm.below b3 (by omega)
  have ht := ht.below b3 (by omega)
  have A := A.below b3 (by omega)
  have B3 := B2.trans (b3.mono (by omega))
  clear b3 B2
  rw [HL.out] at S
  rw [HL.out, HZ.out]
  go_wp2_with fail
  refine (l_equalLists A.rii S.rii (by omega) (by omega) HGR.out HGR.out).mono ?_
  rintro e w4 ⟨rfl, d4⟩
  have b4 := Dr.below d4 w3.heap.size
  have z4 := Dr.le d4
  clear d4
  have hm := hm.below b4 (by omega)
  have ht := ht.below b4 (by omega)
  have A := A.below b4 (by omega)
  have S := S.below b4 (by omega)
  have B4 := B3.trans (b4.mono (by omega))
  clear b4 B3
  rw [heqL]
  clear S
  have HPN := @apL_len m m.length
  have HPR : Hid (∀ r ∈ apL m m.length, r.length ≤ 5) := fun r hr => by have := apL_row r hr; omega
  obtain ⟨P, hP⟩ : ∃ P, apL m m.length = P := ⟨_, rfl⟩
  have HP := Lib.hid hP
  have HPX : Hid (∀ x ∈ P, okT m x = true) := fun x hx => by
    rw [← hP, ap_full HOK.out] at hx; exact (ext_mem HOK.out).1 hx
  have HMP : Hid (∀ p ∈ L, ∀ x ∈ P, (okM m && okP m p && okT m x && mB p x) = mB t x) := fun p hp x hx => by
    rw [HOK.out, HLP.out p hp, HPX.out x hx]
    rw [← hP, ap_full HOK.out] at hx
    rw [HMM.out p hp x hx]; rfl
  have HMF : Hid (∀ x ∈ P, (okM m && okP m t && okT m x && mB t x) = mB t x) := fun x hx => by
    rw [HOK.out, HPF.out, HPX.out x hx]; rfl
  rw [hP] at HPN HPR
  clear hP
  go_wp2_with fail
  refine (i_AllTests hm (by omega) (by omega)).mono ?_
  rintro e w5 ⟨Qa, Qc, rfl, Q, b5⟩
  have z5 := b5.size
  have hm := hm.below b5 (by omega)
  have ht := ht.below b5 (by omega)
  have A := A.below b5 (by omega)
  have B5 := B4.trans (b5.mono (by omega))
  clear b5 B4
  rw [HP.out] at Q
  rw [HP.out]
  clear heqL hzz hze
  go_wp2
  go_loopw [10, 11] (fun i _ wr => ∃ k : Nat, k ≤ L.length ∧ i = .int .i64 k ∧ Below w5.heap.size w5 wr) (fun i _ _ => L.length - (intOf i).toNat)
  case atStart => exact ⟨0, Nat.zero_le _, rfl, Below.refl _ _⟩
  case round =>
    obtain ⟨k, hk, rfl, hd⟩ := hrel
    have hz := hd.size
    have hm := hm.below hd (by omega)
    have ht := ht.below hd (by omega)
    have A := A.below hd (by omega)
    have Q := Q.below hd (by omega)
    have BB := B5.trans (hd.mono (by omega))
    by_cases hlt : k < L.length
    · skip
      obtain ⟨b1, o1, a3, c3, p, ha, _, hbh, hcell, hp, hx⟩ := A.rii.at hlt
      have hidx := idxII ha hlt Ac
      have hpl := HLR.out p (List.mem_of_getElem? hx.out)
      have HMQ := Lib.hid (HMP.out p (List.mem_of_getElem? hx.out))
      obtain ⟨wo, hwo⟩ : ∃ y : World, y = wr := ⟨_, rfl⟩
      subst hwo
      clear ha
      go_wp2
      go_loopw [11] (fun i wr => ∃ j : Nat, j ≤ P.length ∧ i = .int .i64 j ∧ Below wo.heap.size wo wr) (fun i _ => P.length - (intOf i).toNat)
      case atStart => exact ⟨0, Nat.zero_le _, rfl, Below.refl _ _⟩
      case round =>
        obtain ⟨j, hj, rfl, hd2⟩ := hrel
        have hz2 := hd2.size
        by_cases hlt2 : j < P.length
        · skip
          obtain ⟨b2, o2, a4, c4, x, ha2, _, hbh2, hcell2, hxr, hx2⟩ := (Q.rii.below hd2 (by omega)).at hlt2
          have hidx2 := idxII ha2 hlt2 Qc
          have hxl := HPR.out x (List.mem_of_getElem? hx2.out)
          have hmm := hm.below hd2 (by omega)
          have htt := ht.below hd2 (by omega)
          have hpp := hp.below hd2 (by omega)
          have hcp := (hd2.cell (p := ⟨b1, o1 + k, none⟩) (by show b1 < _; omega)).trans hcell
          obtain ⟨y, hy⟩ : ∃ y, mB t x = y := ⟨_, rfl⟩
          have HM1 : Hid ((okM m && okP m p && okT m x && mB p x) = y) := (HMQ.out x (List.mem_of_getElem? hx2.out)).trans hy
          have HM2 : Hid ((okM m && okP m t && okT m x && mB t x) = y) := (HMF.out x (List.mem_of_getElem? hx2.out)).trans hy
          clear hy
          have HS1 : Hid (∀ w', Below wr.heap.size wr w' → w'.cell? ⟨b1, o1 + k, none⟩ = some (.slice a3 p.length c3)) := fun w' hb => (hb.cell (p := ⟨b1, o1 + k, none⟩) (by show b1 < _; omega)).trans hcp
          have HS2 : Hid (∀ w', Below wr.heap.size wr w' → w'.cell? ⟨b2, o2 + j, none⟩ = some (.slice a4 x.length c4)) := fun w' hb => (hb.cell (p := ⟨b2, o2 + j, none⟩) (by show b2 < _; omega)).trans hcell2
          have HCA : Hid (∀ w', Below wr.heap.size wr w' → Calls Try.prog 57 #[.slice a1 m.length c1, .slice a3 p.length c3, .slice a4 x.length c4] w' (fun e v => e = .returned (.bool y) ∧ Below wr.heap.size wr v)) := fun w' hb => i_MatchesB' hb hmm (by omega) hpp (by omega) hxr (by omega) (by omega) (by omega) (by omega) HM1.out
          have HCP : Hid (∀ w', Below wr.heap.size wr w' → Calls Try.prog 57 #[.slice a1 m.length c1, .slice a2 t.length c2, .slice a4 x.length c4] w' (fun e v => e = .returned (.bool y) ∧ Below wr.heap.size wr v)) := fun w' hb => i_MatchesB' hb hmm (by omega) htt (by omega) hxr (by omega) (by omega) (by omega) (by omega) HM2.out
          clear hcell2 hcp hpp hxr hmm htt hx2 ha2 HM1 HM2
          cases y
          all_goals
            go_wp2_with fail
            refine wp_region_new (by rfl) (by kernel_rfl) ?_
            (refine wpQuiet_step (fun K hK => ?_); go_simp; first | refine hK _ ?_ | refine ⟨_, fun _ _ => rfl, hK _ ?_⟩; clear hK K)
            (refine wpQuiet_step (fun K hK => ?_); go_simp; first | refine hK _ ?_ | refine ⟨_, fun _ _ => rfl, hK _ ?_⟩; clear hK K)
            (refine wpQuiet_step (fun K hK => ?_); go_simp; first | refine hK _ ?_ | refine ⟨_, fun _ _ => rfl, hK _ ?_⟩; clear hK K)
            (refine wpQuiet_step (fun K hK => ?_); go_simp; first | refine hK _ ?_ | refine ⟨_, fun _ _ => rfl, hK _ ?_⟩; clear hK K)
            (refine wpQuiet_step (fun K hK => ?_); go_simp; refine ⟨.slice a3 p.length c3, fun wq hq => ?_, hK _ ?_⟩; (have hc := HS1.out wq hq; simp [hc, Result.andThen]); clear hK K)
            (refine wpQuiet_step (fun K hK => ?_); go_simp; first | refine hK _ ?_ | refine ⟨_, fun _ _ => rfl, hK _ ?_⟩; clear hK K)
            (refine wpQuiet_step (fun K hK => ?_); go_simp; first | refine hK _ ?_ | refine ⟨_, fun _ _ => rfl, hK _ ?_⟩; clear hK K)
            (refine wpQuiet_step (fun K hK => ?_); go_simp; first | refine hK _ ?_ | refine ⟨_, fun _ _ => rfl, hK _ ?_⟩; clear hK K)
            (refine wpQuiet_step (fun K hK => ?_); go_simp; refine ⟨.slice a4 x.length c4, fun wq hq => ?_, hK _ ?_⟩; (have hc := HS2.out wq hq; simp [hc, Result.andThen]); clear hK K)
            (first | (refine wpQuiet_step (fun K hK => ?_); go_simp; refine ⟨.bool false, fun wq hq => (HCA.out wq hq).mono ?_, hK _ ?_⟩; (rintro e v ⟨rfl, hv⟩; exact ⟨rfl, hv⟩); clear hK K) | (refine wpQuiet_step (fun K hK => ?_); go_simp; refine ⟨.bool true, fun wq hq => (HCA.out wq hq).mono ?_, hK _ ?_⟩; (rintro e v ⟨rfl, hv⟩; exact ⟨rfl, hv⟩); clear hK K))
            (refine wpQuiet_step (fun K hK => ?_); go_simp; first | refine hK _ ?_ | refine ⟨_, fun _ _ => rfl, hK _ ?_⟩; clear hK K)
            (refine wpQuiet_step (fun K hK => ?_); go_simp; first | refine hK _ ?_ | refine ⟨_, fun _ _ => rfl, hK _ ?_⟩; clear hK K)
            (refine wpQuiet_step (fun K hK => ?_); go_simp; first | refine hK _ ?_ | refine ⟨_, fun _ _ => rfl, hK _ ?_⟩; clear hK K)
            (refine wpQuiet_step (fun K hK => ?_); go_simp; first | refine hK _ ?_ | refine ⟨_, fun _ _ => rfl, hK _ ?_⟩; clear hK K)
            (refine wpQuiet_step (fun K hK => ?_); go_simp; first | refine hK _ ?_ | refine ⟨_, fun _ _ => rfl, hK _ ?_⟩; clear hK K)
            (refine wpQuiet_step (fun K hK => ?_); go_simp; refine ⟨.slice a4 x.length c4, fun wq hq => ?_, hK _ ?_⟩; (have hc := HS2.out wq hq; simp [hc, Result.andThen]); clear hK K)
            (first | (refine wpQuiet_step (fun K hK => ?_); go_simp; refine ⟨.bool false, fun wq hq => (HCP.out wq hq).mono ?_, hK _ ?_⟩; (rintro e v ⟨rfl, hv⟩; exact ⟨rfl, hv⟩); clear hK K) | (refine wpQuiet_step (fun K hK => ?_); go_simp; refine ⟨.bool true, fun wq hq => (HCP.out wq hq).mono ?_, hK _ ?_⟩; (rintro e v ⟨rfl, hv⟩; exact ⟨rfl, hv⟩); clear hK K))
            (refine wpQuiet_step (fun K hK => ?_); go_simp; first | refine hK _ ?_ | refine ⟨_, fun _ _ => rfl, hK _ ?_⟩; clear hK K)
            refine wpQuiet_nil ?_
            intro wz hbz
            have hd3 := hd2.trans (hbz.mono (by omega))
            go_wp2
            go_roundw
            case rel => exact ⟨j + 1, by omega, by go_num, hd3⟩
            case measure => simp [intOf]; omega
        · skip
          have hd3 := hd.trans (hd2.mono (by omega))
          go_wp2
          go_roundw
          case rel => exact ⟨k + 1, by omega, by go_num, hd3⟩
          case measure => simp [intOf]; omega
    · skip
      go_wp2_with fail
      refine (l_holdsList A.rii ht (by omega) (by omega) HGR.out).mono ?_
      rintro e v1 ⟨rfl, d1⟩
      rw [HHAS.out]
      have hzz1 := (Dr.le d1).2
      have hm := hm.below (Dr.below d1 wr.heap.size) (by omega)
      have ht := ht.below (Dr.below d1 wr.heap.size) (by omega)
      have BB := BB.trans (Dr.below d1 _)
      go_wp2_with fail
      refine (i_StrengthOf hm (by omega) ht (by omega)).mono ?_
      rintro e v2 ⟨rfl, d2⟩
      rw [HST.out, HQ.out]
      have hzz2 := (Dr.le d2).2
      have hm := hm.below (Dr.below d2 v1.heap.size) (by omega)
      have BB := BB.trans (Dr.below d2 _)
      go_wp2_with fail
      refine (i_AllPatterns hm (by omega) (by omega) (by omega) (by omega)).mono ?_
      rintro e v3 ⟨Ra, Rc, rfl, R3, b3⟩
      rw [HR.out]
      have BB := BB.trans (b3.mono (by omega))
      go_wp2
      go_ret
      exact ⟨rfl, BB⟩

end Go.Proofs.Ytehoagbpgahopaa
