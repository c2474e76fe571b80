/- The walk of FnAllowedTests: it returns true and writes nothing that was there. -/
import Derived.Test.YtekkhadlchfjnaaRo
import Derived.Test.YtekkhadlchfjnaaRi
import Derived.Test.YtekkhadlchfjnaaVt
import Derived.Test.YtekkhadlchfjnaaZj
import Derived.Test.YtekkhadlchfjnaaVh
import Derived.Test.YtekkhadlchfjnaaWs
import Derived.Test.YtekkhadlchfjnaaYi
namespace Go.Proofs.Ytekkhadlchfjnaa
open Go.RowKit

theorem at_facts {m : List Int} {s : List (List Int)} (hm : okM m = true) (hb : okBn m s = true) : (∀ r ∈ apL m m.length, hasL (atL m s) r = !bnB s r) ∧ (∀ r ∈ apL m m.length, ∀ q ∈ s, (okM m && okP m q && okT m r && mB q r) = mB q r) ∧ ∀ k, amgL (atL m s) (atL m (s.take k)) = true := by
  refine ⟨fun r hr => ?_, fun r hr q hq => ?_, fun k => ?_⟩
  · rw [ap_full hm] at hr
    rw [Bool.eq_iff_iff, hasL_iff, at_yes hm hb]
    unfold alL
    rw [List.mem_filter]
    exact ⟨fun h => h.2, fun h => ⟨hr, h⟩⟩
  · rw [ap_full hm] at hr
    rw [hm, okBn_all hb hq, (ext_mem hm).1 hr]; rfl
  · have hbk : okBn m (s.take k) = true := by
      have h1 := okBn_len hb
      unfold okBn
      rw [Bool.and_eq_true, List.all_eq_true, decide_eq_true_eq]
      exact ⟨fun r hr => okBn_all hb (List.mem_of_mem_take hr), by simp; omega⟩
    rw [amgL_iff, at_yes hm hb, at_yes hm hbk]
    intro x hx
    unfold alL at hx ⊢
    rw [List.mem_filter] at hx ⊢
    refine ⟨hx.1, ?_⟩
    have h2 := hx.2
    unfold bnB at h2 ⊢
    rw [Bool.not_eq_true', List.any_eq_false] at h2 ⊢
    exact fun q hq => h2 q (List.mem_of_mem_take hq)

set_option maxRecDepth 100000 in
set_option maxHeartbeats 2000000 in
theorem law_FnAllowedTests {m0 : Nat} {a0 : Option Addr} {c0 : Nat} {w : World} (f0 : RB w w.heap.size a0 m0) (l0 : m0 ≤ c0) :
    Calls Try.prog 3 #[.slice a0 m0 c0] w (Tru w) := by
  by_cases hb : m0 ≤ 1048576
  case neg =>
    go_enter Try.func3, Try.ntmps3
    go_wp2
    go_ret
    exact ⟨rfl, Below.refl _ _⟩
  go_enter Try.func3, Try.ntmps3
  go_wp2_with fail
  refine (s_DrawAllowedTests f0 l0 hb).mono ?_
  rintro e w1 ⟨a1, c1, m, a2, c2, s, rfl, ⟨hG, hS⟩, B1⟩
  have z1 := B1.size
  have hm := hG.ri
  have hs := hS.ric
  have hl10 := hG.lp.1
  have hsl := hS.sq.1
  have scap := hS.ric.cap
  have HSR : Hid (∀ r ∈ s, r.length ≤ 12) := fun r h => (hS.sq.2 r h).1
  have HSG : Hid (∀ r ∈ s, r.length ≤ 9223372036854775807) := fun r h => by have := (hS.sq.2 r h).1; omega
  have hcap := hG.cap
  clear hG hS
  clear f0
  obtain ⟨L, hL⟩ : ∃ L, atL m s = L := ⟨_, rfl⟩
  have HL := Lib.hid hL
  have HLN := @atL_len m s
  have HGR := Lib.hid (@atL_gr m s).2
  have HRW := Lib.hid (@atL_row m s)
  rw [hL] at HLN HGR HRW
  have heqL : eqII L L = true := eqII_true.2 rfl
  clear hL
  cases hok : (okM m && okBn m s)
  · skip
    have HV := Lib.hid hok; clear hok
    go_wp2_with fail
    refine (i_AllowedTests hm (by omega) hs.rii (by omega) HSG.out (by omega) (by omega)).mono ?_
    rintro e w2 ⟨Aa, Ac, rfl, A, b2⟩
    have z2 := b2.size
    have hm := hm.below b2 (by omega)
    have hs := hs.below b2 (by omega)
    have B2 := B1.trans (b2.mono (by omega))
    clear b2 B1
    rw [HL.out] at A ⊢
    go_wp2_with fail
    refine (s_AllowedTests hm (by omega) hs.rii (by omega) HSG.out (by omega) (by omega)).mono ?_
    rintro e w3 ⟨Sa, Sc, rfl, S, b3⟩
    have z3 := b3.size
    have hm := hm.below b3 (by omega)
    have hs := hs.below b3 (by omega)
    have A := A.below b3 (by omega)
    have B3 := B2.trans (b3.mono (by omega))
    clear b3 B2
    rw [HL.out] at S ⊢
    go_wp2_with fail
    refine (l_equalLists A.rii S.rii (by omega) (by omega) HGR.out HGR.out).mono ?_
    rintro e w4 ⟨rfl, d4⟩
    have b4 := Dr.below d4 w3.heap.size
    have z4 := Dr.le d4
    clear d4
    have hm := hm.below b4 (by omega)
    have hs := hs.below b4 (by omega)
    have A := A.below b4 (by omega)
    have S := S.below b4 (by omega)
    have B4 := B3.trans (b4.mono (by omega))
    clear b4 B3
    rw [heqL]
    go_wp2_with fail
    refine (i_ValidBans hm (by omega) hs.rii (by omega) HSG.out).mono ?_
    rintro e w5 ⟨rfl, d5⟩
    have b5 := Dr.below d5 w4.heap.size
    have z5 := Dr.le d5
    clear d5
    have hm := hm.below b5 (by omega)
    have hs := hs.below b5 (by omega)
    have A := A.below b5 (by omega)
    have B5 := B4.trans (b5.mono (by omega))
    clear b5 B4
    rw [HV.out]
    go_wp2_with fail
    refine (s_AllowedTests hm (by omega) hs.rii (by omega) HSG.out (by omega) (by omega)).mono ?_
    rintro e w6 ⟨Ua, Uc, rfl, U, b6⟩
    have z6 := b6.size
    have hm := hm.below b6 (by omega)
    have hs := hs.below b6 (by omega)
    have A := A.below b6 (by omega)
    have B6 := B5.trans (b6.mono (by omega))
    clear b6 B5
    rw [HL.out] at U ⊢
    go_wp2_with fail
    refine (l_equalLists A.rii U.rii (by omega) (by omega) HGR.out HGR.out).mono ?_
    rintro e w7 ⟨rfl, d7⟩
    have b7 := Dr.below d7 w6.heap.size
    have z7 := Dr.le d7
    clear d7
    have hm := hm.below b7 (by omega)
    have hs := hs.below b7 (by omega)
    have A := A.below b7 (by omega)
    have U := U.below b7 (by omega)
    have B7 := B6.trans (b7.mono (by omega))
    clear b7 B6
    rw [heqL]
    go_wp2
    go_ret
    exact ⟨rfl, B7⟩
  have HV := Lib.hid hok
  have HOK : Hid (okM m = true) := by show _ = _; rw [Bool.and_eq_true] at hok; exact hok.1
  have HOB : Hid (okBn m s = true) := by show _ = _; rw [Bool.and_eq_true] at hok; exact hok.2
  clear hok
  have hF := at_facts HOK.out HOB.out
  have HAM := Lib.hid (hF.2.2 (s.length - 1))
  rw [HL.out] at hF HAM
  have HHS := Lib.hid hF.1; have HMT := Lib.hid hF.2.1
  have hsl5 := okBn_len HOB.out
  clear hF
  have HQL := @apL_len m m.length
  have HQG := Lib.hid (@apL_row m m.length)
  go_wp2_with fail
  refine (i_AllowedTests hm (by omega) hs.rii (by omega) HSG.out (by omega) (by omega)).mono ?_
  rintro e w2 ⟨Aa, Ac, rfl, A, b2⟩
  have z2 := b2.size
  have hm := hm.below b2 (by omega)
  have hs := hs.below b2 (by omega)
  have B2 := B1.trans (b2.mono (by omega))
  clear b2 B1
  rw [HL.out] at A ⊢
  go_wp2_with fail
  refine (s_AllowedTests hm (by omega) hs.rii (by omega) HSG.out (by omega) (by omega)).mono ?_
  rintro e w3 ⟨Sa, Sc, rfl, S, b3⟩
  have z3 := b3.size
  have hm := hm.below b3 (by omega)
  have hs := hs.below b3 (by omega)
  have A := A.below b3 (by omega)
  have B3 := B2.trans (b3.mono (by omega))
  clear b3 B2
  rw [HL.out] at S ⊢
  go_wp2_with fail
  refine (l_equalLists A.rii S.rii (by omega) (by omega) HGR.out HGR.out).mono ?_
  rintro e w4 ⟨rfl, d4⟩
  have b4 := Dr.below d4 w3.heap.size
  have z4 := Dr.le d4
  clear d4
  have hm := hm.below b4 (by omega)
  have hs := hs.below b4 (by omega)
  have A := A.below b4 (by omega)
  have S := S.below b4 (by omega)
  have B4 := B3.trans (b4.mono (by omega))
  clear b4 B3
  rw [heqL]
  go_wp2_with fail
  refine (i_ValidBans hm (by omega) hs.rii (by omega) HSG.out).mono ?_
  rintro e w5 ⟨rfl, d5⟩
  have b5 := Dr.below d5 w4.heap.size
  have z5 := Dr.le d5
  clear d5
  have hm := hm.below b5 (by omega)
  have hs := hs.below b5 (by omega)
  have A := A.below b5 (by omega)
  have B5 := B4.trans (b5.mono (by omega))
  clear b5 B4
  rw [HV.out]
  go_wp2_with fail
  refine (i_AllTests hm (by omega) (by omega)).mono ?_
  rintro e w6 ⟨Qa, Qc, rfl, Q, b6⟩
  have z6 := b6.size
  have hm := hm.below b6 (by omega)
  have hs := hs.below b6 (by omega)
  have A := A.below b6 (by omega)
  have B6 := B5.trans (b6.mono (by omega))
  clear b6 B5
  obtain ⟨P, hP⟩ : ∃ P, apL m m.length = P := ⟨_, rfl⟩
  rw [hP] at Q HQL HQG HHS HMT ⊢
  clear hP S
  go_wp2
  go_loopw [7] (fun i wr => ∃ k : Nat, k ≤ P.length ∧ i = .int .i64 k ∧ Below w6.heap.size w6 wr) (fun i _ => P.length - (intOf i).toNat)
  case atStart => exact ⟨0, Nat.zero_le _, rfl, Below.refl _ _⟩
  case round =>
    obtain ⟨k, hk, rfl, hd⟩ := hrel
    obtain ⟨wo, rfl⟩ : ∃ x : World, x = wr := ⟨_, rfl⟩
    have hz := hd.size
    have hm := hm.below hd (by omega)
    have hs := hs.below hd (by omega)
    have A := A.below hd (by omega)
    have BB := B6.trans (hd.mono (by omega))
    by_cases hlt : k < P.length
    · skip
      obtain ⟨b, o, a3, c3, r, ha, _, hbh, hcell, hr, hx⟩ := (Q.rii.below hd (by omega)).at hlt
      have hidx := idxII ha hlt Qc
      have hrl : r.length ≤ 5 := by have := HQG.out r (List.mem_of_getElem? hx.out); omega
      have HHR : Hid (hasL L r = !bnB s r) := HHS.out r (List.mem_of_getElem? hx.out)
      have HMR : Hid (∀ q ∈ s, (okM m && okP m q && okT m r && mB q r) = mB q r) := HMT.out r (List.mem_of_getElem? hx.out)
      clear ha Q
      go_wp2
      go_loopw [8, 9] (fun tv jv wr => ∃ j : Nat, j ≤ s.length ∧ jv = .int .i64 j ∧ tv = .bool (bnB (s.take j) r) ∧ Below wo.heap.size wo wr) (fun _ jv _ => s.length - (intOf jv).toNat)
      case atStart => exact ⟨0, Nat.zero_le _, rfl, by simp [bnB], Below.refl _ _⟩
      case round =>
        obtain ⟨j, hj, rfl, rfl, hd2⟩ := hrel
        have hz2 := hd2.size
        have hcellr : wr.cell? ⟨b, o + k, none⟩ = some (.slice a3 r.length c3) := (hd2.cell (p := ⟨b, o + k, none⟩) (by show b < _; omega)).trans hcell
        have hr := hr.below hd2 (by omega)
        have hm := hm.below hd2 (by omega)
        have hs := hs.below hd2 (by omega)
        by_cases hjl : j < s.length
        · skip
          obtain ⟨b6, o6, a6, c6, q, ha6, _, hbh6, hcell6, hq6, hx6⟩ := hs.rii.at hjl
          have hidx6 := idxII ha6 hjl c2
          have hql := HSR.out q (List.mem_of_getElem? hx6.out)
          have HNX : Hid (bnB (s.take (j + 1)) r = (bnB (s.take j) r || mB q r)) := by
            show _ = _; unfold bnB; rw [take_snoc hx6.out, List.any_append]; simp
          obtain ⟨dd, hdd⟩ : ∃ dd, mB q r = dd := ⟨_, rfl⟩
          have HDD := Lib.hid hdd
          have HC : Hid (∀ w', Below wr.heap.size wr w' → Calls Try.prog 23 #[.slice a1 m.length c1, .slice a6 q.length c6, .slice a3 r.length c3] w' (NewV w' (.bool dd))) := fun w' hb => by
            have h := i_Matches (c := c1) (c' := c6) (c'' := c3) (hm.below hb (by omega)) (by omega) (hq6.below hb (by omega)) (by omega) (hr.below hb (by omega)) (by omega) (by have := hb.size; omega) (by have := hb.size; omega)
            rw [HMR.out q (List.mem_of_getElem? hx6.out), hdd] at h; exact h
          have HS : Hid (∀ w', Below wr.heap.size wr w' → w'.cell? ⟨b, o + k, none⟩ = some (.slice a3 r.length c3) ∧ w'.cell? ⟨b6, o6 + j, none⟩ = some (.slice a6 q.length c6)) := fun w' hb => ⟨(hb.cell (p := ⟨b, o + k, none⟩) (by show b < _; omega)).trans hcellr, (hb.cell (p := ⟨b6, o6 + j, none⟩) (by show b6 < _; omega)).trans hcell6⟩
          clear ha6 hcell hdd hs hr hm hq6
          have hq1 : Below wr.heap.size wr wr := Below.refl _ _
          cases hb : bnB (s.take j) r
          · skip
            have HB := Lib.hid hb; clear hb
            have HT : Hid (bnB (s.take (j + 1)) r = dd) := by show _ = _; rw [HNX.out, HB.out, HDD.out]; rfl
            go_wp2_with fail
            go_region_held3 (fun w' => w'.cell? ⟨b, o + k, none⟩ = some (.slice a3 r.length c3) ∧ w'.cell? ⟨b6, o6 + j, none⟩ = some (.slice a6 q.length c6)) (first | exact HS.out _ (by first | exact hq5 | exact hq1.drew | exact hq1) | go_keep) ((go_at_call 23; refine (HC.out _ (by first | exact hq1.drew | exact hq1)).mono ?_; rintro e v5 ⟨rfl, hb5⟩; have hq5 : Below wr.heap.size wr v5 := (by first | exact hq1.drew.trans hb5 | exact hq1.trans hb5)))
            all_goals
              have hd5 := hd2.trans (hq5.mono (by omega))
              go_wp2
              go_roundw
              case rel => exact ⟨j + 1, by omega, by go_num, by rw [HT.out], hd5⟩
              case measure => simp [intOf]; omega
          · skip
            have HB := Lib.hid hb; clear hb
            have HT : Hid (bnB (s.take (j + 1)) r = true) := by show _ = _; rw [HNX.out, HB.out]; rfl
            go_wp2_with fail
            go_quiet (fail)
            go_wp2
            go_roundw
            case rel => exact ⟨j + 1, by omega, by go_num, by rw [HT.out], hd2.trans (Dr.below (Dr.drewN (Dr.refl _) _) _)⟩
            case measure => simp [intOf]; omega
        · skip
          have HTK : Hid (s.take j = s) := List.take_of_length_le (by omega)
          rw [HTK.out]
          obtain ⟨T, hT⟩ : ∃ T, bnB s r = T := ⟨_, rfl⟩
          rw [hT]
          have HT := Lib.hid hT
          have A := A.below hd2 (by omega)
          have hne : ((!T) == T) = false := by cases T <;> rfl
          clear hT
          go_wp2_with fail
          refine (l_holdsList A.rii hr (by omega) (by omega) HGR.out).mono ?_
          rintro e v6 ⟨rfl, d6⟩
          rw [HHR.out, HT.out]
          have hd6 := (hd.trans (hd2.mono (by omega))).trans (Dr.below d6 _)
          cases T
          all_goals
            go_wp2
            go_roundw
            case rel => exact ⟨k + 1, by omega, by go_num, hd6⟩
            case measure => simp [intOf]; omega
    · skip
      by_cases hn0 : 0 < s.length
      case neg =>
        have hz0 : ((s.length : Int) == 0) = true := by rw [beq_iff_eq]; omega
        go_wp2
        go_ret
        exact ⟨rfl, BB⟩
      have hz0 : ((s.length : Int) == 0) = false := by rw [beq_eq_false_iff_ne]; omega
      obtain ⟨b, o, ha⟩ := hs.some hn0
      subst ha
      have hst := hs.rii.takeR (s.length - 1)
      have hlt2 : (s.take (s.length - 1)).length = s.length - 1 := by simp
      have HSG2 : Hid (∀ r ∈ s.take (s.length - 1), r.length ≤ 9223372036854775807) := fun r hr => HSG.out r (List.mem_of_mem_take hr)
      obtain ⟨q, hq⟩ : ∃ x, s.take (s.length - 1) = x := ⟨_, rfl⟩
      rw [hq] at hst hlt2 HSG2 HAM
      have hsl2 := fun wx => sliceToII (b := b) (o := o) (n := s.length) (c := c2) (k := q.length) (z := (s.length : Int) - 1) (by omega) (by omega) wx
      have hlt3 : q.length ≤ 24 := by omega
      have HGQ := Lib.hid (@atL_gr m q).2
      have HLQ := @atL_len m q
      clear hlt2 hq
      go_wp2_with fail
      refine (i_AllowedTests hm (by omega) hst (by omega) HSG2.out (by omega) (by omega)).mono ?_
      rintro e v2 ⟨Qa, Qc, rfl, Q, b2⟩
      have A := A.below b2 (by omega)
      have BB := BB.trans (b2.mono (by omega))
      have hz2 := b2.size
      go_wp2_with fail
      refine (l_among A.rii Q.rii (by omega) (by omega) HGR.out HGQ.out).mono ?_
      rintro e v3 ⟨rfl, d3⟩
      rw [HAM.out]
      go_wp2
      go_ret
      exact ⟨rfl, BB.trans (Dr.below d3 _)⟩

end Go.Proofs.Ytekkhadlchfjnaa
