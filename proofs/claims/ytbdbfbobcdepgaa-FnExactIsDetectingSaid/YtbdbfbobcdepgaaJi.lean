/- Walks: IsDetecting, by both sides. -/
import Derived.Test.YtbdbfbobcdepgaaJh
import Derived.Test.YtbdbfbobcdepgaaVq
namespace Go.Proofs.Ytbdbfbobcdepgaa
open Go.RowKit

theorem id_no {m : List Int} {s : List (List Int)} {t : Int} (h : okC m s t = false) : idB m s t = false := by unfold idB; rw [h]; rfl
theorem id_yes {m : List Int} {s : List (List Int)} {t : Int} (h : okC m s t = true) : idB m s t = idP m s t := by unfold idB; rw [h]; rfl
theorem row_lt {s : List (List Int)} (h : s.length ≤ 60) (p : List Int) : bitN (rowB s p) < 2 ^ 64 := by
  have h1 := bitN_lt (rowB s p)
  have h2 : (rowB s p).length ≤ 60 := by simp [rowB]; exact h
  exact Nat.lt_of_lt_of_le h1 (Nat.pow_le_pow_right (by decide) (by omega))
theorem ap_not {s : List (List Int)} {p q : List Int} (h : s.length ≤ 60) : (bits BinOp.andNot IntKind.u64 (bitN (rowB s p) : Nat) (bitN (rowB s q) : Nat) == 0) = !apB s p q := by
  rw [Bool.eq_iff_iff, beq_iff_eq, bits_not (row_lt h p) (row_lt h q), Bool.not_eq_true', ← Bool.not_eq_true, ap_bits]
  constructor
  · rintro h1 ⟨k, h2, h3⟩; rw [h1 k h2] at h3; cases h3
  · intro h1 k h2
    cases h3 : (bitN (rowB s q)).testBit k
    · exact absurd ⟨k, h2, h3⟩ h1
    · rfl

set_option maxRecDepth 100000 in
set_option maxHeartbeats 4000000 in
theorem i_IsDetecting {m : List Int} {s : List (List Int)} {a a' : Option Addr} {c c' lo hi lo' hi' : Nat} {w : World} {t : Int} (hm : RI w lo hi a m) (hlm : m.length ≤ 9223372036854775807) (hs : RII w lo' hi' a' s) (hls : s.length ≤ 9223372036854775807) (hg : ∀ r ∈ s, r.length ≤ 9223372036854775807) (_ht0 : -9223372036854775808 ≤ t) (_ht1 : t ≤ 9223372036854775807) (hB : hi ≤ w.heap.size) (hB' : hi' ≤ w.heap.size) :
    Calls Try.prog 50 #[.slice a m.length c, .slice a' s.length c', .int .i64 t] w (NewV w (.bool (idB m s t))) := by
  have HG := Lib.hid hg; clear hg
  cases hc : okC m s t
  · have HE : Hid (idB m s t = false) := id_no hc
    have HC := Lib.hid hc; clear hc
    go_enter Try.func50, Try.ntmps50
    go_wp2_with fail
    refine (i_canCover hm hlm hs hls HG.out).mono ?_
    rintro e w1 ⟨rfl, hd⟩
    rw [HC.out]
    go_wp2
    go_ret
    exact ⟨by rw [HE.out]; rfl, Dr.below hd _⟩
  have HE : Hid (idB m s t = idP m s t) := id_yes hc
  have hp := okC_parts hc
  have HR := Lib.hid hp.2.2.2
  have hsl := hp.2.2.1
  have ht := hp.2.1
  have HOK := Lib.hid hp.1
  have HC := Lib.hid hc; clear hc hp
  have HPL := Lib.hid (patS_len (head := []) HOK.out t)
  go_enter Try.func50, Try.ntmps50
  go_wp2_with fail
  refine (i_canCover hm hlm hs hls HG.out).mono ?_
  rintro e w1 ⟨rfl, hd⟩
  rw [HC.out]
  have hd : Dr w w1 := hd
  have hz1 := Dr.le hd
  go_wp2_with fail
  refine (i_indicesOf HOK.out (hm.dr hd) (by omega) (hs.dr hd) (by omega) (by omega) HR.out ht.1 ht.2).mono ?_
  rintro e w2 ⟨v2, rfl, ho2, hb2⟩
  obtain ⟨av, cv, hv2, hat⟩ := ho2.at
  subst hv2
  have HAT := Lib.hid hat
  have hz2 := hb2.size
  have hbf : Below w.heap.size w w2 := (Dr.below hd _).trans (hb2.mono (by omega))
  obtain ⟨ps, hps⟩ : ∃ ps, patS m [] t = ps := ⟨_, rfl⟩
  have HPS := Lib.hid hps
  rw [hps] at HAT HPL ⊢
  obtain ⟨N, hN⟩ : ∃ N, ps.length = N := ⟨_, rfl⟩
  have HN := Lib.hid hN
  have hNl : N ≤ 1024 := by have := HPL.out; omega
  rw [hN] at HAT ⊢
  clear hN hps hat ho2 hm hs hd hb2
  go_wp2
  go_loopw [23] (fun i wr => ∃ k : Nat, k ≤ N ∧ i = .int .i64 k ∧ Hid (∀ (i j : Nat) (p q : List Int), i < k → ps[i]? = some p → ps[j]? = some q → i ≠ j → apB s p q = true) ∧ Dr w2 wr) (fun i _ => N - (intOf i).toNat)
  case atStart => exact ⟨0, Nat.zero_le _, rfl, fun i j p q h => absurd h (by omega), Dr.refl _⟩
  case round =>
    obtain ⟨k, hk, rfl, HI, hd⟩ := hrel
    by_cases hlt : k < N
    · obtain ⟨p, hx⟩ := at_of_lt (show k < ps.length by have := HN.out; omega)
      obtain ⟨g, hg1, hg2, hidx, hc⟩ := HAT.out k _ (ixV_at hx)
      have hc1 : wr.cell? ⟨g, k, none⟩ = some (.int .u64 (bitN (rowB s p) : Nat)) := ((Dr.below hd w2.heap.size).cell (p := ⟨g, k, none⟩) hg2).trans hc
      have HX := Lib.hid hx
      obtain ⟨X1, hX1⟩ : ∃ X : Nat, bitN (rowB s p) = X := ⟨_, rfl⟩
      have HX1 := Lib.hid hX1
      rw [hX1] at hc1
      clear hX1
      obtain ⟨wo, hwo⟩ : ∃ wo, wo = wr := ⟨_, rfl⟩
      subst hwo
      clear hx hc
      go_wp2
      go_loopw [30] (fun j wr => ∃ y : Nat, y ≤ N ∧ j = .int .i64 y ∧ Hid (∀ (j : Nat) (q : List Int), j < y → ps[j]? = some q → k ≠ j → apB s p q = true) ∧ Dr wo wr) (fun j _ => N - (intOf j).toNat)
      case atStart => exact ⟨0, Nat.zero_le _, rfl, fun j q h => absurd h (by omega), Dr.refl _⟩
      case round =>
        obtain ⟨y, hy, rfl, HJ, hd2⟩ := hrel
        have D2 := Dr.trans hd hd2
        clear hidx hc1
        by_cases hyN : y < N
        · obtain ⟨q, hxq⟩ := at_of_lt (show y < ps.length by have := HN.out; omega)
          obtain ⟨g2, hg3, hg4, hidx2, hcq⟩ := HAT.out y _ (ixV_at hxq)
          have hc2 : wr.cell? ⟨g2, y, none⟩ = some (.int .u64 (bitN (rowB s q) : Nat)) := ((Dr.below D2 w2.heap.size).cell (p := ⟨g2, y, none⟩) hg4).trans hcq
          have hapn := ap_not (p := p) (q := q) (show s.length ≤ 60 by omega)
          rw [HX1.out] at hapn
          have HJ2 : Hid ((k ≠ y → apB s p q = true) → ∀ (j : Nat) (q : List Int), j < y + 1 → ps[j]? = some q → k ≠ j → apB s p q = true) := by
            show _ → ∀ (j : Nat), _
            intro h j q' hj e1 hkj
            by_cases hjy : j = y
            · subst hjy; rw [hxq] at e1; cases e1; exact h hkj
            · exact HJ.out j q' (by omega) e1 hkj
          have HBAD : Hid (k ≠ y → apB s p q = false → idB m s t = false) := by
            show _ → _ → _
            intro h1 h2
            rw [HE.out]
            cases hb : idP m s t
            · rfl
            · have := idP_iff.1 hb k y p q (by rw [HPS.out]; exact HX.out) (by rw [HPS.out]; exact hxq) h1
              rw [h2] at this; cases this
          clear hxq hcq
          by_cases hky : k = y
          · subst hky
            have HJ3 := Lib.hid (HJ2.out fun h => absurd rfl h)
            clear hapn
            go_wp2
            go_roundw
            case rel => exact ⟨k + 1, by omega, by go_num, HJ3, hd2⟩
            case measure => simp [intOf]; omega
          · have hkyb : ((k : Int) != (y : Int)) = true := by rw [bne_iff_ne]; omega
            cases hap : apB s p q
            · have HB2 := Lib.hid (HBAD.out hky hap)
              rw [hap] at hapn
              obtain ⟨X2, hX2⟩ : ∃ X : Nat, bitN (rowB s q) = X := ⟨_, rfl⟩
              rw [hX2] at hapn hc2
              clear hX2 hap
              have hapn : (bits BinOp.andNot IntKind.u64 (X1 : Int) (X2 : Int) == 0) = true := hapn
              go_wp2
              go_ret
              exact ⟨by rw [HB2.out]; rfl, hbf.trans (Dr.below D2 _)⟩
            · have HJ3 := Lib.hid (HJ2.out fun _ => hap)
              rw [hap] at hapn
              obtain ⟨X2, hX2⟩ : ∃ X : Nat, bitN (rowB s q) = X := ⟨_, rfl⟩
              rw [hX2] at hapn hc2
              clear hX2 hap
              have hapn : (bits BinOp.andNot IntKind.u64 (X1 : Int) (X2 : Int) == 0) = false := hapn
              go_wp2
              go_roundw
              case rel => exact ⟨y + 1, by omega, by go_num, HJ3, hd2⟩
              case measure => simp [intOf]; omega
        · have HI2 : Hid (∀ (i j : Nat) (p q : List Int), i < k + 1 → ps[i]? = some p → ps[j]? = some q → i ≠ j → apB s p q = true) := by
            show ∀ (i j : Nat), _
            intro i j p' q' hi e1 e2 hij
            by_cases hik : i = k
            · subst hik
              rw [HX.out] at e1; cases e1
              exact HJ.out j q' (by have := lt_of_at e2; have := HN.out; omega) e2 hij
            · exact HI.out i j p' q' (by omega) e1 e2 hij
          clear HI HJ
          go_wp2
          go_roundw
          case rel => exact ⟨k + 1, by omega, by go_num, HI2, D2⟩
          case measure => simp [intOf]; omega
    · have HT : Hid (idB m s t = true) := by
        show _ = _
        rw [HE.out]
        exact idP_iff.2 fun i j p q h1 h2 h3 => HI.out i j p q (by rw [HPS.out] at h1; have := lt_of_at h1; have := HN.out; omega) (by rw [← HPS.out]; exact h1) (by rw [← HPS.out]; exact h2) h3
      go_wp2
      go_ret
      exact ⟨by rw [HT.out]; rfl, hbf.trans (Dr.below hd _)⟩

set_option maxHeartbeats 1000000 in
theorem s_apart {s : List (List Int)} {p q : List Int} {a a1 a2 : Option Addr} {c c1 c2 lo hi lo1 hi1 lo2 hi2 : Nat} {w : World} (hs : RII w lo1 hi1 a1 s) (hp : RI w lo hi a p) (hq : RI w lo2 hi2 a2 q) (hsl : s.length ≤ 1048576) (hr : ∀ r ∈ s, r.length = p.length) (hpl : p.length ≤ 1048576) (hql : q.length = p.length) :
    Calls Try.prog 124 #[.slice a1 s.length c1, .slice a p.length c, .slice a2 q.length c2] w (RO w (.bool (apB s p q))) := by
  have HR := Lib.hid hr
  have HQ := Lib.hid hql
  obtain ⟨N, hN⟩ : ∃ N, s.length = N := ⟨_, rfl⟩
  have HN := Lib.hid hN
  have hNl : N ≤ 1048576 := by omega
  have hqb : q.length ≤ p.length := by omega
  rw [hN]
  clear hr hN hsl hql
  go_enter Try.func124, Try.ntmps124
  go_wp2
  go_loopw [7] (fun j wr => ∃ y : Nat, y ≤ N ∧ j = .int .i64 y ∧ Hid (apB (s.take y) p q = false) ∧ Dr w wr) (fun j _ => N - (intOf j).toNat)
  case atStart => exact ⟨0, Nat.zero_le _, rfl, by simp [Hid, apB], Dr.refl _⟩
  case round =>
    obtain ⟨y, hy, rfl, HA, hd⟩ := hrel
    by_cases hyk : y < N
    · obtain ⟨b2, o2, a4, c4, x, ha4, _, _, hc4, hx4, hxx⟩ := (hs.dr hd).at (show y < s.length by have := HN.out; omega)
      have hi4 := idxII ha4 hyk c1
      have hxl := HR.out x (List.mem_of_getElem? hxx.out)
      have hxlb : x.length ≤ p.length ∧ p.length ≤ x.length := by omega
      have HST : Hid (apB (s.take (y + 1)) p q = (mB p x && !mB q x)) := by
        show _ = _
        have := HA.out
        unfold apB at this ⊢
        rw [take_snoc hxx.out, List.any_append, this]; simp
      have HYES : Hid ((mB p x && !mB q x) = true → apB s p q = true) := by
        show _ → _
        intro h
        exact List.any_eq_true.2 ⟨x, List.mem_of_getElem? hxx.out, h⟩
      have hp2 := hp.dr hd
      have hq2 := hq.dr hd
      clear ha4 hxl hxx HA hs
      cases hmp : mB p x
      · have HM := Lib.hid hmp
        rw [hmp] at HST
        clear hmp
        go_wp2_with fail
        refine (s_matches hp2 hx4 (by omega) (by omega)).mono ?_
        rintro e w2 ⟨rfl, hd2⟩
        rw [HM.out]
        have D2 := Dr.trans hd hd2
        go_wp2
        go_roundw
        case rel => exact ⟨y + 1, by omega, by go_num, HST, D2⟩
        case measure => simp [intOf]; omega
      · have HM := Lib.hid hmp
        rw [hmp] at HST HYES
        clear hmp
        cases hmq : mB q x
        all_goals
          have HM2 := Lib.hid hmq
          rw [hmq] at HST HYES
          clear hmq
          go_wp2_with fail
          refine (s_matches hp2 hx4 (by omega) (by omega)).mono ?_
          rintro e w2 ⟨rfl, hd2⟩
          rw [HM.out]
          have D2 := Dr.trans hd hd2
          have hc5 : w2.cell? ⟨b2, o2 + y, none⟩ = some (.slice a4 x.length c4) := by obtain ⟨nn, rfl⟩ := hd2; exact hc4
          have hx5 := hx4.dr hd2
          have hq5 := hq2.dr hd2
          go_wp2_with fail
          refine (s_matches hq5 hx5 (by omega) (by omega)).mono ?_
          rintro e w3 ⟨rfl, hd3⟩
          rw [HM2.out]
          have D3 := Dr.trans D2 hd3
          go_wp2
          first
            | (go_ret; exact Dr.boolD (b := true) D3 (HYES.out rfl).symm)
            | (go_roundw
               case rel => exact ⟨y + 1, by omega, by go_num, HST, D3⟩
               case measure => simp [intOf]; omega)
    · have HE : Hid (apB s p q = false) := by
        have h := HA.out
        rwa [List.take_of_length_le (by have := HN.out; omega)] at h
      go_wp2
      go_ret
      exact Dr.boolD (b := false) hd HE.out.symm

end Go.Proofs.Ytbdbfbobcdepgaa
