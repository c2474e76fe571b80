/- Walks: FewestTests, by the program. -/
import Derived.Test.YtbdbfbobcdepgaaJh
import Derived.Test.YtbdbfbobcdepgaaJn
namespace Go.Proofs.Ytbdbfbobcdepgaa
open Go.RowKit

set_option maxHeartbeats 4000000 in
set_option maxRecDepth 100000 in
theorem x_OnesCount64 {x : Nat} (hx : x < 512) (w : World) : Calls Try.prog 155 #[.int .u64 (x : Int)] w (RO w (.int .i64 (popN x : Nat))) := by
  go_enter Try.func155, Try.ntmps155
  go_wp2
  go_ret
  refine ⟨?_, 0, rfl⟩
  refine congrArg (fun z : Int => Ending.returned (Value.int .i64 z)) ?_
  clear w
  revert x
  decide +kernel

theorem x_OnesCount {x : Nat} (hx : x < 512) (w : World) : Calls Try.prog 89 #[.int .u64 (x : Int)] w (RO w (.int .i64 (popN x : Nat))) := by
  go_enter Try.func89, Try.ntmps89
  go_wp2_with fail
  refine (x_OnesCount64 hx _).mono ?_
  rintro e w1 ⟨rfl, d1⟩
  go_wp2
  go_ret
  exact ⟨rfl, d1⟩

set_option maxRecDepth 100000 in
set_option maxHeartbeats 8000000 in
theorem i_FewestTests {m : List Int} {a : Option Addr} {c lo hi : Nat} {w : World} {t : Int} (hm : RI w lo hi a m) (hlm : m.length ≤ 9223372036854775807) (_ht0 : -9223372036854775808 ≤ t) (_ht1 : t ≤ 9223372036854775807) (hB : hi ≤ w.heap.size) :
    Calls Try.prog 31 #[.slice a m.length c, .int .i64 t] w (NewV w (.int .i64 (fwV m t))) := by
  cases hok : okM m
  · have HE := Lib.hid (fw_no (t := t) (.inl hok))
    have HOK := Lib.hid hok; clear hok
    go_enter Try.func31, Try.ntmps31
    go_wp2
    go_step3
    go_wp2_with fail
    refine (i_ValidModel hm hlm).mono ?_
    rintro e w1 ⟨rfl, d1⟩
    rw [HOK.out]
    go_wp2
    first | go_ret | (rw [Exit.noGoto_ret]; go_ret)
    exact ⟨by rw [HE.out]; rfl, Dr.below d1 _⟩
  cases hin : inR t 0 m.length
  · have HE := Lib.hid (fw_no (m := m) (t := t) (.inr (.inl hin)))
    have HOK := Lib.hid hok; clear hok
    have HIN := Lib.hid hin; clear hin
    go_enter Try.func31, Try.ntmps31
    go_wp2
    go_step3
    go_wp2_with fail
    refine (i_ValidModel hm hlm).mono ?_
    rintro e w1 ⟨rfl, d1⟩
    rw [HOK.out]
    go_wp2_with fail
    refine (i_isStrength hlm).mono ?_
    rintro e w2 ⟨rfl, d2⟩
    rw [HIN.out]
    go_wp2
    first | go_ret | (rw [Exit.noGoto_ret]; go_ret)
    exact ⟨by rw [HE.out]; rfl, Dr.below (Dr.trans d1 d2) _⟩
  have HOK := Lib.hid hok
  have HIN := Lib.hid hin
  have ht := inR_true.1 hin
  have hm5 := okM_len hok
  have HRow := Lib.hid (ext_row (m := m))
  have HLN := Lib.hid (ext_len HOK.out)
  have HPRow := Lib.hid (patS_row (m := m) (t := t))
  have HPLN := Lib.hid (patS_len (head := []) HOK.out t)
  have HNO := Lib.hid (fun h => fw_no (m := m) (t := t) (.inr (.inr h)))
  have HYES := Lib.hid (fun h => fw_yes (m := m) (t := t) HOK.out ht.1 ht.2 h)
  clear hok hin
  go_enter Try.func31, Try.ntmps31
  go_wp2
  go_step3
  go_wp2_with fail
  refine (i_ValidModel hm hlm).mono ?_
  rintro e w0 ⟨rfl, d1⟩
  rw [HOK.out]
  go_wp2_with fail
  refine (i_isStrength hlm).mono ?_
  rintro e w1 ⟨rfl, d2⟩
  rw [HIN.out]
  have hd : Dr w w1 := Dr.trans d1 d2
  have hz1 := Dr.le hd
  have hm1 := hm.dr hd
  clear d1 d2
  go_wp2_with fail
  refine (i_testsOf (w := w1)).mono ?_
  rintro e w2 ⟨rfl, hw2⟩
  have hbx : w2.heap[w1.heap.size]? = some (.cells #[.slice a m.length c] 22 (0, 0)) := by rw [hw2]; exact heap_alloc_new _ _
  have hb2 : Below w1.heap.size w1 w2 := by rw [hw2]; exact (Below.refl _ w1).alloc (Nat.le_refl _) _
  have hz2 : w2.heap.size = w1.heap.size + 1 := by rw [hw2]; simp
  clear hw2
  have HSEQ := Lib.hid (testsOf1_seq (n₀ := w2.heap.size) HOK.out (hm1.below hb2 (by omega)) (by omega) hbx (by omega) (Nat.le_refl _))
  have hz2l : w1.heap.size + 1 ≤ w2.heap.size ∧ w2.heap.size ≤ w1.heap.size + 1 := by omega
  clear hz2 hbx
  go_wp2_with fail
  refine (x_CollectP (enters_of Try.func153 (by kernel_rfl) rfl) HSEQ.out (Nat.le_refl _) (Below.refl _ _) (by have := HLN.out; omega)).mono ?_
  rintro e w3 ⟨v3, rfl, ho3, hb3⟩
  obtain ⟨av3, cv3, hv3, _⟩ := ho3.at
  subst hv3
  have hz3 := hb3.size
  have hb13 : Below w1.heap.size w1 w3 := hb2.trans (hb3.mono (by omega))
  have hbW : Below w.heap.size w w3 := (Dr.below hd _).trans (hb13.mono (by omega))
  have hm3 := hm1.below hb13 (by omega)
  obtain ⟨xs, hxs⟩ : ∃ xs, extS m [] = xs := ⟨_, rfl⟩
  rw [hxs] at ho3 HRow HLN HNO HYES ⊢
  obtain ⟨N, hN⟩ : ∃ N, xs.length = N := ⟨_, rfl⟩
  have HN := Lib.hid hN
  rw [hN] at HNO HYES HLN ⊢
  have hNl := HLN.out
  clear hN hxs hb2 hb3 hb13 hm hm1 HSEQ
  by_cases h9 : N ≤ 9
  case neg =>
    have HE := Lib.hid (HNO.out (by omega))
    have h9n : (9 : Int) < (N : Int) := by omega
    clear HNO HYES
    go_wp2
    first | go_ret | (rw [Exit.noGoto_ret]; go_ret)
    rw [HE.out]
    exact ⟨rfl, hbW⟩
  have HE := Lib.hid (HYES.out h9)
  have h9n : ¬ (9 : Int) < (N : Int) := by omega
  have HO3 := Lib.hid ho3
  clear HNO HYES ho3
  go_wp2_with fail
  refine (i_patternsOf HOK.out hm3 (by omega) ht.1 ht.2).mono ?_
  rintro e w4 ⟨v4, rfl, ho4, hb4⟩
  have hz4 := hb4.size
  obtain ⟨av, cv, hv4, hat⟩ := ho4.at
  subst hv4
  have HAT := Lib.hid hat
  have hbW4 := hbW.trans (hb4.mono hbW.size)
  obtain ⟨ps, hps⟩ : ∃ ps, patS m [] t = ps := ⟨_, rfl⟩
  rw [hps] at HAT HPLN HPRow HE ⊢
  obtain ⟨M, hM⟩ : ∃ M, ps.length = M := ⟨_, rfl⟩
  have HM := Lib.hid hM
  have hMl : M ≤ 1024 := by have := HPLN.out; omega
  rw [hM] at HAT ⊢
  clear hM hps hat ho4 hm3
  go_wp2
  go_loopw [7, 34] (fun v i wr => ∃ (k : Nat) (u : Value), k ≤ M ∧ i = .int .i64 k ∧ u = v ∧ OwnUs wr w4.heap.size u k (ixV xs (ps.take k)) ∧ Below w4.heap.size w4 wr) (fun _ i _ => M - (intOf i).toNat)
  case atStart => exact ⟨0, _, Nat.zero_le _, rfl, rfl, OwnUs.nil _ _, Below.refl _ _⟩
  case round =>
    obtain ⟨k, u, hk, rfl, rfl, hown, hB3⟩ := hrel
    have hz5 := hB3.size
    by_cases hlt : k < M
    · obtain ⟨p, hx⟩ := at_of_lt (show k < ps.length by have := HM.out; omega)
      obtain ⟨g, hg1, hg2, hidx, hcs⟩ := HAT.out k p hx
      have hc (j : Nat) (hj : j < 5) : wr.cell? ⟨g, k * 5 + j, none⟩ = some (.int .i64 (at5 p j)) := (hB3.cell (p := ⟨g, k * 5 + j, none⟩) hg2).trans (hcs j hj)
      have hc0 := hc 0 (by omega)
      have hc1 := hc 1 (by omega)
      have hc2 := hc 2 (by omega)
      have hc3' := hc 3 (by omega)
      have hc4 := hc 4 (by omega)
      simp only [Nat.add_zero] at hc0
      have hpl := Lib.hid (HPRow.out p (List.mem_of_getElem? hx))
      have hbA := (Below.refl wr.heap.size wr).alloc (Nat.le_refl _) (.cells #[.int .i64 (at5 p 0), .int .i64 (at5 p 1), .int .i64 (at5 p 2), .int .i64 (at5 p 3), .int .i64 (at5 p 4)] 59)
      have HC := i_indicesMet (w := wr.alloc (.cells #[.int .i64 (at5 p 0), .int .i64 (at5 p 1), .int .i64 (at5 p 2), .int .i64 (at5 p 3), .int .i64 (at5 p 4)] 59)) HO3.out (hb4.trans ((hB3.trans (hbA.mono (by omega))).mono (by omega))) (by have := HN.out; omega) (fun r hr => HRow.out r hr) hpl.out hm5.2
      rw [HN.out] at HC
      have HC := Lib.hid HC
      have HT : Hid (ixV xs (ps.take k) ++ [.int .u64 (bitN (rowB xs p) : Nat)] = ixV xs (ps.take (k + 1))) := (ixV_snoc hx).symm
      obtain ⟨X, hX⟩ : ∃ X, bitN (rowB xs p) = X := ⟨_, rfl⟩
      rw [hX] at HC HT
      clear hx hc hcs hX
      go_wp2_with fail
      refine HC.out.mono ?_
      rintro e w5 ⟨rfl, hb5⟩
      have hb05 : Below wr.heap.size wr w5 := hbA.trans (hb5.mono (by simp))
      have hz6 := hb05.size
      have hown4 : OwnUs w5 w4.heap.size u k (ixV xs (ps.take k)) := hown.kept fun j hj _ => hb05.block j hj
      clear hbA hb5 hown hc0 hc1 hc2 hc3' hc4 HC
      go_wp2_with (first
        | (at_builtin; refine wpList_appUs rfl (.tmp 38) (.tmp 42) rfl w4.heap.size k _ _ rfl hown4 (.int .u64 (X : Nat)) _ rfl rfl rfl (by omega) (by omega) ?_; intro v6 w6 hown6 hb6)
        | go_in)
      rw [HT.out] at hown6
      have hB6 : Below w4.heap.size w4 w6 := (hB3.trans (hb05.mono hz5)).trans hb6
      clear hB3 hb05 hb6 hown4
      go_roundw
      case rel => exact ⟨k + 1, _, by omega, by go_num, rfl, hown6, hB6⟩
      case measure => simp [intOf]; omega
    · have hkM : k = M := by omega
      have HK : Hid (ixV xs (ps.take k) = ixV xs ps) := by show _ = _; rw [List.take_of_length_le (by have := HM.out; omega)]
      rw [HK.out] at hown
      obtain ⟨au, cu, hvu, hatu⟩ := hown.at
      subst hvu
      subst hkM
      have HAU := Lib.hid hatu
      have hbW5 := hbW4.trans (hB3.mono hbW4.size)
      obtain ⟨P, hP⟩ : ∃ P : Nat, 2 ^ N = P := ⟨_, rfl⟩
      have HP := Lib.hid hP
      have hPl : P ≤ 512 := by rw [← hP]; show 2 ^ N ≤ 2 ^ 9; exact Nat.pow_le_pow_right (by decide) h9
      have hpow : IntKind.u64.wrap ((2 : Int) ^ N) = (P : Int) := by rw [pow_u64 (by omega), hP]
      have HRB : Hid (∀ p, bitN (rowB xs p) < 2 ^ 64) := fun p => Nat.lt_of_lt_of_le (bitN_lt _) (Nat.pow_le_pow_right (by decide) (by have := HN.out; simp [rowB]; omega))
      obtain ⟨wo, hwo⟩ : ∃ wo, wo = wr := ⟨_, rfl⟩
      subst hwo
      clear hown hatu hP hB3 hbW4
      go_wp2
      go_step3
      go_wp2
      go_loopw [6, 48] (fun vf vc wr => ∃ C : Nat, C ≤ P ∧ vc = .int .u64 (C : Nat) ∧ vf = .int .i64 (fwK xs ps C : Nat) ∧ Dr wo wr) (fun _ vc _ => P - (intOf vc).toNat)
      case atStart => exact ⟨0, Nat.zero_le _, rfl, by rw [fwK, HN.out], Dr.refl _⟩
      case round =>
        obtain ⟨C, hC, rfl, rfl, hd2⟩ := hrel
        by_cases hCP : C < P
        · obtain ⟨wi, hwi⟩ : ∃ wi, wi = wr := ⟨_, rfl⟩
          subst hwi
          have hfl := fwK_le xs ps C
          have HFL : Hid (fwK xs ps C ≤ N) := by show _ ≤ _; rw [← HN.out]; exact hfl
          obtain ⟨F, hF⟩ : ∃ F, fwK xs ps C = F := ⟨_, rfl⟩
          have HF := Lib.hid hF
          rw [hF] at HFL ⊢
          have hFl := HFL.out
          clear hF hfl
          go_wp2
          go_loopw [53] (fun j wr => ∃ y : Nat, y ≤ k ∧ j = .int .i64 y ∧ Hid (covU xs (ps.take y) C = true) ∧ Dr wi wr) (fun j _ => k - (intOf j).toNat)
          case atStart => exact ⟨0, Nat.zero_le _, rfl, by simp [Hid, covU], Dr.refl _⟩
          case round =>
            obtain ⟨y, hy, rfl, HJ, hd3⟩ := hrel
            have D3 := Dr.trans hd2 hd3
            by_cases hyk : y < k
            · obtain ⟨p, hxp⟩ := at_of_lt (show y < ps.length by have := HM.out; omega)
              obtain ⟨g, hg1, hg2, hidx, hcq⟩ := HAU.out y _ (ixV_at hxp)
              have hc1 : wr.cell? ⟨g, y, none⟩ = some (.int .u64 (bitN (rowB xs p) : Nat)) := ((Dr.below D3 wo.heap.size).cell (p := ⟨g, y, none⟩) hg2).trans hcq
              have HST : Hid (covU xs (ps.take (y + 1)) C = !((C &&& bitN (rowB xs p)) == 0)) := by
                show _ = _
                have h := HJ.out
                unfold covU at h ⊢
                rw [take_snoc hxp, List.all_append, h]; simp
              have HBAD : Hid ((C &&& bitN (rowB xs p)) = 0 → covU xs ps C = false) := by
                show _ → _
                intro h0
                unfold covU
                exact all_fails hxp (by simp [h0])
              have hand := bits_and (x := C) (y := bitN (rowB xs p)) (by omega) (HRB.out p)
              obtain ⟨X, hX⟩ : ∃ X : Nat, bitN (rowB xs p) = X := ⟨_, rfl⟩
              rw [hX] at hc1 HST HBAD hand
              clear hX hxp hcq HJ
              by_cases h0 : (C &&& X) = 0
              · have hz : (bits BinOp.and IntKind.u64 (C : Int) (X : Int) == 0) = true := by rw [hand, h0]; rfl
                have HB := Lib.hid (fwK_no (HBAD.out h0))
                rw [HF.out] at HB
                clear hand HST HBAD h0
                go_wp2
                go_roundw
                case rel => exact ⟨C + 1, by omega, by go_num, by rw [HB.out], D3⟩
                case measure => simp [intOf]; omega
              · have hz : (bits BinOp.and IntKind.u64 (C : Int) (X : Int) == 0) = false := by rw [hand, beq_eq_false_iff_ne]; omega
                have HS2 : Hid (covU xs (ps.take (y + 1)) C = true) := by
                  show _ = _; rw [HST.out]; simp [h0]
                clear hand HST HBAD h0
                go_wp2
                go_roundw
                case rel => exact ⟨y + 1, by omega, by go_num, HS2, hd3⟩
                case measure => simp [intOf]; omega
            · have HC1 : Hid (covU xs ps C = true) := by
                have h := HJ.out
                rwa [List.take_of_length_le (by have := HM.out; omega)] at h
              have HB := Lib.hid (fwK_yes HC1.out)
              rw [HF.out] at HB
              go_wp2_with fail
              refine (x_OnesCount (x := C) (by omega) _).mono ?_
              rintro e w6 ⟨rfl, d6⟩
              have D6 := Dr.trans D3 d6
              obtain ⟨O, hO⟩ : ∃ O, popN C = O := ⟨_, rfl⟩
              rw [hO] at HB ⊢
              clear hO
              go_wp2
              all_goals
                go_roundw
                case rel => exact ⟨C + 1, by omega, by go_num, by rw [HB.out]; refine congrArg (Value.int .i64) ?_; omega, D6⟩
                case measure => simp [intOf]; omega
        · have hCe : C = P := by omega
          have HR : Hid (fwV m t = (fwK xs ps C : Nat)) := by
            show _ = _
            rw [HE.out.1, hCe, ← HP.out, fwK_mu HN.out h9 HE.out.2]
          go_wp2
          first | go_ret | (rw [Exit.noGoto_ret]; go_ret)
          rw [HR.out]
          exact ⟨rfl, hbW5.trans (Dr.below hd2 _)⟩

end Go.Proofs.Ytbdbfbobcdepgaa
