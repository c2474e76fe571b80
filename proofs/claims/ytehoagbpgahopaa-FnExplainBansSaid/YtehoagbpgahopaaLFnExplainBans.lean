/- The walk of FnExplainBans: it returns true and writes nothing that was there. -/
import Derived.Test.YtehoagbpgahopaaRc
import Derived.Test.YtehoagbpgahopaaJs
import Derived.Test.YtehoagbpgahopaaNx
import Derived.Test.YtehoagbpgahopaaZk
import Derived.Test.YtehoagbpgahopaaOc
import Derived.Test.YtehoagbpgahopaaOwnL
namespace Go.Proofs.Ytehoagbpgahopaa
open Go.RowKit

set_option maxHeartbeats 1000000 in
theorem l_ascendsX {x : List Int} {a : Option Addr} {c lo hi : Nat} {w : World} (hx : RI w lo hi a x) (hl : x.length ≤ 4611686018427387904) (hp : x.Pairwise (· < ·)) :
    Calls Try.prog 88 #[.slice a x.length c] w (RO w (.bool true)) := by
  have HP := Lib.hid hp; clear hp
  go_enter Try.func88, Try.ntmps88
  go_wp2
  go_loopw [3] (fun i wr => ∃ k : Nat, (k ≤ x.length ∨ k = 1) ∧ 1 ≤ k ∧ i = .int .i64 k ∧ Dr w wr) (fun i _ => x.length - (intOf i).toNat)
  case atStart => exact ⟨1, .inr rfl, Nat.le_refl _, rfl, Dr.refl _⟩
  case round =>
    obtain ⟨k, hk, hk1, rfl, hd⟩ := hrel
    by_cases hlt : k < x.length
    · obtain ⟨b1, o1, u, ha, _, _, hcell, hu⟩ := (hx.dr hd).at hlt
      obtain ⟨b2, o2, v, hb, _, _, hcell2, hv⟩ := (hx.dr hd).at (show k - 1 < x.length by omega)
      have hidx := idxI ha hlt c
      have hidx2 := idxI hb (show k - 1 < x.length by omega) c
      have e1 : ((k - 1 : Nat) : Int) = (k : Int) - 1 := by omega
      rw [e1] at hidx2
      have hvu := pw_at HP.out hv.out hu.out (by omega)
      have hle : ¬ u ≤ v := by omega
      have hw := IntWalk.i64_in ((k : Int) - 1) (by omega)
      clear ha hb hx e1
      go_wp2_with fail
      go_quiet (fail)
      go_wp2
      go_roundw
      case rel => exact ⟨k + 1, by omega, by omega, by go_num, by first | exact hd | exact Dr.trans hd ⟨_, rfl⟩⟩
      case measure => simp [intOf]; omega
    · go_wp2
      go_ret
      exact hd.boolD (b := true) rfl
theorem exp_facts {m : List Int} {b : List (List Int)} {p : List Int} (h : exB m b p = true) : exL m b p = (exR m b p).map (fun (i : Nat) => (i : Int)) ∧ (∀ i ∈ exR m b p, i < b.length) ∧ (exL m b p).Pairwise (· < ·) ∧ ipB m (pk b (exR m b p)) p = false ∧ ∀ i, i < (exR m b p).length → ipB m ((pk b (exR m b p)).eraseIdx i) p = true := by
  obtain ⟨h1, h2, h3, h4⟩ := exB_m h
  obtain ⟨e1, e2, e3, e4⟩ := ex_law h
  have hL : exL m b p = (exR m b p).map (fun (i : Nat) => (i : Int)) := by unfold exL; rw [h]; rfl
  have h5 : (exR m b p).length ≤ 5 := by have := @exL_len m b p; rw [hL, List.length_map] at this; exact this
  obtain ⟨k1, k2⟩ := ex_ok h2 e1 h5
  refine ⟨hL, e1, ?_, ?_, fun i hi => ?_⟩
  · rw [hL]; exact List.pairwise_map.2 (e2.imp fun hlt => by omega)
  · unfold ipB; rw [h1, k1, h3, e3]; rfl
  · unfold ipB; rw [h1, k2 i, h3, e4 i hi]; rfl
theorem pk_snocX {b : List (List Int)} {l : List Nat} {k j : Nat} {r : List Int} (h : l[k]? = some j) (hr : b[j]? = some r) : pk b (l.take (k + 1)) = pk b (l.take k) ++ [r] := by
  unfold pk; rw [take_snoc h, List.map_append]; simp [List.getD, hr]
theorem pk_rows {b : List (List Int)} {l : List Nat} {n : Nat} (h : ∀ r ∈ b, r.length ≤ n) : ∀ r ∈ pk b l, r.length ≤ n := by
  intro r hr
  unfold pk at hr
  obtain ⟨i, _, rfl⟩ := List.mem_map.1 hr
  cases hi : b[i]? with
  | none => simp [List.getD, hi]
  | some q => rw [List.getD, hi]; exact h q (List.mem_of_getElem? hi)

set_option maxRecDepth 100000 in
set_option maxHeartbeats 2000000 in
theorem law_FnExplainBans {m0 : Nat} {a0 : Option Addr} {c0 : Nat} {w : World} (f0 : RB w w.heap.size a0 m0) (l0 : m0 ≤ c0) :
    Calls Try.prog 17 #[.slice a0 m0 c0] w (Tru w) := by
  by_cases hb : m0 ≤ 1048576
  case neg =>
    go_enter Try.func17, Try.ntmps17
    go_wp2
    go_ret
    exact ⟨rfl, Below.refl _ _⟩
  go_enter Try.func17, Try.ntmps17
  go_wp2_with fail
  refine (s_DrawExplainBans f0 l0 hb).mono ?_
  rintro e w1 ⟨a1, c1, m, a2, c2, s, a3, c3, p, rfl, ⟨hG, hS, hp, hpl⟩, B1⟩
  have z1 := B1.size
  have hm := hG.ri
  have hs := hS.ric
  have hl10 := hG.lp.1
  have hsl := hS.sq.1
  have HSR : Hid (∀ r ∈ s, r.length ≤ 12) := fun r h => (hS.sq.2 r h).1
  have HSG : Hid (∀ r ∈ s, r.length ≤ 9223372036854775807) := fun r h => by have := (hS.sq.2 r h).1; omega
  clear hG hS
  clear f0
  obtain ⟨L, hL⟩ : ∃ L, exL m s p = L := ⟨_, rfl⟩
  obtain ⟨b, hB⟩ : ∃ b, exB m s p = b := ⟨_, rfl⟩
  have HL := Lib.hid hL
  have HB := Lib.hid hB
  have HLN := @exL_len m s p
  rw [hL] at HLN
  have heqL : eqI L L = true := eqI_true.2 rfl
  clear hL hB
  cases b
  · skip
    go_wp2_with fail
    refine (i_ExplainBans hm (by omega) hs.rii (by omega) HSG.out hp (by omega) (by omega) (by omega) (by omega)).mono ?_
    rintro e w2 ⟨Aa, Ac, rfl, A, b2⟩
    have z2 := b2.size
    have hm := hm.below b2 (by omega)
    have hs := hs.below b2 (by omega)
    have hp := hp.below b2 (by omega)
    have B2 := B1.trans (b2.mono (by omega))
    clear b2 B1
    rw [HL.out] at A
    rw [HL.out, HB.out]
    go_wp2_with fail
    refine (s_ExplainBans hm (by omega) hs.rii (by omega) HSG.out hp (by omega) (by omega) (by omega) (by omega)).mono ?_
    rintro e w3 ⟨Sa, Sc, rfl, S, b3⟩
    have z3 := b3.size
    have hm := hm.below b3 (by omega)
    have hs := hs.below b3 (by omega)
    have hp := hp.below b3 (by omega)
    have A := A.below b3 (by omega)
    have B3 := B2.trans (b3.mono (by omega))
    clear b3 B2
    rw [HL.out] at S
    rw [HL.out, HB.out]
    go_wp2_with fail
    refine (l_equalInts A.ri S.ri (by omega) (by omega)).mono ?_
    rintro e w4 ⟨rfl, d4⟩
    have b4 := Dr.below d4 w3.heap.size
    have z4 := Dr.le d4
    clear d4
    have hm := hm.below b4 (by omega)
    have hs := hs.below b4 (by omega)
    have hp := hp.below b4 (by omega)
    have A := A.below b4 (by omega)
    have S := S.below b4 (by omega)
    have B4 := B3.trans (b4.mono (by omega))
    clear b4 B3
    rw [heqL]
    go_wp2_with fail
    refine (l_equalInts A.ri S.ri (by omega) (by omega)).mono ?_
    rintro e w5 ⟨rfl, d5⟩
    have b5 := Dr.below d5 w4.heap.size
    have z5 := Dr.le d5
    clear d5
    have hm := hm.below b5 (by omega)
    have hs := hs.below b5 (by omega)
    have hp := hp.below b5 (by omega)
    have A := A.below b5 (by omega)
    have S := S.below b5 (by omega)
    have B5 := B4.trans (b5.mono (by omega))
    clear b5 B4
    rw [heqL]
    go_wp2
    go_ret
    exact ⟨rfl, B5⟩
  go_wp2_with fail
  refine (i_ExplainBans hm (by omega) hs.rii (by omega) HSG.out hp (by omega) (by omega) (by omega) (by omega)).mono ?_
  rintro e w2 ⟨Aa, Ac, rfl, A, b2⟩
  have z2 := b2.size
  have hm := hm.below b2 (by omega)
  have hs := hs.below b2 (by omega)
  have hp := hp.below b2 (by omega)
  have B2 := B1.trans (b2.mono (by omega))
  clear b2 B1
  rw [HL.out] at A
  rw [HL.out, HB.out]
  go_wp2_with fail
  refine (s_ExplainBans hm (by omega) hs.rii (by omega) HSG.out hp (by omega) (by omega) (by omega) (by omega)).mono ?_
  rintro e w3 ⟨Sa, Sc, rfl, S, b3⟩
  have z3 := b3.size
  have hm := hm.below b3 (by omega)
  have hs := hs.below b3 (by omega)
  have hp := hp.below b3 (by omega)
  have A := A.below b3 (by omega)
  have B3 := B2.trans (b3.mono (by omega))
  clear b3 B2
  rw [HL.out] at S
  rw [HL.out, HB.out]
  go_wp2_with fail
  refine (l_equalInts A.ri S.ri (by omega) (by omega)).mono ?_
  rintro e w4 ⟨rfl, d4⟩
  have b4 := Dr.below d4 w3.heap.size
  have z4 := Dr.le d4
  clear d4
  have hm := hm.below b4 (by omega)
  have hs := hs.below b4 (by omega)
  have hp := hp.below b4 (by omega)
  have A := A.below b4 (by omega)
  have S := S.below b4 (by omega)
  have B4 := B3.trans (b4.mono (by omega))
  clear b4 B3
  rw [heqL]
  obtain ⟨hF1, hF2, hF3, hF4, hF5⟩ := exp_facts HB.out
  rw [HL.out] at hF1 hF3
  obtain ⟨J, hJ⟩ : ∃ J, exR m s p = J := ⟨_, rfl⟩
  rw [hJ] at hF1 hF2 hF4 hF5
  clear hJ S
  have HJB := Lib.hid hF2; have HPW := Lib.hid hF3; have HJL : Hid (L.length = J.length) := by show _ = _; rw [hF1, List.length_map]
  have hj5 : J.length ≤ 5 := by have := HJL.out; omega
  have HJX : Hid (∀ (k : Nat) (x : Int), L[k]? = some x → ∃ j, J[k]? = some j ∧ x = (j : Int)) := fun k x hx => by
    rw [hF1, List.getElem?_map] at hx
    cases hh : J[k]? with
    | none => rw [hh] at hx; cases hx
    | some j => rw [hh] at hx; exact ⟨j, rfl, (Option.some.inj hx).symm⟩
  clear hF1 hF2 hF3
  have HROW := Lib.hid (pk_rows (l := J) HSR.out)
  have hbA := (Below.refl w4.heap.size w4).alloc (Nat.le_refl _) (.cells #[] 23)
  have hst := OwnRR.made w4 w4.heap.size w.heap.size w1.heap.size (Nat.le_refl _) (.inr (by omega))
  go_wp2
  go_loopw [10, 11] (fun v i wr => ∃ k : Nat, k ≤ L.length ∧ i = .int .i64 k ∧ OwnRR wr w4.heap.size w.heap.size w1.heap.size v (pk s (J.take k)) ∧ Below w4.heap.size w4 wr) (fun _ i _ => L.length - (intOf i).toNat)
  case atStart => exact ⟨0, Nat.zero_le _, rfl, hst, hbA⟩
  case round =>
    clear hst hbA heqL
    obtain ⟨k, hk, rfl, hown, hd⟩ := hrel
    have hz := hd.size
    have hm := hm.below hd (by omega)
    have hs := hs.below hd (by omega)
    have hp := hp.below hd (by omega)
    have A := A.below hd (by omega)
    have BB := B4.trans (hd.mono (by omega))
    by_cases hlt : k < L.length
    · skip
      obtain ⟨b4, o4, x, ha4, _, hb4, hc4, hx⟩ := A.ri.at hlt
      have hidx4 := idxI ha4 hlt Ac
      obtain ⟨j, hj, hxj⟩ := HJX.out k x hx.out
      subst hxj
      have hjs := HJB.out j (List.mem_of_getElem? hj)
      obtain ⟨b5, o5, a5, c5, r, ha5, _, hb5, hc5, hr, hx5, hcp⟩ := hs.rii.atc hjs
      have hidx5 := idxII ha5 hjs c2
      have HPK := Lib.hid (pk_snocX hj hx5.out)
      have hpl2 : (pk s (J.take k)).length ≤ 1099511627776 := by unfold pk; rw [List.length_map, List.length_take]; omega
      clear ha4 ha5 hx hj A hm hp hs BB
      go_wp2_with (first | (at_builtin; refine wpList_appR1 rfl (.tmp 65) (.tmp 73) rfl w4.heap.size w.heap.size w1.heap.size _ (pk s (J.take k)) rfl hown (by omega) (by omega) r a5 r.length c5 rfl hr hcp wr.heap.size rfl rfl hpl2 ?_; intro v3 w3 hown3 hk3 _) | go_in)
      have hd3 := hd.trans (hk3.below (by omega))
      rw [← HPK.out] at hown3
      clear hown hk3
      go_roundw
      case rel => exact ⟨k + 1, by omega, by go_num, hown3, hd3⟩
      case measure => simp [intOf]; omega
    · skip
      have HTK : Hid (J.take k = J) := List.take_of_length_le (by have := HJL.out; omega)
      rw [HTK.out] at hown
      obtain ⟨S, hS⟩ : ∃ S, pk s J = S := ⟨_, rfl⟩
      have hSL : S.length ≤ 5 := by rw [← hS]; unfold pk; rw [List.length_map]; exact hj5
      rw [hS] at hown HROW hF4 hF5
      have HSR2 : Hid (∀ r ∈ S, r.length ≤ 9223372036854775807) := fun r hr => by have := HROW.out r hr; omega
      have HEN := Lib.hid hF4
      have HSJ : Hid (S.length = J.length) := by show _ = _; rw [← hS]; unfold pk; rw [List.length_map]
      have HER : Hid (∀ i, i < S.length → ipB m (S.eraseIdx i) p = true) := fun i hi => hF5 i (by have := HSJ.out; omega)
      clear hS hF4 hF5
      obtain ⟨Va, Vc, rfl, V⟩ := hown.sliceU (by omega) (by omega)
      obtain ⟨wo, hwo⟩ : ∃ y : World, y = wr := ⟨_, rfl⟩
      subst hwo
      clear hown hd
      go_wp2
      go_loopw [12, 13] (fun i _ wr => ∃ k : Nat, k ≤ S.length ∧ i = .int .i64 k ∧ Below wo.heap.size wo wr) (fun i _ _ => S.length - (intOf i).toNat)
      case atStart => exact ⟨0, Nat.zero_le _, rfl, Below.refl _ _⟩
      case round =>
        obtain ⟨k, hk, rfl, hd⟩ := hrel
        have hz2 := hd.size
        have hm := hm.below hd (by omega)
        have hp := hp.below hd (by omega)
        have A := A.below hd (by omega)
        have V := V.below hd (by omega)
        have BB := BB.trans (hd.mono (by omega))
        by_cases hlt : k < S.length
        · skip
          obtain ⟨b, o, a0, c0, r0, ha, hlo, hhi, _⟩ := V.rii.at hlt
          subst ha
          have hvc := V.cap
          have hto := sliceToII (b := b) (o := o) (n := S.length) (c := Vc) (k := k) (z := (k : Int)) rfl (by omega)
          obtain ⟨o', ho', hfrom⟩ := sliceFromII (b := b) (o := o) (n := S.length) (c := Vc) (k := k + 1) (z := IntKind.i64.wrap ((k : Int) + 1)) (by rw [IntWalk.i64_in _ (by omega)]; omega) (by omega) V.cap
          have hst := (OwnRR.made wr wr.heap.size w.heap.size wo.heap.size (Nat.le_refl _) (.inr (by omega))).drew
          have hbA := (Below.refl _ wr).alloc (Nat.le_refl wr.heap.size) (.cells #[] 23)
          have hs1 := (V.rii.below hbA (by omega)).drew
          have HE : Hid (S.eraseIdx k = S.take k ++ S.drop (k + 1)) := List.eraseIdx_eq_take_drop_succ ..
          have HO := Lib.hid ho'
          have htl : k = (S.take k).length := by simp; omega
          have hdl : S.length - (k + 1) = (S.drop (k + 1)).length := by simp
          have HTL := Lib.hid htl
          have HDL := Lib.hid hdl
          have hwB : wr.heap.size ≤ (wr.alloc (.cells #[] 23)).drew.heap.size := by simp
          have hwh : wo.heap.size ≤ (wr.alloc (.cells #[] 23)).drew.heap.size := by simp; omega
          have hl0 : ([] : List (List Int)).length ≤ 1099511627776 := by simp
          have hl1 : (S.take k).length ≤ 1099511627776 := by simp; omega
          have hl2 : (S.drop (k + 1)).length ≤ 1099511627776 := by simp; omega
          have HIP := Lib.hid (HER.out k hlt)
          clear ho' htl hdl
          go_wp2_with fail
          go_region_law ((first
            | (refine step_appRN (by rfl) _ _ (by rfl) wr.heap.size w.heap.size wo.heap.size _ [] (S.take k) (by rfl) hst hwB hwh ⟨b, o, none⟩ _ _ HTL.out (by rfl) (hs1.take k) hl0 hl1 ?_; intro v1 w1' hown1 hk1 _; rw [List.nil_append] at hown1; have hs2 := hs1.kp hk1 hwh; have hk1s := Nat.le_trans hwB hk1.size; have hk1h := Nat.le_trans hwh hk1.size; clear hst)
            | (refine step_appRN (by rfl) _ _ (by rfl) wr.heap.size w.heap.size wo.heap.size _ (S.take k) (S.drop (k + 1)) (by rfl) hown1 hk1s hk1h ⟨b, o', none⟩ _ _ HDL.out (by rfl) (hs2.drop HO.out) hl1 hl2 ?_; intro v2 w2' hown2 hk2 _)))
          have hbb : Below wr.heap.size wr w2' := ((hbA.trans (((Below.refl _ _).drew).trans (hk1.below hwB))).trans (hk2.below hk1s))
          have hw2 := Nat.le_trans hk1h hk2.size
          rw [← HE.out] at hown2
          obtain ⟨T, hT⟩ : ∃ T, S.eraseIdx k = T := ⟨_, rfl⟩
          have hTL : T.length ≤ 5 := by rw [← hT]; exact Nat.le_trans (List.length_eraseIdx_le _ _) hSL
          have HTR : Hid (∀ r ∈ T, r.length ≤ 9223372036854775807) := fun r hr => by rw [← hT] at hr; exact HSR2.out r (List.mem_of_mem_eraseIdx hr)
          rw [hT] at hown2 HIP
          obtain ⟨Ta, Tc, rfl, h3⟩ := hown2.sliceU (by omega) hw2
          clear hT hown1 hown2 hk1 hk2 hs1 hs2 hto hfrom V A
          have zz := hbb.size
          have hm := hm.below hbb (by omega)
          have hp := hp.below hbb (by omega)
          go_wp2_with fail
          refine (i_IsPossible hm (by omega) h3.rii (by omega) HTR.out hp (by omega) (by omega) (by omega) (by omega)).mono ?_
          rintro e w5 ⟨rfl, b5⟩
          rw [HIP.out]
          have hd5 := (hd.trans (hbb.mono (by omega))).trans (b5.mono (by omega))
          clear hbb b5 BB h3
          go_wp2
          go_roundw
          case rel => exact ⟨k + 1, by omega, by go_num, hd5⟩
          case measure => simp [intOf]; omega
        · skip
          go_wp2_with fail
          refine (i_IsPossible hm (by omega) V.rii (by omega) HSR2.out hp (by omega) (by omega) (by omega) (by omega)).mono ?_
          rintro e v5 ⟨rfl, b5⟩
          rw [HEN.out]
          have A := A.below b5 (by omega)
          have BB := BB.trans (b5.mono (by omega))
          go_wp2_with fail
          refine (l_ascendsX A.ri (by omega) HPW.out).mono ?_
          rintro e v6 ⟨rfl, d6⟩
          go_wp2
          go_ret
          exact ⟨rfl, BB.trans (Dr.below d6 _)⟩

end Go.Proofs.Ytehoagbpgahopaa
