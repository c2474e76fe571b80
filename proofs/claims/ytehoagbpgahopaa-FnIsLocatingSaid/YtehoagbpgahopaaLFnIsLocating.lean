/- The walk of FnIsLocating: it returns true and writes nothing that was there. -/
import Derived.Test.YtehoagbpgahopaaRc
import Derived.Test.YtehoagbpgahopaaJr
import Derived.Test.YtehoagbpgahopaaJa
import Derived.Test.YtehoagbpgahopaaJc
import Derived.Test.YtehoagbpgahopaaVr
import Derived.Test.YtehoagbpgahopaaTg
namespace Go.Proofs.Ytehoagbpgahopaa
open Go.RowKit

theorem riiBox {w : World} {lo hi c : Nat} {a : Option Addr} {p : List Int} (h : RI w lo hi a p) (hc : p.length ≤ c) (hlo : lo ≤ w.heap.size) (hhi : hi ≤ w.heap.size) : RII (w.alloc (.cells #[.slice a p.length c] 23)) lo (w.heap.size + 1) (some ⟨w.heap.size, 0, none⟩) [p] := by
  intro k hk
  obtain rfl : k = 0 := by simpa using hk
  exact ⟨w.heap.size, 0, a, c, p, rfl, hlo, by omega, rfl, (by have h1 := cell_one_new w (.slice a p.length c) 23 0 _ rfl; rw [addrAdd] at h1; exact h1), (h.below ((Below.refl w.heap.size w).alloc (Nat.le_refl _) _) hhi).wide (Nat.le_refl _) (by omega), hc⟩

theorem lo_all {m : List Int} {s : List (List Int)} {t : Int} (h : okC m s t = true) : ilB m s t = (patS m [] t).all fun p => eqII (cuL m s (rowB s p) t) [p] := by
  rw [Bool.eq_iff_iff, il_alone h, List.all_eq_true]
  constructor
  · intro h1 p hp
    have := h1 p hp
    rw [row_one] at this
    exact eqII_true.2 this
  · intro h1 p hp
    rw [row_one]
    exact eqII_true.1 (h1 p hp)
theorem lo_row {m p : List Int} {s : List (List Int)} {t : Int} (hm : okM m = true) (hs : okS m s = true) (hp : p ∈ patS m [] t) : roL m s [p] = rowB s p := by
  have hpo : okP m p = true := ((mem_patS hm).1 hp).1
  have hb : okBn m [p] = true := by unfold okBn; simp [hpo]
  rw [ro_yes hm hs hb, row_one]
theorem boxD {w : World} {a : Option Addr} {mm : List (List Int)} (h : RII w 0 w.heap.size a mm) : RII w.drew 0 w.drew.heap.size a mm := h
theorem boxB {w w' : World} {a : Option Addr} {mm : List (List Int)} (h : RII w 0 w.heap.size a mm) (hb : Below w.heap.size w w') : RII w' 0 w'.heap.size a mm := (h.below hb (Nat.le_refl _)).wide (Nat.le_refl _) hb.size
theorem boxA {w : World} {a : Option Addr} {mm : List (List Int)} (h : RII w 0 w.heap.size a mm) (o : Obj) : RII (w.alloc o) 0 (w.alloc o).heap.size a mm := boxB h ((Below.refl w.heap.size w).alloc (Nat.le_refl _) o)
theorem boxHere {w X : World} {lo hi c : Nat} {a : Option Addr} {p : List Int} (h : RI w lo hi a p) (hc : p.length ≤ c) (hhi : hi ≤ w.heap.size) (hb : Below w.heap.size w X) {nw : Nat} (hnw : nw = X.heap.size) : RII (X.alloc (.cells #[.slice a p.length c] 23)) 0 (X.alloc (.cells #[.slice a p.length c] 23)).heap.size (some ⟨nw, 0, none⟩) [p] := by
  subst hnw
  exact (riiBox (lo := 0) ((h.below hb hhi).wide (Nat.zero_le _) (Nat.le_refl _)) hc (Nat.zero_le _) (Nat.le_trans hhi hb.size)).wide (Nat.le_refl _) (by simp)

set_option maxRecDepth 100000 in
set_option maxHeartbeats 2000000 in
theorem law_FnIsLocating {m0 : Nat} {a0 : Option Addr} {c0 : Nat} {w : World} (f0 : RB w w.heap.size a0 m0) (l0 : m0 ≤ c0) :
    Calls Try.prog 22 #[.slice a0 m0 c0] w (Tru w) := by
  by_cases hb : m0 ≤ 1048576
  case neg =>
    go_enter Try.func22, Try.ntmps22
    go_wp2
    go_ret
    exact ⟨rfl, Below.refl _ _⟩
  go_enter Try.func22, Try.ntmps22
  go_wp2_with fail
  refine (s_DrawIsLocating f0 l0 hb).mono ?_
  rintro e w1 ⟨a1, c1, m, a2, c2, s, t, rfl, ⟨hm, hl10, hs, hsl, hsr, ht0, ht1⟩, B1⟩
  have z1 := B1.size
  have HSR := Lib.hid hsr
  have HSG : Hid (∀ r ∈ s, r.length ≤ 9223372036854775807) := fun r h => by have := HSR.out r h; omega
  clear hsr
  clear f0
  obtain ⟨z, hZ⟩ : ∃ z, ilB m s t = z := ⟨_, rfl⟩
  have HZ := Lib.hid hZ
  have hzz : (z != z) = false := by cases z <;> rfl
  have hze : (z == z) = true := by cases z <;> rfl
  clear hZ
  cases hok : (okM m && okS m s)
  · skip
    have HV := Lib.hid hok; clear hok
    go_wp2_with fail
    refine (i_IsLocating hm (by omega) hs (by omega) HSG.out (by omega) (by omega) (by omega) (by omega)).mono ?_
    rintro e w2 ⟨rfl, b2⟩
    have z2 := b2.size
    have hm := hm.below b2 (by omega)
    have hs := hs.below b2 (by omega)
    have B2 := B1.trans (b2.mono (by omega))
    clear b2 B1
    rw [HZ.out]
    go_wp2_with fail
    refine (s_IsLocating hm (by omega) hs (by omega) HSG.out (by omega) (by omega) (by omega) (by omega)).mono ?_
    rintro e w3 ⟨rfl, b3⟩
    have z3 := b3.size
    have hm := hm.below b3 (by omega)
    have hs := hs.below b3 (by omega)
    have B3 := B2.trans (b3.mono (by omega))
    clear b3 B2
    rw [HZ.out]
    go_wp2_with fail
    refine (i_ValidSuite hm (by omega) hs (by omega) HSG.out).mono ?_
    rintro e w4 ⟨rfl, d4⟩
    have b4 := Dr.below d4 w3.heap.size
    have z4 := Dr.le d4
    clear d4
    have hm := hm.below b4 (by omega)
    have hs := hs.below b4 (by omega)
    have B4 := B3.trans (b4.mono (by omega))
    clear b4 B3
    rw [HV.out]
    go_wp2_with fail
    refine (s_IsLocating hm (by omega) hs (by omega) HSG.out (by omega) (by omega) (by omega) (by omega)).mono ?_
    rintro e w5 ⟨rfl, b5⟩
    have z5 := b5.size
    have hm := hm.below b5 (by omega)
    have hs := hs.below b5 (by omega)
    have B5 := B4.trans (b5.mono (by omega))
    clear b5 B4
    rw [HZ.out]
    go_wp2
    go_ret
    exact ⟨rfl, B5⟩
  have HV := Lib.hid hok
  rw [Bool.and_eq_true] at hok
  have HOK := Lib.hid hok.1; have HOS := Lib.hid hok.2
  clear hok
  have hm5 := okM_len HOK.out
  by_cases k1 : t < 0
  · skip
    go_wp2_with fail
    refine (i_IsLocating hm (by omega) hs (by omega) HSG.out (by omega) (by omega) (by omega) (by omega)).mono ?_
    rintro e w2 ⟨rfl, b2⟩
    have z2 := b2.size
    have hm := hm.below b2 (by omega)
    have hs := hs.below b2 (by omega)
    have B2 := B1.trans (b2.mono (by omega))
    clear b2 B1
    rw [HZ.out]
    go_wp2_with fail
    refine (s_IsLocating hm (by omega) hs (by omega) HSG.out (by omega) (by omega) (by omega) (by omega)).mono ?_
    rintro e w3 ⟨rfl, b3⟩
    have z3 := b3.size
    have hm := hm.below b3 (by omega)
    have hs := hs.below b3 (by omega)
    have B3 := B2.trans (b3.mono (by omega))
    clear b3 B2
    rw [HZ.out]
    go_wp2_with fail
    refine (i_ValidSuite hm (by omega) hs (by omega) HSG.out).mono ?_
    rintro e w4 ⟨rfl, d4⟩
    have b4 := Dr.below d4 w3.heap.size
    have z4 := Dr.le d4
    clear d4
    have hm := hm.below b4 (by omega)
    have hs := hs.below b4 (by omega)
    have B4 := B3.trans (b4.mono (by omega))
    clear b4 B3
    rw [HV.out]
    go_wp2_with fail
    refine (s_IsLocating hm (by omega) hs (by omega) HSG.out (by omega) (by omega) (by omega) (by omega)).mono ?_
    rintro e w5 ⟨rfl, b5⟩
    have z5 := b5.size
    have hm := hm.below b5 (by omega)
    have hs := hs.below b5 (by omega)
    have B5 := B4.trans (b5.mono (by omega))
    clear b5 B4
    rw [HZ.out]
    go_wp2
    go_ret
    exact ⟨rfl, B5⟩
  by_cases k2 : (m.length : Int) < t
  · skip
    go_wp2_with fail
    refine (i_IsLocating hm (by omega) hs (by omega) HSG.out (by omega) (by omega) (by omega) (by omega)).mono ?_
    rintro e w2 ⟨rfl, b2⟩
    have z2 := b2.size
    have hm := hm.below b2 (by omega)
    have hs := hs.below b2 (by omega)
    have B2 := B1.trans (b2.mono (by omega))
    clear b2 B1
    rw [HZ.out]
    go_wp2_with fail
    refine (s_IsLocating hm (by omega) hs (by omega) HSG.out (by omega) (by omega) (by omega) (by omega)).mono ?_
    rintro e w3 ⟨rfl, b3⟩
    have z3 := b3.size
    have hm := hm.below b3 (by omega)
    have hs := hs.below b3 (by omega)
    have B3 := B2.trans (b3.mono (by omega))
    clear b3 B2
    rw [HZ.out]
    go_wp2_with fail
    refine (i_ValidSuite hm (by omega) hs (by omega) HSG.out).mono ?_
    rintro e w4 ⟨rfl, d4⟩
    have b4 := Dr.below d4 w3.heap.size
    have z4 := Dr.le d4
    clear d4
    have hm := hm.below b4 (by omega)
    have hs := hs.below b4 (by omega)
    have B4 := B3.trans (b4.mono (by omega))
    clear b4 B3
    rw [HV.out]
    go_wp2_with fail
    refine (s_IsLocating hm (by omega) hs (by omega) HSG.out (by omega) (by omega) (by omega) (by omega)).mono ?_
    rintro e w5 ⟨rfl, b5⟩
    have z5 := b5.size
    have hm := hm.below b5 (by omega)
    have hs := hs.below b5 (by omega)
    have B5 := B4.trans (b5.mono (by omega))
    clear b5 B4
    rw [HZ.out]
    go_wp2
    go_ret
    exact ⟨rfl, B5⟩
  have HC : Hid (okC m s t = true) := by
    show _ = _
    unfold okC
    rw [HOK.out, HOS.out, inR_true.2 (by omega)]; rfl
  go_wp2_with fail
  refine (i_IsLocating hm (by omega) hs (by omega) HSG.out (by omega) (by omega) (by omega) (by omega)).mono ?_
  rintro e w2 ⟨rfl, b2⟩
  have z2 := b2.size
  have hm := hm.below b2 (by omega)
  have hs := hs.below b2 (by omega)
  have B2 := B1.trans (b2.mono (by omega))
  clear b2 B1
  rw [HZ.out]
  go_wp2_with fail
  refine (s_IsLocating hm (by omega) hs (by omega) HSG.out (by omega) (by omega) (by omega) (by omega)).mono ?_
  rintro e w3 ⟨rfl, b3⟩
  have z3 := b3.size
  have hm := hm.below b3 (by omega)
  have hs := hs.below b3 (by omega)
  have B3 := B2.trans (b3.mono (by omega))
  clear b3 B2
  rw [HZ.out]
  go_wp2_with fail
  refine (i_ValidSuite hm (by omega) hs (by omega) HSG.out).mono ?_
  rintro e w4 ⟨rfl, d4⟩
  have b4 := Dr.below d4 w3.heap.size
  have z4 := Dr.le d4
  clear d4
  have hm := hm.below b4 (by omega)
  have hs := hs.below b4 (by omega)
  have B4 := B3.trans (b4.mono (by omega))
  clear b4 B3
  rw [HV.out]
  have HALL : Hid (z = (apL m t).all fun p => eqII (cuL m s (rowB s p) t) [p]) := by
    show _ = _
    rw [ap_yes HOK.out (inR_true.2 (by omega)), ← lo_all HC.out, HZ.out]
  have HROL : Hid (∀ p ∈ apL m t, roL m s [p] = rowB s p) := fun p hp => by
    rw [ap_yes HOK.out (inR_true.2 (by omega))] at hp
    exact lo_row HOK.out HOS.out hp
  have HPL := @apL_len m t
  have HPR : Hid (∀ r ∈ apL m t, r.length ≤ 5) := fun r hr => by have := apL_row r hr; omega
  obtain ⟨P, hP⟩ : ∃ P, apL m t = P := ⟨_, rfl⟩
  rw [hP] at HALL HROL HPL HPR
  have HP := Lib.hid hP
  clear hP hzz
  go_wp2_with fail
  refine (i_AllPatterns hm (by omega) (by omega) (by omega) (by omega)).mono ?_
  rintro e w5 ⟨Aa, Ac, rfl, A, b5⟩
  have z5 := b5.size
  have hm := hm.below b5 (by omega)
  have hs := hs.below b5 (by omega)
  have B5 := B4.trans (b5.mono (by omega))
  clear b5 B4
  rw [HP.out] at A
  rw [HP.out]
  have ha0 : Hid ((P.take 0).all (fun p => eqII (cuL m s (rowB s p) t) [p]) = true) := by show _ = _; simp
  go_wp2
  go_loopw [8, 9, 10] (fun b i _ wr => ∃ (k : Nat) (x : Bool), k ≤ P.length ∧ i = .int .i64 k ∧ b = .bool x ∧ Hid ((P.take k).all (fun p => eqII (cuL m s (rowB s p) t) [p]) = x) ∧ Below w5.heap.size w5 wr) (fun _ i _ _ => P.length - (intOf i).toNat)
  case atStart => exact ⟨0, true, Nat.zero_le _, rfl, rfl, ha0, Below.refl _ _⟩
  case round =>
    clear ha0
    obtain ⟨k, x, hk, rfl, rfl, HX, hd⟩ := hrel
    have hz := hd.size
    have hm := hm.below hd (by omega)
    have hs := hs.below hd (by omega)
    have A := A.below hd (by omega)
    have BB := B5.trans (hd.mono (by omega))
    by_cases hlt : k < P.length
    · skip
      obtain ⟨bx, o1, a5, c5, p, ha, _, hbh, hcell, hp, hx, hcp⟩ := A.rii.atc hlt
      have hidx := idxII ha hlt Ac
      have hpl : p.length ≤ 5 := HPR.out p (List.mem_of_getElem? hx.out)
      have HRP := Lib.hid (HROL.out p (List.mem_of_getElem? hx.out))
      have HSN : Hid ((P.take (k + 1)).all (fun p => eqII (cuL m s (rowB s p) t) [p]) = (x && eqII (cuL m s (rowB s p) t) [p])) := by
        show _ = _
        rw [take_snoc hx.out, List.all_append, HX.out]; simp
      obtain ⟨F, hF⟩ : ∃ F, rowB s p = F := ⟨_, rfl⟩
      have hFL : F.length ≤ 24 := by rw [← hF]; unfold rowB; rw [List.length_map]; exact hsl
      rw [hF] at HRP HSN
      obtain ⟨U, hU⟩ : ∃ U, cuL m s F t = U := ⟨_, rfl⟩
      have HUL := @cuL_len m s F t
      have HUG := Lib.hid (@cuL_gr m s F t).2
      rw [hU] at HSN HUL HUG
      have HU := Lib.hid hU
      obtain ⟨y, hy⟩ : ∃ y, eqII U [p] = y := ⟨_, rfl⟩
      rw [hy] at HSN
      have HY := Lib.hid hy
      clear hF hU hy ha hx HX
      have HBX := Lib.hid (riiBox (lo := w.heap.size) (hp.wide (by omega) (Nat.le_refl _)) hcp (by omega) (by omega))
      have hbA := (Below.refl wr.heap.size wr).alloc (Nat.le_refl _) (.cells #[.slice a5 p.length c5] 23)
      have zA : wr.heap.size + 1 ≤ (wr.alloc (.cells #[.slice a5 p.length c5] 23)).heap.size ∧ (wr.alloc (.cells #[.slice a5 p.length c5] 23)).heap.size ≤ wr.heap.size + 1 := by simp
      have hmA := hm.below hbA (by omega)
      have hsA := hs.below hbA (by omega)
      go_wp2_with fail
      refine (i_ResultsOf (b := [p]) hmA (by omega) hsA (by omega) HSG.out HBX.out (by simp) (by intro r hr; simp at hr; subst hr; omega) (by omega) (by omega)).mono ?_
      rintro e v0 ⟨Fa, Fc, rfl, Rr, b1⟩
      rw [HRP.out] at Rr
      rw [HRP.out]
      have zz := b1.size
      have hbw := hbA.trans (b1.mono (by omega))
      have hm := hm.below hbw (by omega)
      have hs := hs.below hbw (by omega)
      have hp := hp.below hbw (by omega)
      have hcell := (hbw.cell (p := ⟨bx, o1 + k, none⟩) (by show bx < _; omega)).trans hcell
      have hd1 := hd.trans (hbw.mono (by omega))
      clear hbA b1 hmA hsA HBX BB hbw A
      have hq0 : Below v0.heap.size v0 v0 := Below.refl _ _
      cases x
      · skip
        have HSN : Hid ((P.take (k + 1)).all (fun p => eqII (cuL m s (rowB s p) t) [p]) = false) := by show _ = _; rw [HSN.out]; rfl
        go_wp2_with fail
        go_quiet (fail)
        go_wp2
        go_roundw
        case rel => exact ⟨k + 1, false, by omega, by go_num, rfl, HSN, hd1.trans (Dr.below (Dr.drewN (Dr.refl _) _) _)⟩
        case measure => simp [intOf]; omega
      · skip
        have HSN : Hid ((P.take (k + 1)).all (fun p => eqII (cuL m s (rowB s p) t) [p]) = y) := by show _ = _; rw [HSN.out]; rfl
        have HCC : Hid (∀ w', Below v0.heap.size v0 w' → Calls Try.prog 101 #[.slice a1 m.length c1, .slice a2 s.length c2, .slice Fa F.length Fc, .int .i64 t] w' (NewII w' U)) := fun w' hb => by
          have hz9 := hb.size
          have h := i_CulpritsOf (c := c1) (c1 := c2) (c2 := Fc) (t := t) (hm.below hb (by omega)) (by omega) (hs.below hb (by omega)) (by omega) HSG.out (Rr.ri.below hb (by omega)) (by omega) (by omega) (by omega) (by omega) (by omega) (by omega)
          rw [HU.out] at h; exact h
        have HEQ : Hid (∀ (w' : World) (ua ub : Option Addr) (uc ud : Nat), RII w' 0 w'.heap.size ua U → RII w' 0 w'.heap.size ub [p] → Calls Try.prog 37 #[.slice ua U.length uc, .slice ub 1 ud] w' (RO w' (.bool y))) := fun w' ua ub uc ud h1 h2 => by
          have h := l_equalLists (c := uc) (d := ud) h1 h2 (by omega) (by simp) HUG.out (by intro r hr; simp at hr; subst hr; omega)
          rw [HY.out] at h; exact h
        have HS : Hid (∀ w', Below v0.heap.size v0 w' → w'.cell? ⟨bx, o1 + k, none⟩ = some (.slice a5 p.length c5)) := fun w' hb => (hb.cell (p := ⟨bx, o1 + k, none⟩) (by show bx < _; omega)).trans hcell
        clear hcell
        go_wp2_with fail
        go_region_held3 (fun w' => w'.cell? ⟨bx, o1 + k, none⟩ = some (.slice a5 p.length c5)) (first | (refine HS.out _ ?_; (repeat (first | with_reducible exact hq2 | with_reducible exact hq1 | with_reducible exact hq0 | with_reducible refine belowA ?_ _ | with_reducible refine belowD ?_))) | go_keep) ((first
          | (go_at_call 101; refine (HCC.out _ (by (repeat (first | with_reducible exact hq2 | with_reducible exact hq1 | with_reducible exact hq0 | with_reducible refine belowA ?_ _ | with_reducible refine belowD ?_)))).mono ?_; rintro e v1 ⟨Ua, Uc, rfl, U1, hbC⟩; have hq1 : Below v0.heap.size v0 v1 := belowStep (by (repeat (first | with_reducible exact hq2 | with_reducible exact hq1 | with_reducible exact hq0 | with_reducible refine belowA ?_ _ | with_reducible refine belowD ?_))) hbC; have hU1 : RII v1 0 v1.heap.size Ua U := U1.rii.wide (Nat.zero_le _) (Nat.le_refl _))
          | (go_at_call 37; refine (HEQ.out _ _ _ _ _ (by (repeat (first | with_reducible exact hU1 | with_reducible refine boxD ?_ | with_reducible refine boxA ?_ _))) (by (repeat (first | with_reducible exact hq2 | with_reducible exact hq1 | with_reducible exact hq0 | with_reducible refine belowA ?_ _ | with_reducible refine belowD ?_ | with_reducible refine boxHere hp hcp (by omega) ?_ ?_ | with_reducible refine boxD ?_ | with_reducible refine boxB ?_ hbC | rfl)))).mono ?_; rintro e v2 ⟨rfl, d2⟩; have hq2 : Below v0.heap.size v0 v2 := belowStep (by (repeat (first | with_reducible exact hq2 | with_reducible exact hq1 | with_reducible exact hq0 | with_reducible refine belowA ?_ _ | with_reducible refine belowD ?_))) (Dr.below d2 _))))
        all_goals
          have hd3 := hd1.trans (hq2.mono (by omega))
          go_wp2
          go_roundw
          case rel => exact ⟨k + 1, y, by omega, by go_num, rfl, HSN, hd3⟩
          case measure => simp [intOf]; omega
    · skip
      have HT : Hid (P.take k = P) := List.take_of_length_le (by omega)
      rw [HT.out] at HX
      have hxz : x = z := by rw [← HX.out]; exact HALL.out.symm
      subst hxz
      go_wp2
      go_ret
      exact ⟨rfl, BB⟩

end Go.Proofs.Ytehoagbpgahopaa
