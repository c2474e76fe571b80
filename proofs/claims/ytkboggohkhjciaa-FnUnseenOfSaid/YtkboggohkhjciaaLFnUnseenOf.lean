/- The walk of FnUnseenOf: it returns true and writes nothing that was there. -/
import Derived.Test.YtkboggohkhjciaaRc
import Derived.Test.YtkboggohkhjciaaNa
import Derived.Test.YtkboggohkhjciaaNc
import Derived.Test.YtkboggohkhjciaaUb
import Derived.Test.YtkboggohkhjciaaUg
import Derived.Test.YtkboggohkhjciaaUe
import Derived.Test.YtkboggohkhjciaaOc
import Derived.Test.YtkboggohkhjciaaTg
namespace Go.Proofs.Ytkboggohkhjciaa
open Go.RowKit

set_option maxRecDepth 100000 in
set_option maxHeartbeats 2000000 in
theorem law_FnUnseenOf {m0 : Nat} {a0 : Option Addr} {c0 : Nat} {w : World} (f0 : RB w w.heap.size a0 m0) (l0 : m0 ≤ c0) :
    Calls Try.prog 6 #[.slice a0 m0 c0] w (Tru w) := by
  by_cases hb : m0 ≤ 1048576
  case neg =>
    go_enter Try.func6, Try.ntmps6
    go_wp2
    go_ret
    exact ⟨rfl, Below.refl _ _⟩
  go_enter Try.func6, Try.ntmps6
  go_wp2_with fail
  refine (s_DrawUnseenOf f0 l0 hb).mono ?_
  rintro e w1 ⟨n, a2, c2, L, t, rfl, hG, B1⟩
  have z1 := B1.size
  obtain ⟨hG, ht0, ht1⟩ := hG
  have hs := hG.ric
  have hn0 := hG.n0
  have hn6 := hG.n6
  have hlen := hG.len
  have HR6 := Lib.hid hG.row
  have HRG : Hid (∀ r ∈ L, r.length ≤ 9223372036854775807) := fun r h => by have := HR6.out r h; omega
  have scap := hs.cap
  clear hG
  clear f0
  have HUL := @uoL_len n L t
  have HGR := Lib.hid (@uoL_gr n L t).2
  obtain ⟨U, hU⟩ : ∃ U, uoL n L t = U := ⟨_, rfl⟩
  have HU := Lib.hid hU
  rw [hU] at HUL HGR
  have heqL : eqII U U = true := eqII_true.2 rfl
  clear hU
  cases hok : okRs n L
  · skip
    have HV := Lib.hid hok; clear hok
    go_wp2_with fail
    refine (i_UnseenOf (by omega) (by omega) hs.rii (by omega) HRG.out (by omega) (by omega) (by omega)).mono ?_
    rintro e w2 ⟨Aa, Ac, rfl, A, b2⟩
    have z2 := b2.size
    have hs := hs.below b2 (by omega)
    have B2 := B1.trans (b2.mono (by omega))
    clear b2 B1
    rw [HU.out] at A ⊢
    go_wp2_with fail
    refine (s_UnseenOf (by omega) (by omega) hs.rii (by omega) HRG.out (by omega) (by omega) (by omega)).mono ?_
    rintro e w3 ⟨Sa, Sc, rfl, S, b3⟩
    have z3 := b3.size
    have hs := hs.below b3 (by omega)
    have A := A.below b3 (by omega)
    have B3 := B2.trans (b3.mono (by omega))
    clear b3 B2
    rw [HU.out] at S ⊢
    go_wp2_with fail
    refine (l_equalLists A.rii S.rii (by omega) (by omega) HGR.out HGR.out).mono ?_
    rintro e w4 ⟨rfl, d4⟩
    have b4 := Dr.below d4 w3.heap.size
    have z4 := Dr.le d4
    clear d4
    have hs := hs.below b4 (by omega)
    have A := A.below b4 (by omega)
    have S := S.below b4 (by omega)
    have B4 := B3.trans (b4.mono (by omega))
    clear b4 B3
    rw [heqL]
    go_wp2_with fail
    refine (i_ValidRuns (by omega) (by omega) hs.rii (by omega) HRG.out (by omega)).mono ?_
    rintro e w5 ⟨rfl, b5⟩
    have z5 := b5.size
    have hs := hs.below b5 (by omega)
    have A := A.below b5 (by omega)
    have B5 := B4.trans (b5.mono (by omega))
    clear b5 B4
    rw [HV.out]
    go_wp2_with fail
    refine (s_UnseenOf (by omega) (by omega) hs.rii (by omega) HRG.out (by omega) (by omega) (by omega)).mono ?_
    rintro e w6 ⟨S2a, S2c, rfl, S2, b6⟩
    have z6 := b6.size
    have hs := hs.below b6 (by omega)
    have A := A.below b6 (by omega)
    have B6 := B5.trans (b6.mono (by omega))
    clear b6 B5
    rw [HU.out] at S2 ⊢
    go_wp2_with fail
    refine (l_equalLists A.rii S2.rii (by omega) (by omega) HGR.out HGR.out).mono ?_
    rintro e w7 ⟨rfl, d7⟩
    have b7 := Dr.below d7 w6.heap.size
    have z7 := Dr.le d7
    clear d7
    have hs := hs.below b7 (by omega)
    have A := A.below b7 (by omega)
    have S2 := S2.below b7 (by omega)
    have B7 := B6.trans (b7.mono (by omega))
    clear b7 B6
    rw [heqL]
    go_wp2
    go_ret
    exact ⟨rfl, B7⟩
  by_cases k1 : t < 0
  · skip
    have HV := Lib.hid hok; clear hok
    go_wp2_with fail
    refine (i_UnseenOf (by omega) (by omega) hs.rii (by omega) HRG.out (by omega) (by omega) (by omega)).mono ?_
    rintro e w2 ⟨Aa, Ac, rfl, A, b2⟩
    have z2 := b2.size
    have hs := hs.below b2 (by omega)
    have B2 := B1.trans (b2.mono (by omega))
    clear b2 B1
    rw [HU.out] at A ⊢
    go_wp2_with fail
    refine (s_UnseenOf (by omega) (by omega) hs.rii (by omega) HRG.out (by omega) (by omega) (by omega)).mono ?_
    rintro e w3 ⟨Sa, Sc, rfl, S, b3⟩
    have z3 := b3.size
    have hs := hs.below b3 (by omega)
    have A := A.below b3 (by omega)
    have B3 := B2.trans (b3.mono (by omega))
    clear b3 B2
    rw [HU.out] at S ⊢
    go_wp2_with fail
    refine (l_equalLists A.rii S.rii (by omega) (by omega) HGR.out HGR.out).mono ?_
    rintro e w4 ⟨rfl, d4⟩
    have b4 := Dr.below d4 w3.heap.size
    have z4 := Dr.le d4
    clear d4
    have hs := hs.below b4 (by omega)
    have A := A.below b4 (by omega)
    have S := S.below b4 (by omega)
    have B4 := B3.trans (b4.mono (by omega))
    clear b4 B3
    rw [heqL]
    go_wp2_with fail
    refine (i_ValidRuns (by omega) (by omega) hs.rii (by omega) HRG.out (by omega)).mono ?_
    rintro e w5 ⟨rfl, b5⟩
    have z5 := b5.size
    have hs := hs.below b5 (by omega)
    have A := A.below b5 (by omega)
    have B5 := B4.trans (b5.mono (by omega))
    clear b5 B4
    rw [HV.out]
    go_wp2_with fail
    refine (s_UnseenOf (by omega) (by omega) hs.rii (by omega) HRG.out (by omega) (by omega) (by omega)).mono ?_
    rintro e w6 ⟨S2a, S2c, rfl, S2, b6⟩
    have z6 := b6.size
    have hs := hs.below b6 (by omega)
    have A := A.below b6 (by omega)
    have B6 := B5.trans (b6.mono (by omega))
    clear b6 B5
    rw [HU.out] at S2 ⊢
    go_wp2_with fail
    refine (l_equalLists A.rii S2.rii (by omega) (by omega) HGR.out HGR.out).mono ?_
    rintro e w7 ⟨rfl, d7⟩
    have b7 := Dr.below d7 w6.heap.size
    have z7 := Dr.le d7
    clear d7
    have hs := hs.below b7 (by omega)
    have A := A.below b7 (by omega)
    have S2 := S2.below b7 (by omega)
    have B7 := B6.trans (b7.mono (by omega))
    clear b7 B6
    rw [heqL]
    go_wp2
    go_ret
    exact ⟨rfl, B7⟩
  by_cases k2 : n < t
  · skip
    have HV := Lib.hid hok; clear hok
    go_wp2_with fail
    refine (i_UnseenOf (by omega) (by omega) hs.rii (by omega) HRG.out (by omega) (by omega) (by omega)).mono ?_
    rintro e w2 ⟨Aa, Ac, rfl, A, b2⟩
    have z2 := b2.size
    have hs := hs.below b2 (by omega)
    have B2 := B1.trans (b2.mono (by omega))
    clear b2 B1
    rw [HU.out] at A ⊢
    go_wp2_with fail
    refine (s_UnseenOf (by omega) (by omega) hs.rii (by omega) HRG.out (by omega) (by omega) (by omega)).mono ?_
    rintro e w3 ⟨Sa, Sc, rfl, S, b3⟩
    have z3 := b3.size
    have hs := hs.below b3 (by omega)
    have A := A.below b3 (by omega)
    have B3 := B2.trans (b3.mono (by omega))
    clear b3 B2
    rw [HU.out] at S ⊢
    go_wp2_with fail
    refine (l_equalLists A.rii S.rii (by omega) (by omega) HGR.out HGR.out).mono ?_
    rintro e w4 ⟨rfl, d4⟩
    have b4 := Dr.below d4 w3.heap.size
    have z4 := Dr.le d4
    clear d4
    have hs := hs.below b4 (by omega)
    have A := A.below b4 (by omega)
    have S := S.below b4 (by omega)
    have B4 := B3.trans (b4.mono (by omega))
    clear b4 B3
    rw [heqL]
    go_wp2_with fail
    refine (i_ValidRuns (by omega) (by omega) hs.rii (by omega) HRG.out (by omega)).mono ?_
    rintro e w5 ⟨rfl, b5⟩
    have z5 := b5.size
    have hs := hs.below b5 (by omega)
    have A := A.below b5 (by omega)
    have B5 := B4.trans (b5.mono (by omega))
    clear b5 B4
    rw [HV.out]
    go_wp2_with fail
    refine (s_UnseenOf (by omega) (by omega) hs.rii (by omega) HRG.out (by omega) (by omega) (by omega)).mono ?_
    rintro e w6 ⟨S2a, S2c, rfl, S2, b6⟩
    have z6 := b6.size
    have hs := hs.below b6 (by omega)
    have A := A.below b6 (by omega)
    have B6 := B5.trans (b6.mono (by omega))
    clear b6 B5
    rw [HU.out] at S2 ⊢
    go_wp2_with fail
    refine (l_equalLists A.rii S2.rii (by omega) (by omega) HGR.out HGR.out).mono ?_
    rintro e w7 ⟨rfl, d7⟩
    have b7 := Dr.below d7 w6.heap.size
    have z7 := Dr.le d7
    clear d7
    have hs := hs.below b7 (by omega)
    have A := A.below b7 (by omega)
    have S2 := S2.below b7 (by omega)
    have B7 := B6.trans (b7.mono (by omega))
    clear b7 B6
    rw [heqL]
    go_wp2
    go_ret
    exact ⟨rfl, B7⟩
  have HV := Lib.hid hok; clear hok
  go_wp2_with fail
  refine (i_UnseenOf (by omega) (by omega) hs.rii (by omega) HRG.out (by omega) (by omega) (by omega)).mono ?_
  rintro e w2 ⟨Aa, Ac, rfl, A, b2⟩
  have z2 := b2.size
  have hs := hs.below b2 (by omega)
  have B2 := B1.trans (b2.mono (by omega))
  clear b2 B1
  rw [HU.out] at A ⊢
  go_wp2_with fail
  refine (s_UnseenOf (by omega) (by omega) hs.rii (by omega) HRG.out (by omega) (by omega) (by omega)).mono ?_
  rintro e w3 ⟨Sa, Sc, rfl, S, b3⟩
  have z3 := b3.size
  have hs := hs.below b3 (by omega)
  have A := A.below b3 (by omega)
  have B3 := B2.trans (b3.mono (by omega))
  clear b3 B2
  rw [HU.out] at S ⊢
  go_wp2_with fail
  refine (l_equalLists A.rii S.rii (by omega) (by omega) HGR.out HGR.out).mono ?_
  rintro e w4 ⟨rfl, d4⟩
  have b4 := Dr.below d4 w3.heap.size
  have z4 := Dr.le d4
  clear d4
  have hs := hs.below b4 (by omega)
  have A := A.below b4 (by omega)
  have S := S.below b4 (by omega)
  have B4 := B3.trans (b4.mono (by omega))
  clear b4 B3
  rw [heqL]
  go_wp2_with fail
  refine (i_ValidRuns (by omega) (by omega) hs.rii (by omega) HRG.out (by omega)).mono ?_
  rintro e w5 ⟨rfl, b5⟩
  have z5 := b5.size
  have hs := hs.below b5 (by omega)
  have A := A.below b5 (by omega)
  have B5 := B4.trans (b5.mono (by omega))
  clear b5 B4
  rw [HV.out]
  clear S
  have HNS : Hid (∀ (r l : List Int), r ∈ L → l ∈ U → swB n r l = false) := fun r l h1 h2 => uo_no_show h1 (by rw [HU.out]; exact h2)
  go_wp2
  go_loopw [7, 8] (fun i _ wr => ∃ k : Nat, k ≤ U.length ∧ i = .int .i64 k ∧ Below w5.heap.size w5 wr) (fun i _ _ => U.length - (intOf i).toNat)
  case atStart => exact ⟨0, Nat.zero_le _, rfl, Below.refl _ _⟩
  case round =>
    obtain ⟨k, hk, rfl, hd⟩ := hrel
    have hz := hd.size
    by_cases hlt : k < U.length
    · skip
      obtain ⟨wo, rfl⟩ : ∃ x : World, x = wr := ⟨_, rfl⟩
      obtain ⟨b, o, a3, c3, l, ha, _, hbh, hcell, hl, hx⟩ := (A.rii.below hd (by omega)).at hlt
      have hidx := idxII ha hlt Ac
      have hll := HGR.out l (List.mem_of_getElem? hx.out)
      have hs0 := hs.below hd (by omega)
      clear ha
      go_wp2
      go_loopw [8] (fun i wr => ∃ j : Nat, j ≤ L.length ∧ i = .int .i64 j ∧ Below wo.heap.size wo wr) (fun i _ => L.length - (intOf i).toNat)
      case atStart => exact ⟨0, Nat.zero_le _, rfl, Below.refl _ _⟩
      case round =>
        obtain ⟨j, hj, rfl, hd2⟩ := hrel
        have hz2 := hd2.size
        by_cases hlt2 : j < L.length
        · skip
          obtain ⟨b2, o2, a4, c4, r, ha2, _, hbh2, hcell2, hr, hx2⟩ := (hs0.rii.below hd2 (by omega)).atc hlt2
          have hidx2 := idxII ha2 hlt2 c2
          have hr6 := HR6.out r (List.mem_of_getElem? hx2.1.out)
          have HN := Lib.hid (HNS.out r l (List.mem_of_getElem? hx2.1.out) (List.mem_of_getElem? hx.out))
          have hrc := hx2.2
          have hl2 := hl.below hd2 (by omega)
          have hcl2 := (hd2.cell (p := ⟨b, o + k, none⟩) (by show b < _; omega)).trans hcell
          have HS : Hid (∀ w', Below wr.heap.size wr w' → w'.cell? ⟨b, o + k, none⟩ = some (.slice a3 l.length c3) ∧ w'.cell? ⟨b2, o2 + j, none⟩ = some (.slice a4 r.length c4)) := fun w' hb => ⟨(hb.cell (p := ⟨b, o + k, none⟩) (by show b < _; omega)).trans hcl2, (hb.cell (p := ⟨b2, o2 + j, none⟩) (by show b2 < _; omega)).trans hcell2⟩
          have HC1 : Hid (∀ w', Below wr.heap.size wr w' → Calls Try.prog 22 #[.int .i64 n, .slice a4 r.length c4, .slice a3 l.length c3] w' (NewW w' (.bool false))) := fun w' hb => by
            have h := i_Shows (n := n) (c := c4) (c' := c3) (by omega) (by omega) (hr.below hb (by omega)) (by omega) (hl2.below hb (by omega)) (by omega) hrc (by have := hb.size; omega) (by have := hb.size; omega)
            rw [HN.out] at h; exact h
          have hqs : Below wr.heap.size wr wr := Below.refl _ _
          clear hcell hcell2 hcl2 hr hl2 hx2 ha2
          go_wp2_with fail
          go_region_held3 (fun w' => w'.cell? ⟨b, o + k, none⟩ = some (.slice a3 l.length c3) ∧ w'.cell? ⟨b2, o2 + j, none⟩ = some (.slice a4 r.length c4)) (first | exact HS.out _ (by first | exact hqs | exact hqs.drew) | go_keep) ((first
            | (go_at_call 22; ((with_reducible refine Calls.mono (HC1.out _ (by first | exact hqs | exact hqs.drew)) ?_)); rintro e v1 ⟨rfl, hb1⟩; have hqs : Below wr.heap.size wr v1 := (by first | exact hqs.trans (hb1.mono hqs.size) | exact hqs.drew.trans (hb1.mono hqs.size)))
            | fail))
          all_goals
            have hd3 := hd2.trans (hqs.mono (by omega))
            go_wp2
            go_roundw
            case rel => exact ⟨j + 1, by omega, by go_num, hd3⟩
            case measure => simp [intOf]; omega
        · skip
          have hd3 := hd.trans (hd2.mono (by omega))
          go_wp2
          go_roundw
          case rel => exact ⟨k + 1, by omega, by go_num, hd3⟩
          case measure => simp [intOf]; omega
    · skip
      have hs := hs.below hd (by omega)
      have A := A.below hd (by omega)
      have BB := B5.trans (hd.mono (by omega))
      by_cases hL0 : L.length = 0
      · skip
        obtain rfl := List.eq_nil_of_length_eq_zero hL0
        go_wp2
        go_ret
        exact ⟨rfl, BB⟩
      obtain ⟨j, hj⟩ : ∃ j, L.length = j + 1 := ⟨L.length - 1, by omega⟩
      have hlt : j < L.length := by omega
      obtain ⟨b, o, a3, c3, r, ha, _, hbh, hcell, hr, hx⟩ := hs.rii.at hlt
      subst ha
      have hq := hs.rii.takeR j
      have HQG : Hid (∀ r ∈ L.take j, r.length ≤ 9223372036854775807) := fun r hr => HRG.out r (List.mem_of_mem_take hr)
      have hw : IntKind.i64.wrap ((L.length : Int) - 1) = (j : Int) := by rw [IntWalk.i64_in _ (by omega)]; omega
      have hd0 : ((L.length : Int) == 0) = false := by rw [beq_eq_false_iff_ne]; omega
      have HAM := Lib.hid (amgL_iff.2 (fun l (hl : l ∈ U) => uo_take j (by rw [HU.out]; exact hl)))
      obtain ⟨q, hqe⟩ : ∃ q, L.take j = q := ⟨_, rfl⟩
      have hql : q.length = j := by rw [← hqe]; simp; omega
      rw [hqe] at hq HQG
      have hq21 : q.length ≤ 21 := by omega
      have hsl := fun wx => sliceToII (b := b) (o := o) (n := L.length) (c := c2) (k := q.length) (z := (j : Int)) (by omega) (by omega) wx
      rw [hqe] at HAM
      have HQL := @uoL_len n q t
      have HQR := Lib.hid (@uoL_gr n q t).2
      obtain ⟨V, hV⟩ : ∃ V, uoL n q t = V := ⟨_, rfl⟩
      have HV2 := Lib.hid hV
      rw [hV] at HAM HQL HQR
      clear hV hqe hx hcell hr
      have HQL2 := Lib.hid hql; have HJ := Lib.hid hj; clear hql hj
      go_wp2_with fail
      refine (i_UnseenOf (by omega) (by omega) hq (by omega) HQG.out (by omega) (by omega) (by omega)).mono ?_
      rintro e v1 ⟨Va, Vc, rfl, V1, b1⟩
      rw [HV2.out] at V1 ⊢
      have A := A.below b1 (by omega)
      have BB := BB.trans (b1.mono (by omega))
      go_wp2_with fail
      refine (l_among A.rii V1.rii (by omega) (by omega) HGR.out HQR.out).mono ?_
      rintro e v2 ⟨rfl, d2⟩
      rw [HAM.out]
      go_wp2
      go_ret
      exact ⟨rfl, BB.trans (Dr.below d2 _)⟩

end Go.Proofs.Ytkboggohkhjciaa
