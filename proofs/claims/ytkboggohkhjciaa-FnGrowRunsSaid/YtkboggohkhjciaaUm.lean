/- Walks: GrowRuns of the program. -/
import Derived.Test.YtkboggohkhjciaaUl
namespace Go.Proofs.Ytkboggohkhjciaa
open Go Go.RowKit

theorem gw_uo {n t : Int} : uoG n [] t = gwG n t := by unfold uoG gwG okRs; simp
theorem gw_no {n t : Int} (h : gwB n t = false) : gwL n t = [] ∧ gwB n t = false := ⟨by unfold gwL; rw [h]; rfl, h⟩
theorem gw_g {n t : Int} (h : gwG n t = false) : gwB n t = false := by unfold gwB; rw [h]; rfl
theorem gw_m {n t : Int} (h : gwG n t = true) : 1 ≤ n ∧ n ≤ 5 ∧ 0 ≤ t ∧ t ≤ n := by
  simp only [gwG, Bool.and_eq_true] at h
  have h1 := inR_true.1 h.1; have h2 := inR_true.1 h.2; omega
theorem gw_some {n t : Int} (h : gwG n t = true) (hl : (gwR n t).length ≤ 20) : gwL n t = gwR n t ∧ gwB n t = true := by
  have hb : gwB n t = true := by unfold gwB; rw [h, show decide ((gwR n t).length ≤ 20) = true from by simpa using hl]; rfl
  exact ⟨by unfold gwL; rw [hb]; rfl, hb⟩
theorem gw_big {n t : Int} (hl : 20 < (gwR n t).length) : gwL n t = [] ∧ gwB n t = false := gw_no (by unfold gwB; rw [show decide ((gwR n t).length ≤ 20) = false from by simp; omega]; simp)
theorem alE_ne {N : Nat} (h5 : N ≤ 5) : alE N N ≠ [] := by
  have : ∀ k : Fin 6, alE k.1 k.1 ≠ [] := by decide
  exact this ⟨N, by omega⟩
def lenV5 : Value → Nat
  | .slice _ n _ => n
  | _ => 0

set_option maxRecDepth 100000 in
set_option maxHeartbeats 4000000 in
theorem i_GrowRuns {n t : Int} {w : World} (h0 : -9223372036854775808 ≤ n) (h1 : n ≤ 9223372036854775807) (_ht0 : -9223372036854775808 ≤ t) (_ht1 : t ≤ 9223372036854775807) :
    Calls Try.prog 36 #[.int .i64 n, .int .i64 t] w (NewLB w (gwL n t) (gwB n t)) := by
  have HCO := Lib.hid (i_canOrder (m := []) (t := t) (a := none) (c := 0) (lo := 0) (hi' := 0) (w := w) h0 h1 (RII.nil _ 0 0 _) (by simp) (by simp) (by omega))
  rw [gw_uo] at HCO
  cases hv : gwG n t
  · have HV := Lib.hid hv; clear hv
    have HNO := Lib.hid (gw_no (gw_g HV.out))
    go_enter Try.func36, Try.ntmps36
    go_wp2_with fail
    refine HCO.out.mono ?_
    rintro e w1 ⟨rfl, b1⟩
    rw [HV.out]
    go_wp2
    go_ret2
    exact NewLB.none HNO.out b1
  have HV := Lib.hid hv
  have hn := gw_m hv
  clear hv
  obtain ⟨N, rfl⟩ := Int.eq_ofNat_of_zero_le (show 0 ≤ n by omega)
  obtain ⟨q, rfl⟩ := Int.eq_ofNat_of_zero_le (show 0 ≤ t by omega)
  have HALL : Hid (∀ r ∈ alE N N, r.length = N ∧ okE ((N : Int) - 1) r = true) := fun r hr => alE_row hr
  have HLEF : Hid (∀ l ∈ alE N q, okE ((N : Int) - 1) l = true) := fun l hl => (alE_row hl).2
  have HAN := Lib.hid (alE_ne (N := N) (by omega))
  have hal := alE_len (n := N) (t := N) (by omega) (by omega)
  have hll := alE_len (n := N) (t := q) (by omega) (by omega)
  have HGR : Hid (gwR (N : Int) (q : Int) = grE (alE N N) 21 [] (alE N q)) := rfl
  obtain ⟨R, hR⟩ : ∃ R, gwR (N : Int) (q : Int) = R := ⟨_, rfl⟩
  have HS : Hid (R.length ≤ 20 → gwL (N : Int) (q : Int) = R ∧ gwB (N : Int) (q : Int) = true) := fun h => by rw [← hR] at h ⊢; exact gw_some HV.out h
  have HB : Hid (20 < R.length → gwL (N : Int) (q : Int) = [] ∧ gwB (N : Int) (q : Int) = false) := fun h => by rw [← hR] at h; exact gw_big h
  rw [hR] at HGR
  obtain ⟨all, hall⟩ : ∃ all, alE N N = all := ⟨_, rfl⟩
  obtain ⟨lf, hlf⟩ : ∃ lf, alE N q = lf := ⟨_, rfl⟩
  have HAE := Lib.hid hall
  have HLE := Lib.hid hlf
  rw [hall, hlf] at HGR
  rw [hall] at HALL HAN hal
  rw [hlf] at HLEF hll
  clear hR hall hlf h0 h1
  go_enter Try.func36, Try.ntmps36
  go_wp2_with fail
  refine HCO.out.mono ?_
  rintro e w1 ⟨rfl, b1⟩
  rw [HV.out]
  have z1 := b1.size
  clear HCO
  go_wp2_with fail
  refine (i_lists (n := N) (t := N) (by omega) (by omega)).mono ?_
  rintro e w2 ⟨a2, c2, rfl, h2, b2⟩
  rw [HAE.out] at h2
  rw [HAE.out]
  have z2 := b2.size
  have hb02 := b1.trans (b2.mono z1)
  clear b1 b2
  go_wp2_with fail
  refine (i_lists (n := N) (t := q) (by omega) (by omega)).mono ?_
  rintro e w3 ⟨a3, c3, rfl, h3, b3⟩
  rw [HLE.out] at h3
  rw [HLE.out]
  have z3 := b3.size
  have hb03 := hb02.trans (b3.mono (by omega))
  have hA3 : RII w3 w1.heap.size w2.heap.size a2 all := h2.rii.below b3 (Nat.le_refl _)
  have hst : OIX w3 w2.heap.size w3.heap.size w3.heap.size a3 c3 lf := OIX.of h3 (Nat.le_refl _)
  clear hb02 b3 h2 h3
  go_wp2
  go_loopw [7, 8] (fun vg vu wr => ∃ (out left : List (List Int)) (ag av : Option Addr) (cg cv Bq : Nat), vg = .slice ag out.length cg ∧ vu = .slice av left.length cv ∧ OwnLL wr w3.heap.size (.slice ag out.length cg) out ∧ OIX wr w2.heap.size w3.heap.size Bq av cv left ∧ (∀ g, (Value.slice ag out.length cg).ownBlock = some g → w3.heap.size ≤ g ∧ g < Bq) ∧ Bq ≤ wr.heap.size ∧ Below w3.heap.size w3 wr ∧ out.length ≤ 20 ∧ left.length ≤ 3125 ∧
    Hid (grE all (21 - out.length) out left = R ∧ ∀ l ∈ left, okE ((N : Int) - 1) l = true)) (fun vg _ _ => 21 - lenV5 vg)
  case atStart => exact ⟨[], lf, none, a3, 0, c3, w3.heap.size, rfl, rfl, OwnLL.nilv _ _, hst, (fun g hg => by cases hg), Nat.le_refl _, Below.refl _ _, by simp, hll, HGR.out.symm, HLEF.out⟩
  case round =>
    clear hst
    obtain ⟨out, left, ag, av, cg, cv, Bq, rfl, rfl, hown, hox, hgB, hBq, hd, hol, hlen, hI⟩ := hrel
    have hz := hd.size
    by_cases hl0 : left.length = 0
    · have HE : Hid (R = out) := by show _ = _; rw [← hI.out.1, List.eq_nil_of_length_eq_zero hl0, grE_done]
      obtain ⟨a5, c5, hv5, h5⟩ := hown.slice
      cases hv5
      have HYE := Lib.hid (HS.out (by rw [HE.out]; exact hol))
      rw [HE.out] at HYE
      go_wp2
      go_ret2
      exact NewLB.some HYE.out rfl ⟨h5.oii.wide (by omega) (Nat.le_refl _), h5.cap⟩ (hb03.trans (hd.mono (by omega)))
    by_cases h20 : out.length = 20
    · have HNO : Hid (gwL (N : Int) (q : Int) = [] ∧ gwB (N : Int) (q : Int) = false) := HB.out (by
        rw [← hI.out.1, h20, grE_step _ _ _ (by intro e; rw [e] at hl0; simp at hl0)]
        simp [grE, h20])
      go_wp2
      go_ret2
      exact NewLB.none HNO.out (hb03.trans (hd.mono (by omega)))
    have hbm := bstL_mem (nwN left) HAN.out
    have hbr := HALL.out _ hbm
    have hnext : Hid (grE all (21 - (out ++ [bstL (nwN left) all]).length) (out ++ [bstL (nwN left) all]) (hidA (bstL (nwN left) all) left) = R) := by
      show _ = _
      rw [← hI.out.1, show 21 - out.length = (20 - out.length) + 1 from by omega, grE_step _ _ _ (by intro e; rw [e] at hl0; simp at hl0)]
      simp only [List.length_append, List.length_cons, List.length_nil]
      rw [show 21 - (out.length + (0 + 1)) = 20 - out.length from by omega]
    have HBR := Lib.hid (i_bestRun (N := N) (ca := c2) (hA3.below hd (by omega)) (by omega) hox (by omega) (by omega) (by omega) HALL.out hI.out.2 hal hlen HAN.out)
    obtain ⟨best, hbest⟩ : ∃ best, bstL (nwN left) all = best := ⟨_, rfl⟩
    rw [hbest] at hbr hnext HBR
    have HRE := Lib.hid hbr.2
    have HRLI : Hid ((best.length : Int) = (N : Int)) := by show _ = _; rw [hbr.1]
    have HRL := Lib.hid hbr.1
    have hb5 : best.length ≤ 5 := by omega
    have HBN : Hid (best ≠ []) := by intro e; rw [e] at hbr; simp at hbr; omega
    clear hbest hbm hbr
    obtain ⟨wo, rfl⟩ : ∃ x : World, x = wr := ⟨_, rfl⟩
    go_wp2_with fail
    refine HBR.out.mono ?_
    rintro e w4 ⟨ab, cb, rfl, hrb, b4⟩
    have z4 := b4.size
    have hrb4 := hrb.below b4 (by omega)
    clear HBR
    go_wp2_with fail
    refine (x_CloneI hrb4 (by omega) HBN.out (by omega)).mono ?_
    rintro e w5 ⟨a5, c5, rfl, h5, b5⟩
    have z5 := b5.size
    have hb05 := b4.trans (b5.mono z4)
    have hO := OII.one5 (t := 29) (c := c5) rfl (h5.wide z4 (Nat.le_refl _)) (by omega) (Nat.le_refl _)
    have hb6 := hb05.alloc (by omega) (.cells #[.slice a5 best.length c5] 29)
    obtain ⟨A3, C3, G3, hf3, hc3⟩ := Fam.of5 hO
    have hkl : out.length ≤ 1099511627776 := by omega
    have hox6 := hox.below hb6 (by omega)
    have hrb6 := hrb.below hb6 (by omega)
    have hlg := hown.lt
    have hW6 : wo.heap.size ≤ (w5.alloc (.cells #[.slice a5 best.length c5] 29)).heap.size := hb6.size
    clear hO h5 b5 hb05 hrb4 b4 hox hrb
    go_wp2_with (first
      | (at_builtin; refine wpList_appLLg (W0 := wo) rfl _ _ rfl w3.heap.size (.slice ag out.length cg) out [best] rfl hown hb6 (by omega) ⟨w5.heap.size, 0, none⟩ 1 1 rfl rfl A3 C3 G3 hf3 hc3 hkl (by simp) ?_; intro v7 w7 hown7 hb7 hnn7 g2 g4; obtain ⟨a7, c7, hv7, _⟩ := hown7.slice; subst hv7; have z7 := hb7.size; have hox7 := hox6.kept (w' := w7) (fun k hk => hb7.block k hk) (fun g hg1 hg2 => g2.block g hg2 (fun e => by have := hgB g e.symm; omega)) z7; have hrb7 := hrb6.below hb7 (by omega); clear hox6 hrb6)
      | (go_at_call 50; refine (i_orderOf HRLI.out (by omega) HRE.out hrb7 (by omega)).mono ?_; rintro e w8 ⟨rfl, b8⟩; have z8 := b8.size; have hox8 := hox7.below b8 (by omega); clear hox7 hrb7)
      | (go_at_call 56; refine (i_hiddenX (plT_b hb5) (fun l hl => ⟨by have := okE_len (hI.out.2 l hl); omega, fun x hx => by have := okE_mem (hI.out.2 l hl) hx; omega⟩) hox8 (by omega) (by omega) (by omega)).mono ?_; rintro e w9 ⟨a9, c9, rfl, h9, b9⟩)
      | go_in)
    have HEQ := Lib.hid (hid_asc HRE.out HRL.out (fun l hl => hI.out.2 l hl))
    rw [HEQ.out] at h9 ⊢
    have hnl := hid_nw left best
    have HI9 : Hid (∀ l ∈ hidA best left, okE ((N : Int) - 1) l = true) := fun l hl => hI.out.2 l (List.mem_filter.1 (show l ∈ left.filter _ from hl)).1
    have hown9 := hown7.below (b8.trans (b9.mono z8))
    have hlt7 := hown7.lt
    have z9 := b9.size
    have hd9 := ((hd.trans ((hb6.mono hz).trans hb7)).trans (b8.mono (by omega))).trans (b9.mono (by omega))
    have hgB9 : ∀ g, (Value.slice a7 (out ++ [best]).length c7).ownBlock = some g → w3.heap.size ≤ g ∧ g < w8.heap.size := fun g hg => by have := hlt7 g hg; omega
    clear hown7 hown b8 b9 hb7 hb6 hf3 hc3 hnn7 g2 g4 hd hox8 HEQ hlt7 hgB
    go_roundw
    case rel => exact ⟨out ++ [best], hidA best left, a7, a9, c7, c9, _, by simp, rfl, hown9, h9, hgB9, z9, hd9, by simp; omega, by omega, hnext.out, HI9.out⟩
    case measure => simp [lenV5]; omega

end Go.Proofs.Ytkboggohkhjciaa
