/- The walk of FnGrowSuite: it returns true and writes nothing that was there. -/
import Derived.Test.YtekkhadlchfjnaaRo
import Derived.Test.YtekkhadlchfjnaaRi
import Derived.Test.YtekkhadlchfjnaaVs
import Derived.Test.YtekkhadlchfjnaaVb
import Derived.Test.YtekkhadlchfjnaaYi
namespace Go.Proofs.Ytekkhadlchfjnaa
open Go.RowKit

theorem sliceToNil {a : Option Addr} {c : Nat} (wx : World) : (Instr.slice 24 (.slice a 0 c) none (some (.int .i64 0)) none).run Try.prog wx = .ok (.slice a 0 c) wx := by
  rw [run_slice_h (P := Try.prog) (w := wx) 24 a 0 c undIIe .i64 0 (by omega) (by omega)]
  have hs := sizeI wx
  rw [elemII]
  cases a <;> simp [hs, Result.andThen, sliced, Addr.add]

set_option maxRecDepth 100000 in
set_option maxHeartbeats 2000000 in
theorem law_FnGrowSuite {m0 : Nat} {a0 : Option Addr} {c0 : Nat} {w : World} (f0 : RB w w.heap.size a0 m0) (l0 : m0 ≤ c0) :
    Calls Try.prog 8 #[.slice a0 m0 c0] w (Tru w) := by
  by_cases hb : m0 ≤ 1048576
  case neg =>
    go_enter Try.func8, Try.ntmps8
    go_wp2
    go_ret
    exact ⟨rfl, Below.refl _ _⟩
  go_enter Try.func8, Try.ntmps8
  go_wp2_with fail
  refine (s_DrawGrowSuite f0 l0 hb).mono ?_
  rintro e w1 ⟨a1, c1, m, a2, c2, s, t, rfl, ⟨hG, hS, ht0, ht1⟩, B1⟩
  have z1 := B1.size
  have hm := hG.ri
  have hs := hS.ric
  have hl10 := hG.lp.1
  have hsl := hS.sq.1
  have scap := hS.ric.cap
  have HSR : Hid (∀ r ∈ s, r.length ≤ 12) := fun r h => (hS.sq.2 r h).1
  have HSG : Hid (∀ r ∈ s, r.length ≤ 9223372036854775807) := fun r h => by have := (hS.sq.2 r h).1; omega
  clear hG hS
  clear f0
  obtain ⟨L, hL⟩ : ∃ L, gsL m s t = L := ⟨_, rfl⟩
  obtain ⟨b, hB⟩ : ∃ b, gsB m s t = b := ⟨_, rfl⟩
  have HL := Lib.hid hL
  have HB := Lib.hid hB
  have HLN := @gsL_len m s t
  have HGR := Lib.hid (@gsL_gr m s t).2
  have HRW := Lib.hid (@gsL_row m s t)
  rw [hL] at HLN HGR HRW
  have heqL : eqII L L = true := eqII_true.2 rfl
  clear hL hB
  cases b
  · skip
    go_wp2_with fail
    refine (i_GrowSuite hm (by omega) hs.rii (by omega) HSG.out (by omega) (by omega) (by omega) (by omega)).mono ?_
    rintro e w2 ⟨Aa, Ac, rfl, A, b2⟩
    have z2 := b2.size
    have hm := hm.below b2 (by omega)
    have hs := hs.below b2 (by omega)
    have B2 := B1.trans (b2.mono (by omega))
    clear b2 B1
    rw [HL.out] at A
    rw [HL.out, HB.out]
    go_wp2_with fail
    refine (s_GrowSuite hm (by omega) hs.rii (by omega) HSG.out (by omega) (by omega) (by omega) (by omega)).mono ?_
    rintro e w3 ⟨Sa, Sc, rfl, S, b3⟩
    have z3 := b3.size
    have hm := hm.below b3 (by omega)
    have hs := hs.below b3 (by omega)
    have A := A.below b3 (by omega)
    have B3 := B2.trans (b3.mono (by omega))
    clear b3 B2
    rw [HL.out] at S
    rw [HL.out, HB.out]
    go_wp2_with fail
    refine (l_equalLists A.rii S.rii (by omega) (by omega) HGR.out HGR.out).mono ?_
    rintro e w4 ⟨rfl, d4⟩
    have b4 := Dr.below d4 w3.heap.size
    have z4 := Dr.le d4
    clear d4
    have hm := hm.below b4 (by omega)
    have hs := hs.below b4 (by omega)
    have A := A.below b4 (by omega)
    have S := S.below b4 (by omega)
    have B4 := B3.trans (b4.mono (by omega))
    clear b4 B3
    rw [heqL]
    go_wp2_with fail
    refine (l_equalLists A.rii S.rii (by omega) (by omega) HGR.out HGR.out).mono ?_
    rintro e w5 ⟨rfl, d5⟩
    have b5 := Dr.below d5 w4.heap.size
    have z5 := Dr.le d5
    clear d5
    have hm := hm.below b5 (by omega)
    have hs := hs.below b5 (by omega)
    have A := A.below b5 (by omega)
    have S := S.below b5 (by omega)
    have B5 := B4.trans (b5.mono (by omega))
    clear b5 B4
    rw [heqL]
    go_wp2
    go_ret
    exact ⟨rfl, B5⟩
  go_wp2_with fail
  refine (i_GrowSuite hm (by omega) hs.rii (by omega) HSG.out (by omega) (by omega) (by omega) (by omega)).mono ?_
  rintro e w2 ⟨Aa, Ac, rfl, A, b2⟩
  have z2 := b2.size
  have hm := hm.below b2 (by omega)
  have hs := hs.below b2 (by omega)
  have B2 := B1.trans (b2.mono (by omega))
  clear b2 B1
  rw [HL.out] at A
  rw [HL.out, HB.out]
  go_wp2_with fail
  refine (s_GrowSuite hm (by omega) hs.rii (by omega) HSG.out (by omega) (by omega) (by omega) (by omega)).mono ?_
  rintro e w3 ⟨Sa, Sc, rfl, S, b3⟩
  have z3 := b3.size
  have hm := hm.below b3 (by omega)
  have hs := hs.below b3 (by omega)
  have A := A.below b3 (by omega)
  have B3 := B2.trans (b3.mono (by omega))
  clear b3 B2
  rw [HL.out] at S
  rw [HL.out, HB.out]
  go_wp2_with fail
  refine (l_equalLists A.rii S.rii (by omega) (by omega) HGR.out HGR.out).mono ?_
  rintro e w4 ⟨rfl, d4⟩
  have b4 := Dr.below d4 w3.heap.size
  have z4 := Dr.le d4
  clear d4
  have hm := hm.below b4 (by omega)
  have hs := hs.below b4 (by omega)
  have A := A.below b4 (by omega)
  have S := S.below b4 (by omega)
  have B4 := B3.trans (b4.mono (by omega))
  clear b4 B3
  rw [heqL]
  have hF := gs_facts HB.out
  rw [HL.out] at hF
  obtain ⟨hC, hsL, hbe, hic, htk⟩ := hF
  have HC := Lib.hid hC; have HBE := Lib.hid hbe; have HIC := Lib.hid hic; have HTK := Lib.hid htk
  have HG9 : Hid (∀ r ∈ L, r.length ≤ 9223372036854775807) := fun r h => by have := HGR.out r h; omega
  have hsl := (okC_parts HC.out).2.2.1
  have HSG4 : Hid (∀ r ∈ s, r.length ≤ 4611686018427387904) := fun r h => by have := HSR.out r h; omega
  clear hC hbe hic htk S
  have Acap := A.cap
  have hq0 : Below w4.heap.size w4 w4 := Below.refl _ _
  go_wp2
  go_loopw [10] (fun i wr => ∃ k : Nat, s.length ≤ k ∧ k ≤ L.length ∧ i = .int .i64 k ∧ Below w4.heap.size w4 wr) (fun i _ => L.length - (intOf i).toNat)
  case atStart => exact ⟨s.length, Nat.le_refl _, hsL, rfl, hq0⟩
  case round =>
    obtain ⟨k, hk0, hk, rfl, hd⟩ := hrel
    have hz := hd.size
    have hm := hm.below hd (by omega)
    have hs := hs.below hd (by omega)
    have A := A.below hd (by omega)
    have BB := B4.trans (hd.mono (by omega))
    by_cases hlt : k < L.length
    · skip
      obtain ⟨b, o, a3, c3, r, ha, hb1, hb2, hcell, hr, hx⟩ := A.rii.at hlt
      subst ha
      have hidx := idxII (a := some ⟨b, o, none⟩) rfl hlt Ac
      have hst := A.rii.takeR k
      have hBk : Hid (beL m (L.take k) t = r) := HBE.out k r hk0 hx.out
      have hrl : r.length ≤ 5 := by have := HRW.out r (List.mem_of_getElem? hx.out); omega
      have HG9k : Hid (∀ r ∈ L.take k, r.length ≤ 9223372036854775807) := fun r hr => HG9.out r (List.mem_of_mem_take hr)
      obtain ⟨q, hq⟩ : ∃ x, L.take k = x := ⟨_, rfl⟩
      have hqk : q.length = k := by rw [← hq]; simp; omega
      rw [hq] at hst hBk HG9k
      have hsl2 := fun wx => sliceToII (b := b) (o := o) (n := L.length) (c := Ac) (k := q.length) (z := (k : Int)) (by omega) (by omega) wx
      have hql : q.length ≤ 20 := by omega
      have heq : eqI r r = true := eqI_true.2 rfl
      clear hq
      have HC1 : Hid (∀ w', Below wr.heap.size wr w' → Calls Try.prog 38 #[.slice a1 m.length c1, .slice (some ⟨b, o, none⟩) q.length Ac, .int .i64 t] w' (NewI w' r)) := fun w' hb => by
        rw [← hBk.out]
        exact i_BestTest (hm.below hb (by omega)) (by omega) (hst.below hb (by omega)) (by omega) HG9k.out (by omega) (by omega) (by have := hb.size; omega) (by have := hb.size; omega)
      have hkq : Hid (q.length = k) := hqk
      clear hqk
      have hq1 : Below wr.heap.size wr wr := Below.refl _ _
      have hbs : b < wr.heap.size := by omega
      have HS : Hid (∀ w', Below wr.heap.size wr w' → w'.cell? ⟨b, o + k, none⟩ = some (.slice a3 r.length c3)) := fun w' hb => (hb.cell (p := ⟨b, o + k, none⟩) (by show b < _; omega)).trans hcell
      have HC2 : Hid (∀ (w2 w3 : World) a5 c5, Below wr.heap.size wr w2 → OIc w2 w3.heap.size w2.heap.size a5 c5 r → Calls Try.prog 29 #[.slice a3 r.length c3, .slice a5 r.length c5] w2 (RO w2 (.bool true))) := fun w2 w3 a5 c5 hb ho => by
        have h := l_equalInts (c := c3) (d := c5) (hr.below hb (by omega)) ho.oi.ri (by omega) (by omega)
        rw [heq] at h; exact h
      clear hcell hidx hst heq
      have hidx := idxII (a := some ⟨b, o, none⟩) rfl hlt Ac
      go_wp2_with fail
      go_region_held3 (fun w' => w'.cell? ⟨b, o + k, none⟩ = some (.slice a3 r.length c3)) (first | exact HS.out _ (by first | exact hq3 | exact hq2 | exact hq1.drew | exact hq1) | go_keep) ((first
        | (go_at_call 38; refine (HC1.out _ (by first | exact hq1.drew | exact hq1)).mono ?_; rintro e w2 ⟨a5, c5, rfl, h5, hb5⟩; have hq2 : Below wr.heap.size wr w2 := (by first | exact hq1.drew.trans hb5 | exact hq1.trans hb5))
        | (go_at_call 29; refine (HC2.out w2 _ _ _ hq2 h5).mono ?_; rintro e w3 ⟨rfl, d3⟩; have hq3 : Below wr.heap.size wr w3 := hq2.trans (Dr.below d3 _))))
      all_goals
        have hd1 := (hd.trans (hq2.mono (by omega))).trans (Dr.below d3 _)
        go_wp2
        go_roundw
        case rel => exact ⟨k + 1, by omega, by omega, by go_num, hd1⟩
        case measure => simp [intOf]; omega
    · skip
      have hts := HTK.out
      by_cases hL0 : L.length = 0
      · skip
        have hs0 : s.length = 0 := by omega
        obtain rfl : s = [] := List.eq_nil_of_length_eq_zero hs0
        obtain rfl : L = [] := List.eq_nil_of_length_eq_zero hL0
        have hsl2 := fun wx => sliceToNil (a := Aa) (c := Ac) wx
        have hes : eqII ([] : List (List Int)) [] = true := eqII_true.2 rfl
        go_wp2_with fail
        refine (i_IsCovering hm (by omega) A.rii (by omega) HG9.out (by omega) (by omega) (by omega) (by omega)).mono ?_
        rintro e v2 ⟨rfl, b2⟩
        rw [HIC.out]
        have BB := BB.trans (b2.mono (by omega))
        go_wp2_with fail
        refine (l_equalLists (x := []) (y := []) (RII.nil _ 0 0 _) (RII.nil _ 0 0 _) (by simp) (by simp) (by simp) (by simp)).mono ?_
        rintro e v3 ⟨rfl, d3⟩
        rw [hes]
        go_wp2
        go_ret
        exact ⟨rfl, BB.trans (Dr.below d3 _)⟩
      · skip
        obtain ⟨b, o, _, _, _, ha, _⟩ := A.rii.at (k := 0) (by omega)
        subst ha
        have hst := A.rii.takeR s.length
        rw [hts] at hst
        have hsl2 := fun wx => sliceToII (b := b) (o := o) (n := L.length) (c := Ac) (k := s.length) (z := (s.length : Int)) rfl (by omega) wx
        have hes : eqII s s = true := eqII_true.2 rfl
        go_wp2_with fail
        refine (i_IsCovering hm (by omega) A.rii (by omega) HG9.out (by omega) (by omega) (by omega) (by omega)).mono ?_
        rintro e v2 ⟨rfl, b2⟩
        rw [HIC.out]
        have zz := b2.size
        have hst := hst.below b2 (by omega)
        have hs := hs.below b2 (by omega)
        have BB := BB.trans (b2.mono (by omega))
        go_wp2_with fail
        refine (l_equalLists hst hs.rii (by omega) (by omega) HSG4.out HSG4.out).mono ?_
        rintro e v3 ⟨rfl, d3⟩
        rw [hes]
        go_wp2
        go_ret
        exact ⟨rfl, BB.trans (Dr.below d3 _)⟩

end Go.Proofs.Ytekkhadlchfjnaa
