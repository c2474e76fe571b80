/- The walk of FnImpliedBans: it returns true and writes nothing that was there. -/
import Derived.Test.YtehoagbpgahopaaRo
import Derived.Test.YtehoagbpgahopaaRi
import Derived.Test.YtehoagbpgahopaaVs
import Derived.Test.YtehoagbpgahopaaVi
import Derived.Test.YtehoagbpgahopaaZu
import Derived.Test.YtehoagbpgahopaaVx
import Derived.Test.YtehoagbpgahopaaZk
import Derived.Test.YtehoagbpgahopaaWm
import Derived.Test.YtehoagbpgahopaaYi
namespace Go.Proofs.Ytehoagbpgahopaa
open Go.RowKit

theorem mB_self : ∀ p : List Int, mB p p = true
  | [] => rfl
  | a :: p => by
    have ih := mB_self p
    unfold mB at ih ⊢
    simp only [List.zip_cons_cons, List.all_cons, ih, beq_self_eq_true, Bool.or_true, Bool.and_true]
/-- a pattern that joined with another is itself -/
def mtF (m q r : List Int) : Bool := jpB m q r && eqI (jpL m q r) q
theorem mt_of {m q r : List Int} (hm : okM m = true) (hq : okP m q = true) (hr : okP m r = true) (h : ∀ x, mB q x = true → mB r x = true) : mtF m q r = true := by
  have hql := okW_len hq
  have hrl := okW_len hr
  have hx : mB q (q.map fun v => if v = -1 then -2 else v) = true := by
    unfold mB
    rw [List.all_eq_true]
    intro z hz
    obtain ⟨k, hk⟩ := List.getElem?_of_mem hz
    rw [List.getElem?_zip_eq_some] at hk
    have h2 := hk.2
    rw [List.getElem?_map, hk.1] at h2
    have h3 : (if z.1 = -1 then -2 else z.1) = z.2 := by simpa using h2
    by_cases h4 : z.1 = -1
    · simp [h4]
    · rw [if_neg h4] at h3; simp [h3]
  have hr2 := h _ hx
  have hat : ∀ (k : Nat) (x y : Int), q[k]? = some x → r[k]? = some y → y = -1 ∨ y = x := by
    intro k x y hx hy
    obtain ⟨z, hz⟩ := at_of_lt (show k < m.length by have := lt_of_at hx; omega)
    have hyb := okW_at hr hy hz
    have h5 := List.all_eq_true.1 (show (r.zip (q.map fun v => if v = -1 then -2 else v)).all (fun z => z.1 == -1 || z.1 == z.2) = true from hr2) _ (List.mem_of_getElem? (zip_at hy (show (q.map fun v => if v = -1 then -2 else v)[k]? = some (if x = -1 then -2 else x) by rw [List.getElem?_map, hx]; rfl)))
    by_cases h6 : x = -1
    · rw [if_pos h6] at h5; simp at h5; omega
    · rw [if_neg h6] at h5; simpa using h5
  have hag : agree q r = true := by
    unfold agree
    rw [List.all_eq_true]
    intro z hz
    obtain ⟨k, hk⟩ := List.getElem?_of_mem hz
    rw [List.getElem?_zip_eq_some] at hk
    rcases hat k _ _ hk.1 hk.2 with h7 | h7 <;> simp [h7]
  have hj : jnL q r = q := by
    refine List.ext_getElem? fun k => ?_
    by_cases hk : k < q.length
    · obtain ⟨x, hx⟩ := at_of_lt hk
      obtain ⟨y, hy⟩ := at_of_lt (show k < r.length by omega)
      rw [jnL_at hx hy, hx]
      obtain ⟨z, hz⟩ := at_of_lt (show k < m.length by omega)
      have hxb := okW_at hq hx hz
      rcases hat k x y hx hy with h7 | h7
      · rw [h7, Int.max_eq_left (by omega)]
      · rw [h7, Int.max_self]
    · rw [List.getElem?_eq_none (by rw [jnL_len (by omega)]; omega), List.getElem?_eq_none (by omega)]
  have hjp := jp_yes hm hq hr hag
  unfold mtF
  rw [hjp.1, hjp.2, hj]
  exact (by rw [Bool.true_and]; exact eqI_true.2 rfl)
theorem im_row {m q : List Int} {b : List (List Int)} {t : Int} (hm : okM m = true) (hb : okBn m b = true) (hq : q ∈ imL m b t) : okP m q = true ∧ ipB m b q = false ∧ hasL b q = false ∧ (lbL m b).any (mtF m q) = true := by
  cases hT : bnT m b t
  · rw [im_no hT] at hq; cases hq
  rw [im_yes hT] at hq
  unfold impP at hq
  rw [List.mem_filter] at hq
  have hp := ((mem_patS hm).1 hq.1).1
  have hi := hq.2
  unfold impF at hi
  rw [Bool.and_eq_true, Bool.not_eq_true', Bool.not_eq_true'] at hi
  refine ⟨hp, by rw [ip_yes hm hb hp]; exact hi.2, ?_, ?_⟩
  · cases hh : hasL b q
    · rfl
    · have h9 := hasL_iff.1 hh
      have : bnB b q = true := by unfold bnB; rw [List.any_eq_true]; exact ⟨q, h9, mB_self q⟩
      rw [hi.1] at this; cases this
  · obtain ⟨r, hr, hx⟩ := lb_below hm hb _ q rfl hp hi.2
    rw [List.any_eq_true]
    exact ⟨r, hr, mt_of hm hp (lb_row hm hb hr).1 hx⟩

set_option maxRecDepth 100000 in
set_option maxHeartbeats 2000000 in
theorem law_FnImpliedBans {m0 : Nat} {a0 : Option Addr} {c0 : Nat} {w : World} (f0 : RB w w.heap.size a0 m0) (l0 : m0 ≤ c0) :
    Calls Try.prog 15 #[.slice a0 m0 c0] w (Tru w) := by
  by_cases hb : m0 ≤ 1048576
  case neg =>
    go_enter Try.func15, Try.ntmps15
    go_wp2
    go_ret
    exact ⟨rfl, Below.refl _ _⟩
  go_enter Try.func15, Try.ntmps15
  go_wp2_with fail
  refine (s_DrawImpliedBans f0 l0 hb).mono ?_
  rintro e w1 ⟨a1, c1, m, a2, c2, s, t, rfl, ⟨hG, hS, ht0, ht1⟩, B1⟩
  have z1 := B1.size
  have hcap := hG.cap
  have hm := hG.ri
  have hs := hS.ric
  have hl10 := hG.lp.1
  have hsl := hS.sq.1
  have scap := hS.ric.cap
  have HSR : Hid (∀ r ∈ s, r.length ≤ 12) := fun r h => (hS.sq.2 r h).1
  have HSG : Hid (∀ r ∈ s, r.length ≤ 9223372036854775807) := fun r h => by have := (hS.sq.2 r h).1; omega
  clear hG hS
  clear f0
  obtain ⟨L, hL⟩ : ∃ L, imL m s t = L := ⟨_, rfl⟩
  have HL := Lib.hid hL
  have HLN := @imL_len m s t
  have HGR := Lib.hid (@imL_gr m s t).2
  have HRW := Lib.hid (@imL_row m s t)
  rw [hL] at HLN HGR HRW
  have heqL : eqII L L = true := eqII_true.2 rfl
  clear hL
  cases hok : (okM m && okBn m s)
  · skip
    have HV := Lib.hid hok; clear hok
    go_wp2_with fail
    refine (i_ImpliedBans hm (by omega) hs.rii (by omega) HSG.out (by omega) (by omega) (by omega) (by omega)).mono ?_
    rintro e w2 ⟨Aa, Ac, rfl, A, b2⟩
    have z2 := b2.size
    have hm := hm.below b2 (by omega)
    have hs := hs.below b2 (by omega)
    have B2 := B1.trans (b2.mono (by omega))
    clear b2 B1
    rw [HL.out] at A ⊢
    go_wp2_with fail
    refine (s_ImpliedBans hm (by omega) hs.rii (by omega) HSG.out (by omega) (by omega) (by omega) (by omega)).mono ?_
    rintro e w3 ⟨Sa, Sc, rfl, S, b3⟩
    have z3 := b3.size
    have hm := hm.below b3 (by omega)
    have hs := hs.below b3 (by omega)
    have A := A.below b3 (by omega)
    have B3 := B2.trans (b3.mono (by omega))
    clear b3 B2
    rw [HL.out] at S ⊢
    go_wp2_with fail
    refine (l_equalLists A.rii S.rii (by omega) (by omega) HGR.out HGR.out).mono ?_
    rintro e w4 ⟨rfl, d4⟩
    have b4 := Dr.below d4 w3.heap.size
    have z4 := Dr.le d4
    clear d4
    have hm := hm.below b4 (by omega)
    have hs := hs.below b4 (by omega)
    have A := A.below b4 (by omega)
    have S := S.below b4 (by omega)
    have B4 := B3.trans (b4.mono (by omega))
    clear b4 B3
    rw [heqL]
    go_wp2_with fail
    refine (i_ValidBans hm (by omega) hs.rii (by omega) HSG.out).mono ?_
    rintro e w5 ⟨rfl, d5⟩
    have b5 := Dr.below d5 w4.heap.size
    have z5 := Dr.le d5
    clear d5
    have hm := hm.below b5 (by omega)
    have hs := hs.below b5 (by omega)
    have A := A.below b5 (by omega)
    have B5 := B4.trans (b5.mono (by omega))
    clear b5 B4
    rw [HV.out]
    go_wp2_with fail
    refine (s_ImpliedBans hm (by omega) hs.rii (by omega) HSG.out (by omega) (by omega) (by omega) (by omega)).mono ?_
    rintro e w6 ⟨Ua, Uc, rfl, U, b6⟩
    have z6 := b6.size
    have hm := hm.below b6 (by omega)
    have hs := hs.below b6 (by omega)
    have A := A.below b6 (by omega)
    have B6 := B5.trans (b6.mono (by omega))
    clear b6 B5
    rw [HL.out] at U ⊢
    go_wp2_with fail
    refine (l_equalLists A.rii U.rii (by omega) (by omega) HGR.out HGR.out).mono ?_
    rintro e w7 ⟨rfl, d7⟩
    have b7 := Dr.below d7 w6.heap.size
    have z7 := Dr.le d7
    clear d7
    have hm := hm.below b7 (by omega)
    have hs := hs.below b7 (by omega)
    have A := A.below b7 (by omega)
    have U := U.below b7 (by omega)
    have B7 := B6.trans (b7.mono (by omega))
    clear b7 B6
    rw [heqL]
    go_wp2
    go_ret
    exact ⟨rfl, B7⟩
  have HV := Lib.hid hok
  have HOK : Hid (okM m = true) := by show _ = _; rw [Bool.and_eq_true] at hok; exact hok.1
  have HOB : Hid (okBn m s = true) := by show _ = _; rw [Bool.and_eq_true] at hok; exact hok.2
  clear hok
  by_cases hc5 : t < 0
  case pos =>
    go_wp2_with fail
    refine (i_ImpliedBans hm (by omega) hs.rii (by omega) HSG.out (by omega) (by omega) (by omega) (by omega)).mono ?_
    rintro e w2 ⟨Aa, Ac, rfl, A, b2⟩
    have z2 := b2.size
    have hm := hm.below b2 (by omega)
    have hs := hs.below b2 (by omega)
    have B2 := B1.trans (b2.mono (by omega))
    clear b2 B1
    rw [HL.out] at A ⊢
    go_wp2_with fail
    refine (s_ImpliedBans hm (by omega) hs.rii (by omega) HSG.out (by omega) (by omega) (by omega) (by omega)).mono ?_
    rintro e w3 ⟨Sa, Sc, rfl, S, b3⟩
    have z3 := b3.size
    have hm := hm.below b3 (by omega)
    have hs := hs.below b3 (by omega)
    have A := A.below b3 (by omega)
    have B3 := B2.trans (b3.mono (by omega))
    clear b3 B2
    rw [HL.out] at S ⊢
    go_wp2_with fail
    refine (l_equalLists A.rii S.rii (by omega) (by omega) HGR.out HGR.out).mono ?_
    rintro e w4 ⟨rfl, d4⟩
    have b4 := Dr.below d4 w3.heap.size
    have z4 := Dr.le d4
    clear d4
    have hm := hm.below b4 (by omega)
    have hs := hs.below b4 (by omega)
    have A := A.below b4 (by omega)
    have S := S.below b4 (by omega)
    have B4 := B3.trans (b4.mono (by omega))
    clear b4 B3
    rw [heqL]
    go_wp2_with fail
    refine (i_ValidBans hm (by omega) hs.rii (by omega) HSG.out).mono ?_
    rintro e w5 ⟨rfl, d5⟩
    have b5 := Dr.below d5 w4.heap.size
    have z5 := Dr.le d5
    clear d5
    have hm := hm.below b5 (by omega)
    have hs := hs.below b5 (by omega)
    have A := A.below b5 (by omega)
    have B5 := B4.trans (b5.mono (by omega))
    clear b5 B4
    rw [HV.out]
    go_wp2_with fail
    refine (s_ImpliedBans hm (by omega) hs.rii (by omega) HSG.out (by omega) (by omega) (by omega) (by omega)).mono ?_
    rintro e w6 ⟨Ua, Uc, rfl, U, b6⟩
    have z6 := b6.size
    have hm := hm.below b6 (by omega)
    have hs := hs.below b6 (by omega)
    have A := A.below b6 (by omega)
    have B6 := B5.trans (b6.mono (by omega))
    clear b6 B5
    rw [HL.out] at U ⊢
    go_wp2_with fail
    refine (l_equalLists A.rii U.rii (by omega) (by omega) HGR.out HGR.out).mono ?_
    rintro e w7 ⟨rfl, d7⟩
    have b7 := Dr.below d7 w6.heap.size
    have z7 := Dr.le d7
    clear d7
    have hm := hm.below b7 (by omega)
    have hs := hs.below b7 (by omega)
    have A := A.below b7 (by omega)
    have U := U.below b7 (by omega)
    have B7 := B6.trans (b7.mono (by omega))
    clear b7 B6
    rw [heqL]
    go_wp2
    go_ret
    exact ⟨rfl, B7⟩
  by_cases hc20 : (m.length : Int) < t
  case pos =>
    go_wp2_with fail
    refine (i_ImpliedBans hm (by omega) hs.rii (by omega) HSG.out (by omega) (by omega) (by omega) (by omega)).mono ?_
    rintro e w2 ⟨Aa, Ac, rfl, A, b2⟩
    have z2 := b2.size
    have hm := hm.below b2 (by omega)
    have hs := hs.below b2 (by omega)
    have B2 := B1.trans (b2.mono (by omega))
    clear b2 B1
    rw [HL.out] at A ⊢
    go_wp2_with fail
    refine (s_ImpliedBans hm (by omega) hs.rii (by omega) HSG.out (by omega) (by omega) (by omega) (by omega)).mono ?_
    rintro e w3 ⟨Sa, Sc, rfl, S, b3⟩
    have z3 := b3.size
    have hm := hm.below b3 (by omega)
    have hs := hs.below b3 (by omega)
    have A := A.below b3 (by omega)
    have B3 := B2.trans (b3.mono (by omega))
    clear b3 B2
    rw [HL.out] at S ⊢
    go_wp2_with fail
    refine (l_equalLists A.rii S.rii (by omega) (by omega) HGR.out HGR.out).mono ?_
    rintro e w4 ⟨rfl, d4⟩
    have b4 := Dr.below d4 w3.heap.size
    have z4 := Dr.le d4
    clear d4
    have hm := hm.below b4 (by omega)
    have hs := hs.below b4 (by omega)
    have A := A.below b4 (by omega)
    have S := S.below b4 (by omega)
    have B4 := B3.trans (b4.mono (by omega))
    clear b4 B3
    rw [heqL]
    go_wp2_with fail
    refine (i_ValidBans hm (by omega) hs.rii (by omega) HSG.out).mono ?_
    rintro e w5 ⟨rfl, d5⟩
    have b5 := Dr.below d5 w4.heap.size
    have z5 := Dr.le d5
    clear d5
    have hm := hm.below b5 (by omega)
    have hs := hs.below b5 (by omega)
    have A := A.below b5 (by omega)
    have B5 := B4.trans (b5.mono (by omega))
    clear b5 B4
    rw [HV.out]
    go_wp2_with fail
    refine (s_ImpliedBans hm (by omega) hs.rii (by omega) HSG.out (by omega) (by omega) (by omega) (by omega)).mono ?_
    rintro e w6 ⟨Ua, Uc, rfl, U, b6⟩
    have z6 := b6.size
    have hm := hm.below b6 (by omega)
    have hs := hs.below b6 (by omega)
    have A := A.below b6 (by omega)
    have B6 := B5.trans (b6.mono (by omega))
    clear b6 B5
    rw [HL.out] at U ⊢
    go_wp2_with fail
    refine (l_equalLists A.rii U.rii (by omega) (by omega) HGR.out HGR.out).mono ?_
    rintro e w7 ⟨rfl, d7⟩
    have b7 := Dr.below d7 w6.heap.size
    have z7 := Dr.le d7
    clear d7
    have hm := hm.below b7 (by omega)
    have hs := hs.below b7 (by omega)
    have A := A.below b7 (by omega)
    have U := U.below b7 (by omega)
    have B7 := B6.trans (b7.mono (by omega))
    clear b7 B6
    rw [heqL]
    go_wp2
    go_ret
    exact ⟨rfl, B7⟩
  have HROW : Hid (∀ q ∈ L, okP m q = true ∧ ipB m s q = false ∧ hasL s q = false ∧ (lbL m s).any (mtF m q) = true) := fun q hq => by rw [← HL.out] at hq; exact im_row HOK.out HOB.out hq
  obtain ⟨G, hG⟩ : ∃ G, lbL m s = G := ⟨_, rfl⟩
  have HGL := Lib.hid hG
  have HGN := @lbL_len m s
  have HGG := Lib.hid (@lbL_gr m s).2
  have HGW := Lib.hid (@lbL_row m s)
  rw [hG] at HGN HGG HGW HROW
  clear hG
  go_wp2_with fail
  refine (i_ImpliedBans hm (by omega) hs.rii (by omega) HSG.out (by omega) (by omega) (by omega) (by omega)).mono ?_
  rintro e w2 ⟨Aa, Ac, rfl, A, b2⟩
  have z2 := b2.size
  have hm := hm.below b2 (by omega)
  have hs := hs.below b2 (by omega)
  have B2 := B1.trans (b2.mono (by omega))
  clear b2 B1
  rw [HL.out] at A ⊢
  go_wp2_with fail
  refine (s_ImpliedBans hm (by omega) hs.rii (by omega) HSG.out (by omega) (by omega) (by omega) (by omega)).mono ?_
  rintro e w3 ⟨Sa, Sc, rfl, S, b3⟩
  have z3 := b3.size
  have hm := hm.below b3 (by omega)
  have hs := hs.below b3 (by omega)
  have A := A.below b3 (by omega)
  have B3 := B2.trans (b3.mono (by omega))
  clear b3 B2
  rw [HL.out] at S ⊢
  go_wp2_with fail
  refine (l_equalLists A.rii S.rii (by omega) (by omega) HGR.out HGR.out).mono ?_
  rintro e w4 ⟨rfl, d4⟩
  have b4 := Dr.below d4 w3.heap.size
  have z4 := Dr.le d4
  clear d4
  have hm := hm.below b4 (by omega)
  have hs := hs.below b4 (by omega)
  have A := A.below b4 (by omega)
  have S := S.below b4 (by omega)
  have B4 := B3.trans (b4.mono (by omega))
  clear b4 B3
  rw [heqL]
  go_wp2_with fail
  refine (i_ValidBans hm (by omega) hs.rii (by omega) HSG.out).mono ?_
  rintro e w5 ⟨rfl, d5⟩
  have b5 := Dr.below d5 w4.heap.size
  have z5 := Dr.le d5
  clear d5
  have hm := hm.below b5 (by omega)
  have hs := hs.below b5 (by omega)
  have A := A.below b5 (by omega)
  have B5 := B4.trans (b5.mono (by omega))
  clear b5 B4
  rw [HV.out]
  go_wp2_with fail
  refine (i_LeastBans hm (by omega) hs.rii (by omega) HSG.out (by omega) (by omega)).mono ?_
  rintro e w6 ⟨Ea, Ec, rfl, E, b6⟩
  have z6 := b6.size
  have hm := hm.below b6 (by omega)
  have hs := hs.below b6 (by omega)
  have A := A.below b6 (by omega)
  have B6 := B5.trans (b6.mono (by omega))
  clear b6 B5
  rw [HGL.out] at E ⊢
  clear S
  go_wp2
  go_loopw [8] (fun i wr => ∃ k : Nat, k ≤ L.length ∧ i = .int .i64 k ∧ Below w6.heap.size w6 wr) (fun i _ => L.length - (intOf i).toNat)
  case atStart => exact ⟨0, Nat.zero_le _, rfl, Below.refl _ _⟩
  case round =>
    obtain ⟨k, hk, rfl, hd⟩ := hrel
    obtain ⟨wo, rfl⟩ : ∃ x : World, x = wr := ⟨_, rfl⟩
    have hz := hd.size
    have hm := hm.below hd (by omega)
    have hs := hs.below hd (by omega)
    have A := A.below hd (by omega)
    have E := E.below hd (by omega)
    have BB := B6.trans (hd.mono (by omega))
    by_cases hlt : k < L.length
    · skip
      obtain ⟨b, o, a3, c3, q, ha, _, hbh, hcell, hq, hx⟩ := A.rii.at hlt
      have hidx := idxII ha hlt Ac
      have hrw := HROW.out q (List.mem_of_getElem? hx.out)
      have HIP := Lib.hid hrw.2.1; have HHL := Lib.hid hrw.2.2.1; have HMT := Lib.hid hrw.2.2.2
      have hql : q.length ≤ 5 := by have := HRW.out q (List.mem_of_getElem? hx.out); omega
      clear ha hx hrw A
      go_wp2
      go_loopw [9, 10] (fun tv jv wr => ∃ j : Nat, j ≤ G.length ∧ jv = .int .i64 j ∧ tv = .bool ((G.take j).any (mtF m q)) ∧ Below wo.heap.size wo wr) (fun _ jv _ => G.length - (intOf jv).toNat)
      case atStart => exact ⟨0, Nat.zero_le _, rfl, by simp, Below.refl _ _⟩
      case round =>
        obtain ⟨j, hj, rfl, rfl, hd2⟩ := hrel
        have hz2 := hd2.size
        have hcellq : wr.cell? ⟨b, o + k, none⟩ = some (.slice a3 q.length c3) := (hd2.cell (p := ⟨b, o + k, none⟩) (by show b < _; omega)).trans hcell
        have hq2 := hq.below hd2 (by omega)
        have hm2 := hm.below hd2 (by omega)
        have hs2 := hs.below hd2 (by omega)
        have E2 := E.below hd2 (by omega)
        by_cases hjl : j < G.length
        · skip
          obtain ⟨b6, o6, a6, c6, r, ha6, _, hbh6, hcell6, hr6, hx6⟩ := E2.rii.at hjl
          have hidx6 := idxII ha6 hjl Ec
          have hrl : r.length ≤ 5 := by have := HGW.out r (List.mem_of_getElem? hx6.out); omega
          have HNX : Hid ((G.take (j + 1)).any (mtF m q) = ((G.take j).any (mtF m q) || mtF m q r)) := by show _ = _; rw [take_snoc hx6.out, List.any_append]; simp
          have HJN := Lib.hid (@jpL_len m q r)
          obtain ⟨jl, hjl2⟩ : ∃ jl, jpL m q r = jl := ⟨_, rfl⟩
          obtain ⟨fb, hfb⟩ : ∃ fb, jpB m q r = fb := ⟨_, rfl⟩
          have HMF : Hid (mtF m q r = (fb && eqI jl q)) := by show _ = _; unfold mtF; rw [hjl2, hfb]
          have HC : Hid (∀ w', Below wr.heap.size wr w' → Calls Try.prog 54 #[.slice a1 m.length c1, .slice a3 q.length c3, .slice a6 r.length c6] w' (NewIB w' jl fb)) := fun w' hb => by
            have h := i_JoinPatterns (c := c1) (c' := c3) (c'' := c6) (hm2.below hb (by omega)) (by omega) (hq2.below hb (by omega)) (by omega) (hr6.below hb (by omega)) (by omega) (by have := hb.size; omega) (by have := hb.size; omega)
            rw [hjl2, hfb] at h; exact h
          have HS : Hid (∀ w', Below wr.heap.size wr w' → w'.cell? ⟨b, o + k, none⟩ = some (.slice a3 q.length c3) ∧ w'.cell? ⟨b6, o6 + j, none⟩ = some (.slice a6 r.length c6)) := fun w' hb => ⟨(hb.cell (p := ⟨b, o + k, none⟩) (by show b < _; omega)).trans hcellq, (hb.cell (p := ⟨b6, o6 + j, none⟩) (by show b6 < _; omega)).trans hcell6⟩
          rw [hjl2] at HJN
          have hjl5 : jl.length ≤ 5 := by have := HJN.out; omega
          have hbs : b < wr.heap.size := by omega
          clear ha6 hjl2 hfb hcellq hcell6 hx6 E2 hr6
          have hq1 : Below wr.heap.size wr wr := Below.refl _ _
          cases hb : (G.take j).any (mtF m q)
          · skip
            have HB := Lib.hid hb; clear hb
            cases fb
            · skip
              have HT : Hid ((G.take (j + 1)).any (mtF m q) = false) := by show _ = _; rw [HNX.out, HB.out, HMF.out]; rfl
              go_wp2_with fail
              go_region_held3 (fun w' => w'.cell? ⟨b, o + k, none⟩ = some (.slice a3 q.length c3) ∧ w'.cell? ⟨b6, o6 + j, none⟩ = some (.slice a6 r.length c6)) (first | exact HS.out _ (by first | exact hq5 | exact hq1.drew | exact hq1) | go_keep) ((go_at_call 54; refine (HC.out _ (by first | exact hq1.drew | exact hq1)).mono ?_; rintro e v5 ⟨ja, jc, rfl, J, hb5⟩; have hq5 : Below wr.heap.size wr v5 := (by first | exact hq1.drew.trans hb5 | exact hq1.trans hb5)))
              all_goals
                have hd5 := hd2.trans (hq5.mono (by omega))
                go_wp2
                go_roundw
                case rel => exact ⟨j + 1, by omega, by go_num, by rw [HT.out], hd5⟩
                case measure => simp [intOf]; omega
            · skip
              have HT : Hid ((G.take (j + 1)).any (mtF m q) = eqI jl q) := by show _ = _; rw [HNX.out, HB.out, HMF.out]; rfl
              go_wp2_with fail
              go_region_held3 (fun w' => w'.cell? ⟨b, o + k, none⟩ = some (.slice a3 q.length c3) ∧ w'.cell? ⟨b6, o6 + j, none⟩ = some (.slice a6 r.length c6)) (first | exact HS.out _ (by first | exact hq5 | exact hq1.drew | exact hq1) | go_keep) ((go_at_call 54; refine (HC.out _ (by first | exact hq1.drew | exact hq1)).mono ?_; rintro e v5 ⟨ja, jc, rfl, J, hb5⟩; have hq5 : Below wr.heap.size wr v5 := (by first | exact hq1.drew.trans hb5 | exact hq1.trans hb5)))
              all_goals
                have hz5 := hq5.size
                have hcell5 := (HS.out _ hq5).1
                have hq25 := hq2.below hq5 (by omega)
                go_wp2_with fail
                refine (l_equalInts J.ri hq25 (by omega) (by omega)).mono ?_
                rintro e v6 ⟨rfl, d6⟩
                have hd5 := (hd2.trans (hq5.mono (by omega))).trans (Dr.below d6 _)
                go_wp2
                go_roundw
                case rel => exact ⟨j + 1, by omega, by go_num, by rw [HT.out], hd5⟩
                case measure => simp [intOf]; omega
          · skip
            have HB := Lib.hid hb; clear hb
            have HT : Hid ((G.take (j + 1)).any (mtF m q) = true) := by show _ = _; rw [HNX.out, HB.out]; rfl
            go_wp2_with fail
            go_region_held3 (fun w' => w'.cell? ⟨b, o + k, none⟩ = some (.slice a3 q.length c3) ∧ w'.cell? ⟨b6, o6 + j, none⟩ = some (.slice a6 r.length c6)) (first | exact HS.out _ (by first | exact hq5 | exact hq1.drew | exact hq1) | go_keep) ((go_at_call 54; refine (HC.out _ (by first | exact hq1.drew | exact hq1)).mono ?_; rintro e v5 ⟨ja, jc, rfl, J, hb5⟩; have hq5 : Below wr.heap.size wr v5 := (by first | exact hq1.drew.trans hb5 | exact hq1.trans hb5)))
            all_goals
              have hd5 := hd2.trans (hq5.mono (by omega))
              go_wp2
              go_roundw
              case rel => exact ⟨j + 1, by omega, by go_num, by rw [HT.out], hd5⟩
              case measure => simp [intOf]; omega
        · skip
          have HTK : Hid ((G.take j).any (mtF m q) = true) := by show _ = _; rw [List.take_of_length_le (by omega)]; exact HMT.out
          rw [HTK.out]
          go_wp2_with fail
          refine (i_IsPossible hm2 (by omega) hs2.rii (by omega) HSG.out hq2 (by omega) (by omega) (by omega) (by omega)).mono ?_
          rintro e v7 ⟨rfl, b7⟩
          rw [HIP.out]
          have hz7 := b7.size
          have hcell7 := (b7.cell (p := ⟨b, o + k, none⟩) (by show b < _; omega)).trans hcellq
          have hq7 := hq2.below b7 (by omega)
          have hs7 := hs2.below b7 (by omega)
          have HSG4 : ∀ r ∈ s, r.length ≤ 4611686018427387904 := fun r h => by have := HSR.out r h; omega
          have HHO := Lib.hid (l_holdsList (c := c2) (d := c3) hs7.rii hq7 (by omega) (by omega) HSG4)
          rw [HHL.out] at HHO
          clear HSG4
          go_wp2_with fail
          refine HHO.out.mono ?_
          rintro e v8 ⟨rfl, d8⟩
          have hd8 := ((hd.trans (hd2.mono (by omega))).trans (b7.mono (by omega))).trans (Dr.below d8 _)
          go_wp2
          go_roundw
          case rel => exact ⟨k + 1, by omega, by go_num, hd8⟩
          case measure => simp [intOf]; omega
    · skip
      go_wp2
      go_ret
      exact ⟨rfl, BB⟩

end Go.Proofs.Ytehoagbpgahopaa
