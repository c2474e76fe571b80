/- The walk of FnShrinkFailure: it returns true and writes nothing that was there. -/
import Derived.Test.YtehoagbpgahopaaRc
import Derived.Test.YtehoagbpgahopaaNg
import Derived.Test.YtehoagbpgahopaaTh
import Derived.Test.YtehoagbpgahopaaWs
import Derived.Test.YtehoagbpgahopaaVe
import Derived.Test.YtehoagbpgahopaaTg
namespace Go.Proofs.Ytehoagbpgahopaa
open Go.RowKit

/-- each level is one of both tests', it is a test, and it fails -/
theorem sh_facts {m : List Int} {b : List (List Int)} {bad fine : List Int} (hb : okT m bad = true) (hf : okT m fine = true) (hn : bnB b bad = true) : ∀ n, okT m (shR b fine bad n) = true ∧ bnB b (shR b fine bad n) = true ∧ ∀ (f : Nat) (x : Int), (shR b fine bad n)[f]? = some x → bad[f]? = some x ∨ fine[f]? = some x
  | 0 => ⟨hb, hn, fun f x h => .inl h⟩
  | n + 1 => by
    obtain ⟨h1, h2, h3⟩ := sh_facts hb hf hn n
    rw [shR_succ]
    unfold shS
    by_cases hc : bnB b ((shR b fine bad n).set n (at5 fine n)) = true
    · rw [if_pos hc]
      have hl1 := okW_len h1
      have hl2 := okW_len hf
      refine ⟨?_, hc, fun f x hx => ?_⟩
      · refine okW_mk5 (by rw [List.length_set]; exact hl1) fun g hg => ?_
        by_cases hgn : g = n
        · subst hgn
          have e : at5 ((shR b fine bad g).set g (at5 fine g)) g = at5 fine g := at5_of (by simp [List.getElem?_set]; omega)
          rw [e]; exact okW_at5 hf hg
        · have e : at5 ((shR b fine bad n).set n (at5 fine n)) g = at5 (shR b fine bad n) g := by unfold at5 List.getD; rw [List.getElem?_set_ne (by omega)]
          rw [e]; exact okW_at5 h1 hg
      · rw [List.getElem?_set] at hx
        split at hx
        · rename_i he; subst he
          split at hx
          · rename_i hlt
            obtain ⟨y, hy⟩ := at_of_lt (m := fine) (k := n) (by omega)
            rw [at5_of hy] at hx
            cases hx; exact .inr hy
          · cases hx
        · exact h3 f x hx
    · rw [if_neg hc]; exact ⟨h1, h2, h3⟩
theorem sh_law {m : List Int} {b : List (List Int)} {bad fine : List Int} (h : shB' m b bad fine = true) : okM m = true ∧ okT m (shL m b bad fine) = true ∧ hasL (atL m b) (shL m b bad fine) = false ∧ (∀ (f : Nat) (x : Int), (shL m b bad fine)[f]? = some x → bad[f]? = some x ∨ fine[f]? = some x) ∧ (shL m b bad fine).length = m.length ∧ bad.length = m.length ∧ fine.length = m.length := by
  have h2 := h
  simp only [shB', Bool.and_eq_true] at h2
  obtain ⟨hm, hbn, hb, hf⟩ := shG_m h2.1.1
  obtain ⟨h3, h4, h5⟩ := sh_facts hb hf h2.1.2 m.length
  rw [sh_yes' h]
  refine ⟨hm, h3, ?_, h5, okW_len h3, okW_len hb, okW_len hf⟩
  cases hh : hasL (atL m b) (shR b fine bad m.length)
  · rfl
  · rw [hasL_iff, at_yes hm hbn, mem_al hm, h4] at hh
    cases hh.2

set_option maxRecDepth 100000 in
set_option maxHeartbeats 2000000 in
theorem law_FnShrinkFailure {m0 : Nat} {a0 : Option Addr} {c0 : Nat} {w : World} (f0 : RB w w.heap.size a0 m0) (l0 : m0 ≤ c0) :
    Calls Try.prog 26 #[.slice a0 m0 c0] w (Tru w) := by
  by_cases hb : m0 ≤ 1048576
  case neg =>
    go_enter Try.func26, Try.ntmps26
    go_wp2
    go_ret
    exact ⟨rfl, Below.refl _ _⟩
  go_enter Try.func26, Try.ntmps26
  go_wp2_with fail
  refine (s_DrawShrinkFailure f0 l0 hb).mono ?_
  rintro e w1 ⟨a1, c1, m, a2, c2, s, a3, c3, x, a4, c4, y, rfl, ⟨hG, hS, hX, hY⟩, B1⟩
  have z1 := B1.size
  have hm := hG.ri
  have hs := hS.ric
  have hl10 := hG.lp.1
  have hsl := hS.sq.1
  have scap := hS.ric.cap
  have HSR : Hid (∀ r ∈ s, r.length ≤ 12) := fun r h => (hS.sq.2 r h).1
  have HSG : Hid (∀ r ∈ s, r.length ≤ 9223372036854775807) := fun r h => by have := (hS.sq.2 r h).1; omega
  have hx := hX.ri
  have hy := hY.ri
  have hx11 := hX.len
  have hy11 := hY.len
  clear hG hS hX hY
  clear f0
  obtain ⟨L, hL⟩ : ∃ L, shL m s x y = L := ⟨_, rfl⟩
  obtain ⟨b, hB⟩ : ∃ b, shB' m s x y = b := ⟨_, rfl⟩
  have HL := Lib.hid hL
  have HB := Lib.hid hB
  have HLN := @shL_len m s x y
  rw [hL] at HLN
  have heqL : eqI L L = true := eqI_true.2 rfl
  clear hL hB
  cases b
  · skip
    go_wp2_with fail
    refine (i_ShrinkFailure hm (by omega) hs.rii (by omega) HSG.out hx (by omega) hy (by omega) (by omega) (by omega) (by omega) (by omega)).mono ?_
    rintro e w2 ⟨Aa, Ac, rfl, A, b2⟩
    have z2 := b2.size
    have hm := hm.below b2 (by omega)
    have hs := hs.below b2 (by omega)
    have hx := hx.below b2 (by omega)
    have hy := hy.below b2 (by omega)
    have B2 := B1.trans (b2.mono (by omega))
    clear b2 B1
    rw [HL.out] at A
    rw [HL.out, HB.out]
    go_wp2_with fail
    refine (s_ShrinkFailure hm (by omega) hs.rii (by omega) HSG.out hx (by omega) hy (by omega) (by omega) (by omega) (by omega) (by omega)).mono ?_
    rintro e w3 ⟨Sa, Sc, rfl, S, b3⟩
    have z3 := b3.size
    have hm := hm.below b3 (by omega)
    have hs := hs.below b3 (by omega)
    have hx := hx.below b3 (by omega)
    have hy := hy.below b3 (by omega)
    have A := A.below b3 (by omega)
    have B3 := B2.trans (b3.mono (by omega))
    clear b3 B2
    rw [HL.out] at S
    rw [HL.out, HB.out]
    go_wp2_with fail
    refine (l_equalInts A.ri S (by omega) (by omega)).mono ?_
    rintro e w4 ⟨rfl, d4⟩
    have b4 := Dr.below d4 w3.heap.size
    have z4 := Dr.le d4
    clear d4
    have hm := hm.below b4 (by omega)
    have hs := hs.below b4 (by omega)
    have hx := hx.below b4 (by omega)
    have hy := hy.below b4 (by omega)
    have A := A.below b4 (by omega)
    have S := S.below b4 (by omega)
    have B4 := B3.trans (b4.mono (by omega))
    clear b4 B3
    rw [heqL]
    go_wp2_with fail
    refine (l_equalInts A.ri S (by omega) (by omega)).mono ?_
    rintro e w5 ⟨rfl, d5⟩
    have b5 := Dr.below d5 w4.heap.size
    have z5 := Dr.le d5
    clear d5
    have hm := hm.below b5 (by omega)
    have hs := hs.below b5 (by omega)
    have hx := hx.below b5 (by omega)
    have hy := hy.below b5 (by omega)
    have A := A.below b5 (by omega)
    have S := S.below b5 (by omega)
    have B5 := B4.trans (b5.mono (by omega))
    clear b5 B4
    rw [heqL]
    go_wp2
    go_ret
    exact ⟨rfl, B5⟩
  go_wp2_with fail
  refine (i_ShrinkFailure hm (by omega) hs.rii (by omega) HSG.out hx (by omega) hy (by omega) (by omega) (by omega) (by omega) (by omega)).mono ?_
  rintro e w2 ⟨Aa, Ac, rfl, A, b2⟩
  have z2 := b2.size
  have hm := hm.below b2 (by omega)
  have hs := hs.below b2 (by omega)
  have hx := hx.below b2 (by omega)
  have hy := hy.below b2 (by omega)
  have B2 := B1.trans (b2.mono (by omega))
  clear b2 B1
  rw [HL.out] at A
  rw [HL.out, HB.out]
  go_wp2_with fail
  refine (s_ShrinkFailure hm (by omega) hs.rii (by omega) HSG.out hx (by omega) hy (by omega) (by omega) (by omega) (by omega) (by omega)).mono ?_
  rintro e w3 ⟨Sa, Sc, rfl, S, b3⟩
  have z3 := b3.size
  have hm := hm.below b3 (by omega)
  have hs := hs.below b3 (by omega)
  have hx := hx.below b3 (by omega)
  have hy := hy.below b3 (by omega)
  have A := A.below b3 (by omega)
  have B3 := B2.trans (b3.mono (by omega))
  clear b3 B2
  rw [HL.out] at S
  rw [HL.out, HB.out]
  go_wp2_with fail
  refine (l_equalInts A.ri S (by omega) (by omega)).mono ?_
  rintro e w4 ⟨rfl, d4⟩
  have b4 := Dr.below d4 w3.heap.size
  have z4 := Dr.le d4
  clear d4
  have hm := hm.below b4 (by omega)
  have hs := hs.below b4 (by omega)
  have hx := hx.below b4 (by omega)
  have hy := hy.below b4 (by omega)
  have A := A.below b4 (by omega)
  have S := S.below b4 (by omega)
  have B4 := B3.trans (b4.mono (by omega))
  clear b4 B3
  rw [heqL]
  have hF := sh_law HB.out
  rw [HL.out] at hF
  obtain ⟨hM, hT, hA, hE, e1, e2, e3⟩ := hF
  have hm5 := okM_len hM
  have HVT : Hid ((okM m && okT m L) = true) := by show _ = _; rw [hM, hT]; rfl
  have HAS := Lib.hid hA; have HE := Lib.hid hE
  have lL : m.length ≤ L.length := by omega
  have lx : m.length ≤ x.length := by omega
  have ly : m.length ≤ y.length := by omega
  have HAN := @atL_len m s
  have HAG := Lib.hid (@atL_gr m s).2
  clear hM hT hA hE e1 e2 e3 S
  go_wp2
  go_loopw [11] (fun i wr => ∃ k : Nat, k ≤ m.length ∧ i = .int .i64 k ∧ Below w4.heap.size w4 wr) (fun i _ => m.length - (intOf i).toNat)
  case atStart => exact ⟨0, Nat.zero_le _, rfl, Below.refl _ _⟩
  case round =>
    obtain ⟨k, hk, rfl, hd⟩ := hrel
    have hz := hd.size
    have hm := hm.below hd (by omega)
    have hs := hs.below hd (by omega)
    have hx := hx.below hd (by omega)
    have hy := hy.below hd (by omega)
    have A := A.below hd (by omega)
    have BB := B4.trans (hd.mono (by omega))
    by_cases hlt : k < m.length
    · skip
      obtain ⟨b5, o5, z5, ha5, _, _, hc5, hx5⟩ := A.ri.at (show k < L.length by omega)
      obtain ⟨b6, o6, z6, ha6, _, _, hc6, hx6⟩ := hx.at (show k < x.length by omega)
      obtain ⟨b7, o7, z7, ha7, _, _, hc7, hx7⟩ := hy.at (show k < y.length by omega)
      have hidx5 := idxI ha5 (show k < L.length by omega) Ac
      have hidx6 := idxI ha6 (show k < x.length by omega) c3
      have hidx7 := idxI ha7 (show k < y.length by omega) c4
      have hor := HE.out k z5 hx5.out
      rw [hx6.out, hx7.out] at hor
      clear ha5 ha6 ha7 A hx hy hs hm hx5 hx6 hx7
      by_cases he : z5 = z6
      · skip
        have hne : (z5 != z6) = false := by simp [he]
        clear he hor
        go_wp2_with fail
        go_quiet (fail)
        go_wp2
        go_roundw
        case rel => exact ⟨k + 1, by omega, by go_num, hd.trans (Dr.below ⟨_, rfl⟩ _)⟩
        case measure => simp [intOf]; omega
      · skip
        have he7 : z7 = z5 := by
          rcases hor with h | h
          · exact absurd (Option.some.inj h).symm he
          · exact Option.some.inj h
        have hne : (z5 != z6) = true := by simp [he]
        have hne7 : (z5 != z7) = false := by simp [he7]
        clear he hor he7
        go_wp2_with fail
        go_quiet (fail)
        go_wp2
        go_roundw
        case rel => exact ⟨k + 1, by omega, by go_num, hd.trans (Dr.below ⟨_, rfl⟩ _)⟩
        case measure => simp [intOf]; omega
    · skip
      go_wp2_with fail
      refine (i_AllowedTests hm (by omega) hs.rii (by omega) HSG.out (by omega) (by omega)).mono ?_
      rintro e v1 ⟨Qa, Qc, rfl, Q, b1⟩
      have hzz := b1.size
      have hm := hm.below b1 (by omega)
      have A := A.below b1 (by omega)
      have BB := BB.trans (b1.mono (by omega))
      go_wp2_with fail
      refine (l_holdsList Q.rii A.ri (by omega) (by omega) HAG.out).mono ?_
      rintro e v2 ⟨rfl, d2⟩
      rw [HAS.out]
      have hzz2 := (Dr.le d2).2
      have hm := hm.below (Dr.below d2 v1.heap.size) (by omega)
      have A := A.below (Dr.below d2 v1.heap.size) (by omega)
      have BB := BB.trans (Dr.below d2 _)
      go_wp2_with fail
      refine (i_ValidTest hm (by omega) A.ri (by omega)).mono ?_
      rintro e v3 ⟨rfl, d3⟩
      rw [HVT.out]
      go_wp2
      go_ret
      exact ⟨rfl, BB.trans (Dr.below d3 _)⟩

end Go.Proofs.Ytehoagbpgahopaa
