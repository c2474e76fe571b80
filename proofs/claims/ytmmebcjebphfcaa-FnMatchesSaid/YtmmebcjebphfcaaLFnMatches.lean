/- The walk of FnMatches: it returns true and writes nothing that was there. -/
import Derived.Test.YtmmebcjebphfcaaLFnStrengthOf
import Derived.Test.YtmmebcjebphfcaaRk
namespace Go.Proofs.Ytmmebcjebphfcaa
open Go.RowKit

theorem okT_P {m t : List Int} (h : okT m t = true) : okP m t = true := (okT_iff.1 h).1
/-- what matches is joined -/
theorem mB_joined {p t : List Int} (hl : p.length = t.length) (hp : ∀ x ∈ p, -1 ≤ x) (ht : ∀ x ∈ t, 0 ≤ x) : mB p t = (agree p t && eqI (jnL p t) t) := by
  unfold mB agree jnL
  induction p generalizing t with
  | nil => cases t with
    | nil => rfl
    | cons y t => simp at hl
  | cons x p ih => cases t with
    | nil => simp at hl
    | cons y t =>
      have hx := hp x (List.mem_cons_self ..)
      have hy := ht y (List.mem_cons_self ..)
      have h1 := ih (t := t) (by simpa using hl) (fun z hz => hp z (List.mem_cons_of_mem _ hz)) (fun z hz => ht z (List.mem_cons_of_mem _ hz))
      rw [List.zip_cons_cons, List.all_cons, List.all_cons, List.zipWith_cons_cons, h1]
      rw [Bool.eq_iff_iff]
      simp only [Bool.and_eq_true, Bool.or_eq_true, beq_iff_eq, eqI_true, List.cons.injEq]
      constructor
      · rintro ⟨h2, h3, h4⟩
        refine ⟨⟨?_, h3⟩, ?_, h4⟩
        · rcases h2 with h2 | h2
          · exact .inl (.inl h2)
          · exact .inr h2
        · rcases h2 with h2 | h2 <;> omega
      · rintro ⟨⟨h2, h3⟩, h4, h5⟩
        refine ⟨?_, h3, h5⟩
        rcases h2 with (h2 | h2) | h2
        · exact .inl h2
        · omega
        · exact .inr h2
theorem okW_ge {lo : Int} {m t : List Int} (h : okW lo m t = true) : ∀ x ∈ t, lo ≤ x := by
  intro x hx
  obtain ⟨k, hk⟩ := List.getElem?_of_mem hx
  have hl := okW_len h
  obtain ⟨y, hy⟩ := at_of_lt (show k < m.length by have := lt_of_at hk; omega)
  exact (okW_at h hk hy).1
theorem mB_jn {m p t : List Int} (hp : okP m p = true) (ht : okT m t = true) : mB p t = (agree p t && eqI (jnL p t) t) :=
  mB_joined (by rw [okW_len hp, okW_len ht]) (okW_ge hp) (okW_ge ht)

set_option maxRecDepth 100000 in
set_option maxHeartbeats 2000000 in
theorem law_FnMatches {m0 : Nat} {a0 : Option Addr} {c0 : Nat} {w : World} (f0 : RB w w.heap.size a0 m0) (l0 : m0 ≤ c0) :
    Calls Try.prog 9 #[.slice a0 m0 c0] w (Tru w) := by
  by_cases hb : m0 ≤ 1048576
  case neg =>
    go_enter Try.func9, Try.ntmps9
    go_wp2
    go_ret
    exact ⟨rfl, Below.refl _ _⟩
  go_enter Try.func9, Try.ntmps9
  go_wp2_with fail
  refine (s_DrawMatches f0 l0 hb).mono ?_
  rintro e w1 ⟨a1, c1, m, a2, c2, p, a3, c3, t, rfl, ⟨hG, hP, hT⟩, B1⟩
  have z1 := B1.size
  have hm := hG.ri
  have hp := hP.ri
  have ht := hT.ri
  have hl10 := hG.lp.1
  have pl11 := hP.lp.1
  have tl11 := hT.lp.1
  clear hG hP hT
  clear f0
  cases hok : (okM m && okP m p)
  · skip
    have HV : Hid ((okM m && okP m p && okT m t && mB p t) = false) := by show _ = _; rw [hok]; rfl
    have HOK := Lib.hid hok; clear hok
    go_wp2_with fail
    refine (i_Matches hm (by omega) hp (by omega) ht (by omega) (by omega) (by omega)).mono ?_
    rintro e w2 ⟨rfl, b2⟩
    have z2 := b2.size
    have hm := hm.below b2 (by omega)
    have hp := hp.below b2 (by omega)
    have ht := ht.below b2 (by omega)
    have B2 := B1.trans (b2.mono (by omega))
    clear b2 B1
    rw [HV.out]
    go_wp2_with fail
    refine (s_Matches hm (by omega) hp (by omega) ht (by omega)).mono ?_
    rintro e w3 ⟨rfl, d3⟩
    have b3 := Dr.below d3 w2.heap.size
    have z3 := Dr.le d3
    clear d3
    have hm := hm.below b3 (by omega)
    have hp := hp.below b3 (by omega)
    have ht := ht.below b3 (by omega)
    have B3 := B2.trans (b3.mono (by omega))
    clear b3 B2
    rw [HV.out]
    go_wp2_with fail
    refine (i_ValidPattern hm (by omega) hp (by omega)).mono ?_
    rintro e w4 ⟨rfl, d4⟩
    have b4 := Dr.below d4 w3.heap.size
    have z4 := Dr.le d4
    clear d4
    have hm := hm.below b4 (by omega)
    have hp := hp.below b4 (by omega)
    have ht := ht.below b4 (by omega)
    have B4 := B3.trans (b4.mono (by omega))
    clear b4 B3
    rw [HOK.out]
    go_wp2_with fail
    refine (s_Matches hm (by omega) hp (by omega) ht (by omega)).mono ?_
    rintro e w5 ⟨rfl, d5⟩
    have b5 := Dr.below d5 w4.heap.size
    have z5 := Dr.le d5
    clear d5
    have hm := hm.below b5 (by omega)
    have hp := hp.below b5 (by omega)
    have ht := ht.below b5 (by omega)
    have B5 := B4.trans (b5.mono (by omega))
    clear b5 B4
    rw [HV.out]
    go_wp2
    go_ret
    exact ⟨rfl, B5⟩
  have h2 : okM m = true ∧ okP m p = true := by simpa using hok
  have HM := Lib.hid h2.1
  have HP := Lib.hid h2.2
  have HOK := Lib.hid hok; clear hok h2
  cases hot : okT m t
  · skip
    have HV : Hid ((okM m && okP m p && okT m t && mB p t) = false) := by show _ = _; rw [hot]; simp
    have HT : Hid ((okM m && okT m t) = false) := by show _ = _; rw [hot]; simp
    clear hot
    go_wp2_with fail
    refine (i_Matches hm (by omega) hp (by omega) ht (by omega) (by omega) (by omega)).mono ?_
    rintro e w2 ⟨rfl, b2⟩
    have z2 := b2.size
    have hm := hm.below b2 (by omega)
    have hp := hp.below b2 (by omega)
    have ht := ht.below b2 (by omega)
    have B2 := B1.trans (b2.mono (by omega))
    clear b2 B1
    rw [HV.out]
    go_wp2_with fail
    refine (s_Matches hm (by omega) hp (by omega) ht (by omega)).mono ?_
    rintro e w3 ⟨rfl, d3⟩
    have b3 := Dr.below d3 w2.heap.size
    have z3 := Dr.le d3
    clear d3
    have hm := hm.below b3 (by omega)
    have hp := hp.below b3 (by omega)
    have ht := ht.below b3 (by omega)
    have B3 := B2.trans (b3.mono (by omega))
    clear b3 B2
    rw [HV.out]
    go_wp2_with fail
    refine (i_ValidPattern hm (by omega) hp (by omega)).mono ?_
    rintro e w4 ⟨rfl, d4⟩
    have b4 := Dr.below d4 w3.heap.size
    have z4 := Dr.le d4
    clear d4
    have hm := hm.below b4 (by omega)
    have hp := hp.below b4 (by omega)
    have ht := ht.below b4 (by omega)
    have B4 := B3.trans (b4.mono (by omega))
    clear b4 B3
    rw [HOK.out]
    go_wp2_with fail
    refine (i_ValidTest hm (by omega) ht (by omega)).mono ?_
    rintro e w5 ⟨rfl, d5⟩
    have b5 := Dr.below d5 w4.heap.size
    have z5 := Dr.le d5
    clear d5
    have hm := hm.below b5 (by omega)
    have hp := hp.below b5 (by omega)
    have ht := ht.below b5 (by omega)
    have B5 := B4.trans (b5.mono (by omega))
    clear b5 B4
    rw [HT.out]
    go_wp2_with fail
    refine (s_Matches hm (by omega) hp (by omega) ht (by omega)).mono ?_
    rintro e w6 ⟨rfl, d6⟩
    have b6 := Dr.below d6 w5.heap.size
    have z6 := Dr.le d6
    clear d6
    have hm := hm.below b6 (by omega)
    have hp := hp.below b6 (by omega)
    have ht := ht.below b6 (by omega)
    have B6 := B5.trans (b6.mono (by omega))
    clear b6 B5
    rw [HV.out]
    go_wp2
    go_ret
    exact ⟨rfl, B6⟩
  have HOT := Lib.hid hot
  have HT : Hid ((okM m && okT m t) = true) := by show _ = _; rw [HM.out, hot]; rfl
  clear hot
  have HJ := Lib.hid (mB_jn HP.out HOT.out)
  cases hag : agree p t
  · skip
    have hmb : mB p t = false := by rw [HJ.out, hag]; rfl
    have HJP := Lib.hid (jp_no (m := m) (.inr (.inr (.inr hag)))); clear hag
    have HV : Hid ((okM m && okP m p && okT m t && mB p t) = false) := by show _ = _; rw [HOK.out, HOT.out, hmb]; rfl
    clear hmb
    go_wp2_with fail
    refine (i_Matches hm (by omega) hp (by omega) ht (by omega) (by omega) (by omega)).mono ?_
    rintro e w2 ⟨rfl, b2⟩
    have z2 := b2.size
    have hm := hm.below b2 (by omega)
    have hp := hp.below b2 (by omega)
    have ht := ht.below b2 (by omega)
    have B2 := B1.trans (b2.mono (by omega))
    clear b2 B1
    rw [HV.out]
    go_wp2_with fail
    refine (s_Matches hm (by omega) hp (by omega) ht (by omega)).mono ?_
    rintro e w3 ⟨rfl, d3⟩
    have b3 := Dr.below d3 w2.heap.size
    have z3 := Dr.le d3
    clear d3
    have hm := hm.below b3 (by omega)
    have hp := hp.below b3 (by omega)
    have ht := ht.below b3 (by omega)
    have B3 := B2.trans (b3.mono (by omega))
    clear b3 B2
    rw [HV.out]
    go_wp2_with fail
    refine (i_ValidPattern hm (by omega) hp (by omega)).mono ?_
    rintro e w4 ⟨rfl, d4⟩
    have b4 := Dr.below d4 w3.heap.size
    have z4 := Dr.le d4
    clear d4
    have hm := hm.below b4 (by omega)
    have hp := hp.below b4 (by omega)
    have ht := ht.below b4 (by omega)
    have B4 := B3.trans (b4.mono (by omega))
    clear b4 B3
    rw [HOK.out]
    go_wp2_with fail
    refine (i_ValidTest hm (by omega) ht (by omega)).mono ?_
    rintro e w5 ⟨rfl, d5⟩
    have b5 := Dr.below d5 w4.heap.size
    have z5 := Dr.le d5
    clear d5
    have hm := hm.below b5 (by omega)
    have hp := hp.below b5 (by omega)
    have ht := ht.below b5 (by omega)
    have B5 := B4.trans (b5.mono (by omega))
    clear b5 B4
    rw [HT.out]
    go_wp2_with fail
    refine (i_JoinPatterns hm (by omega) hp (by omega) ht (by omega) (by omega) (by omega)).mono ?_
    rintro e v1 ⟨ja, jc, rfl, J, bj⟩
    rw [HJP.out.2]
    go_wp2
    go_ret
    exact ⟨rfl, B5.trans (bj.mono (by omega))⟩
  have HJP := Lib.hid (jp_yes HM.out HP.out (okT_P HOT.out) hag)
  have hjl : (jnL p t).length ≤ 11 := by rw [jnL_len (by rw [okW_len HP.out, okW_len HOT.out])]; omega
  cases heq : eqI (jnL p t) t
  · skip
    have hmb : mB p t = false := by rw [HJ.out, hag, heq]; rfl
    have HEQ := Lib.hid heq; clear heq hag
    have HV : Hid ((okM m && okP m p && okT m t && mB p t) = false) := by show _ = _; rw [HOK.out, HOT.out, hmb]; rfl
    clear hmb
    go_wp2_with fail
    refine (i_Matches hm (by omega) hp (by omega) ht (by omega) (by omega) (by omega)).mono ?_
    rintro e w2 ⟨rfl, b2⟩
    have z2 := b2.size
    have hm := hm.below b2 (by omega)
    have hp := hp.below b2 (by omega)
    have ht := ht.below b2 (by omega)
    have B2 := B1.trans (b2.mono (by omega))
    clear b2 B1
    rw [HV.out]
    go_wp2_with fail
    refine (s_Matches hm (by omega) hp (by omega) ht (by omega)).mono ?_
    rintro e w3 ⟨rfl, d3⟩
    have b3 := Dr.below d3 w2.heap.size
    have z3 := Dr.le d3
    clear d3
    have hm := hm.below b3 (by omega)
    have hp := hp.below b3 (by omega)
    have ht := ht.below b3 (by omega)
    have B3 := B2.trans (b3.mono (by omega))
    clear b3 B2
    rw [HV.out]
    go_wp2_with fail
    refine (i_ValidPattern hm (by omega) hp (by omega)).mono ?_
    rintro e w4 ⟨rfl, d4⟩
    have b4 := Dr.below d4 w3.heap.size
    have z4 := Dr.le d4
    clear d4
    have hm := hm.below b4 (by omega)
    have hp := hp.below b4 (by omega)
    have ht := ht.below b4 (by omega)
    have B4 := B3.trans (b4.mono (by omega))
    clear b4 B3
    rw [HOK.out]
    go_wp2_with fail
    refine (i_ValidTest hm (by omega) ht (by omega)).mono ?_
    rintro e w5 ⟨rfl, d5⟩
    have b5 := Dr.below d5 w4.heap.size
    have z5 := Dr.le d5
    clear d5
    have hm := hm.below b5 (by omega)
    have hp := hp.below b5 (by omega)
    have ht := ht.below b5 (by omega)
    have B5 := B4.trans (b5.mono (by omega))
    clear b5 B4
    rw [HT.out]
    go_wp2_with fail
    refine (i_JoinPatterns hm (by omega) hp (by omega) ht (by omega) (by omega) (by omega)).mono ?_
    rintro e v1 ⟨ja, jc, rfl, J, bj⟩
    rw [HJP.out.1] at J
    rw [HJP.out.1, HJP.out.2]
    have ht := ht.below bj (by omega)
    have BJ := B5.trans (bj.mono (by omega))
    obtain ⟨jl, hjle⟩ : ∃ x, jnL p t = x := ⟨_, rfl⟩
    have HJL := Lib.hid hjle
    rw [hjle] at J hjl ⊢
    clear hjle
    go_wp2_with fail
    refine (l_equalInts J.ri ht (by omega) (by omega)).mono ?_
    rintro e v2 ⟨rfl, dj⟩
    rw [← HJL.out, HEQ.out]
    go_wp2
    go_ret
    exact ⟨rfl, BJ.trans (Dr.below dj _)⟩
  have hmb : mB p t = true := by rw [HJ.out, hag, heq]; rfl
  have HEQ := Lib.hid heq; clear heq hag
  have HV : Hid ((okM m && okP m p && okT m t && mB p t) = true) := by show _ = _; rw [HOK.out, HOT.out, hmb]; rfl
  clear hmb
  go_wp2_with fail
  refine (i_Matches hm (by omega) hp (by omega) ht (by omega) (by omega) (by omega)).mono ?_
  rintro e w2 ⟨rfl, b2⟩
  have z2 := b2.size
  have hm := hm.below b2 (by omega)
  have hp := hp.below b2 (by omega)
  have ht := ht.below b2 (by omega)
  have B2 := B1.trans (b2.mono (by omega))
  clear b2 B1
  rw [HV.out]
  go_wp2_with fail
  refine (s_Matches hm (by omega) hp (by omega) ht (by omega)).mono ?_
  rintro e w3 ⟨rfl, d3⟩
  have b3 := Dr.below d3 w2.heap.size
  have z3 := Dr.le d3
  clear d3
  have hm := hm.below b3 (by omega)
  have hp := hp.below b3 (by omega)
  have ht := ht.below b3 (by omega)
  have B3 := B2.trans (b3.mono (by omega))
  clear b3 B2
  rw [HV.out]
  go_wp2_with fail
  refine (i_ValidPattern hm (by omega) hp (by omega)).mono ?_
  rintro e w4 ⟨rfl, d4⟩
  have b4 := Dr.below d4 w3.heap.size
  have z4 := Dr.le d4
  clear d4
  have hm := hm.below b4 (by omega)
  have hp := hp.below b4 (by omega)
  have ht := ht.below b4 (by omega)
  have B4 := B3.trans (b4.mono (by omega))
  clear b4 B3
  rw [HOK.out]
  go_wp2_with fail
  refine (i_ValidTest hm (by omega) ht (by omega)).mono ?_
  rintro e w5 ⟨rfl, d5⟩
  have b5 := Dr.below d5 w4.heap.size
  have z5 := Dr.le d5
  clear d5
  have hm := hm.below b5 (by omega)
  have hp := hp.below b5 (by omega)
  have ht := ht.below b5 (by omega)
  have B5 := B4.trans (b5.mono (by omega))
  clear b5 B4
  rw [HT.out]
  go_wp2_with fail
  refine (i_JoinPatterns hm (by omega) hp (by omega) ht (by omega) (by omega) (by omega)).mono ?_
  rintro e v1 ⟨ja, jc, rfl, J, bj⟩
  rw [HJP.out.1] at J
  rw [HJP.out.1, HJP.out.2]
  have ht := ht.below bj (by omega)
  have BJ := B5.trans (bj.mono (by omega))
  obtain ⟨jl, hjle⟩ : ∃ x, jnL p t = x := ⟨_, rfl⟩
  have HJL := Lib.hid hjle
  rw [hjle] at J hjl ⊢
  clear hjle
  go_wp2_with fail
  refine (l_equalInts J.ri ht (by omega) (by omega)).mono ?_
  rintro e v2 ⟨rfl, dj⟩
  rw [← HJL.out, HEQ.out]
  go_wp2
  go_ret
  exact ⟨rfl, BJ.trans (Dr.below dj _)⟩

end Go.Proofs.Ytmmebcjebphfcaa
