/- The walk of FnFreshOf: it returns true and writes nothing that was there. -/
import Derived.Test.YtcdhahdobegagaaRt
namespace Go.Proofs.Ytcdhahdobegagaa
open Go.RowKit

theorem alloc_le {w : World} {o : Obj} {n : Nat} (h : (w.alloc o).heap.size ≤ n) : w.heap.size + 1 ≤ n := by simpa using h
theorem fresh_law {m : List Int} {s : List (List Int)} {x : List Int} {t : Int} (h : okC m s t = true) (hx : okT m x = true) (hl : s.length ≠ 20) : (moL m s t).length = (moL m (s ++ [x]) t).length + frP (misL m s t) x := by
  have h2 : okC m (s ++ [x]) t = true := by
    have h1 := okC_parts h
    unfold okC okS at h ⊢
    simp only [Bool.and_eq_true, List.all_eq_true, decide_eq_true_eq] at h ⊢
    refine ⟨⟨h.1.1, fun r hr => ?_, by simp; omega⟩, h.2⟩
    rcases List.mem_append.1 hr with hr | hr
    · exact h.1.2.1 r hr
    · simp at hr; rw [hr]; exact hx
  rw [mo_yes h, mo_yes h2]
  have h3 : misL m (s ++ [x]) t = (misL m s t).filter fun p => !mB p x := by
    unfold misL misP
    rw [List.filter_filter]
    refine List.filter_congr fun p _ => ?_
    unfold hasP
    rw [List.any_append]
    cases s.any (mB p) <;> simp
  rw [h3, ← List.countP_eq_length_filter, List.length_eq_countP_add_countP (p := fun p => mB p x)]
  unfold frP
  have h4 : ((misL m s t).countP fun a => decide ¬(mB a x = true)) = ((misL m s t).countP fun p => !mB p x) := List.countP_congr fun p _ => by simp
  omega

set_option maxRecDepth 100000 in
set_option maxHeartbeats 2000000 in
theorem law_FnFreshOf {m0 : Nat} {a0 : Option Addr} {c0 : Nat} {w : World} (f0 : RB w w.heap.size a0 m0) (l0 : m0 ≤ c0) :
    Calls Try.prog 7 #[.slice a0 m0 c0] w (Tru w) := by
  by_cases hb : m0 ≤ 1048576
  case neg =>
    go_enter Try.func7, Try.ntmps7
    go_wp2
    go_ret
    exact ⟨rfl, Below.refl _ _⟩
  go_enter Try.func7, Try.ntmps7
  go_wp2_with fail
  refine (s_DrawFreshOf f0 l0 hb).mono ?_
  rintro e w1 ⟨a1, c1, m, a2, c2, s, a3, c3, x, t, rfl, ⟨hG, hS, hX, ht0, ht1⟩, B1⟩
  have z1 := B1.size
  have hx := hX.ri
  have hxl := hX.lp.1
  have xcap := hX.cap
  clear hX
  have hm := hG.ri
  have hs := hS.ric
  have hl10 := hG.lp.1
  have hsl := hS.sq.1
  have scap := hS.ric.cap
  have HSR : Hid (∀ r ∈ s, r.length ≤ 12) := fun r h => (hS.sq.2 r h).1
  have HSG : Hid (∀ r ∈ s, r.length ≤ 9223372036854775807) := fun r h => by have := (hS.sq.2 r h).1; omega
  clear hG hS
  clear f0
  by_cases hok : okC m s t = true ∧ okT m x = true
  case neg =>
    have HV : Hid (frV m s x t = -1) := fr_no (by cases h1 : okC m s t <;> cases h2 : okT m x <;> simp_all)
    clear hok
    go_wp2_with fail
    refine (i_FreshOf hm (by omega) hs.rii (by omega) HSG.out hx (by omega) (by omega) (by omega) (by omega) (by omega) (by omega)).mono ?_
    rintro e w2 ⟨rfl, b2⟩
    have z2 := b2.size
    have hm := hm.below b2 (by omega)
    have hs := hs.below b2 (by omega)
    have hx := hx.below b2 (by omega)
    have B2 := B1.trans (b2.mono (by omega))
    clear b2 B1
    rw [HV.out]
    go_wp2_with fail
    refine (s_FreshOf hm (by omega) hs.rii (by omega) HSG.out hx (by omega) (by omega) (by omega) (by omega) (by omega) (by omega)).mono ?_
    rintro e w3 ⟨rfl, b3⟩
    have z3 := b3.size
    have hm := hm.below b3 (by omega)
    have hs := hs.below b3 (by omega)
    have hx := hx.below b3 (by omega)
    have B3 := B2.trans (b3.mono (by omega))
    clear b3 B2
    rw [HV.out]
    go_wp2_with fail
    refine (s_FreshOf hm (by omega) hs.rii (by omega) HSG.out hx (by omega) (by omega) (by omega) (by omega) (by omega) (by omega)).mono ?_
    rintro e w4 ⟨rfl, b4⟩
    have z4 := b4.size
    have hm := hm.below b4 (by omega)
    have hs := hs.below b4 (by omega)
    have hx := hx.below b4 (by omega)
    have B4 := B3.trans (b4.mono (by omega))
    clear b4 B3
    rw [HV.out]
    go_wp2
    go_ret
    exact ⟨rfl, B4⟩
  obtain ⟨n, hn⟩ : ∃ n, frP (misL m s t) x = n := ⟨_, rfl⟩
  have HV : Hid (frV m s x t = (n : Int)) := by show _ = _; rw [fr_yes hok.1 hok.2, hn]
  have hnb : n ≤ 1024 := by have h1 : frP (misL m s t) x ≤ (misL m s t).length := List.countP_le_length; have h2 := @moL_len m s t; rw [mo_yes hok.1] at h2; omega
  have HFL := Lib.hid (fun hl => fresh_law (t := t) hok.1 hok.2 (s := s) hl)
  rw [hn] at HFL
  have hm5 := okM_len (okC_parts hok.1).1
  clear hn hok
  have hne : ((n : Int) != (n : Int)) = false := bne_self_eq_false _
  have hn0 : ¬ (n : Int) < 0 := by omega
  have hdn : decide ((n : Int) < 0) = false := by simp
  go_wp2_with fail
  refine (i_FreshOf hm (by omega) hs.rii (by omega) HSG.out hx (by omega) (by omega) (by omega) (by omega) (by omega) (by omega)).mono ?_
  rintro e w2 ⟨rfl, b2⟩
  have z2 := b2.size
  have hm := hm.below b2 (by omega)
  have hs := hs.below b2 (by omega)
  have hx := hx.below b2 (by omega)
  have B2 := B1.trans (b2.mono (by omega))
  clear b2 B1
  rw [HV.out]
  go_wp2_with fail
  refine (s_FreshOf hm (by omega) hs.rii (by omega) HSG.out hx (by omega) (by omega) (by omega) (by omega) (by omega) (by omega)).mono ?_
  rintro e w3 ⟨rfl, b3⟩
  have z3 := b3.size
  have hm := hm.below b3 (by omega)
  have hs := hs.below b3 (by omega)
  have hx := hx.below b3 (by omega)
  have B3 := B2.trans (b3.mono (by omega))
  clear b3 B2
  rw [HV.out]
  have hbA := (Below.refl w3.heap.size w3).alloc (Nat.le_refl w3.heap.size) (.cells #[] 23)
  have hsA := (hs.below hbA (by omega)).rii
  have hxA := hx.below hbA (by omega)
  have hmA := hm.below hbA (by omega)
  have hhA : w1.heap.size ≤ (w3.alloc (.cells #[] 23)).heap.size := by simp; omega
  have hwA : w.heap.size ≤ (w3.alloc (.cells #[] 23)).heap.size := by simp; omega
  have hmade := OwnRR.made w3 w.heap.size w.heap.size w1.heap.size (by omega) (.inr (by omega))
  have hl0 : ([] : List (List Int)).length ≤ 1099511627776 := by simp
  have hl1 : s.length ≤ 1099511627776 := by omega
  have hBA := B3.trans (hbA.mono (by omega))
  obtain ⟨mo, hmo⟩ : ∃ mo, s ++ [x] = mo := ⟨_, rfl⟩
  have hmol : mo.length ≤ 30 := by rw [← hmo]; simp; omega
  have HMO : Hid (∀ r ∈ mo, r.length ≤ 9223372036854775807) := fun r hr => by rw [← hmo] at hr; rcases List.mem_append.1 hr with hr | hr; exact HSG.out r hr; (simp at hr; rw [hr]; omega)
  rw [hmo] at HFL
  have HMM := Lib.hid hmo
  clear hmo hbA B3 hs hx hm
  by_cases h20 : s.length = 20
  case pos =>
    have e20 : ((s.length : Int) == 20) = true := by rw [beq_iff_eq]; omega
    clear h20
    go_wp2_with (first
      | (at_builtin; refine wpList_appRO rfl (.tmp 42) (.tmp 43) rfl w.heap.size w.heap.size w1.heap.size _ [] s rfl hmade hwA hhA a2 c2 rfl hsA hl0 hl1 ?_; intro v4 w4 hown4 hk4; rw [List.nil_append] at hown4; have z4 : w3.heap.size + 1 ≤ w4.heap.size := alloc_le hk4.size; have hx := hxA.kp hk4 hhA; have hm := hmA.kp hk4 hhA; have hs4 := hsA.kp hk4 hhA; have B4 := hBA.trans (hk4.below hwA); clear hmade hk4; have hh4 : w1.heap.size ≤ w4.heap.size := (by omega); have hw4 : w.heap.size ≤ w4.heap.size := (by omega))
      | (at_builtin; refine wpList_appR1 rfl (.tmp 44) (.tmp 46) rfl w.heap.size w.heap.size w1.heap.size _ s rfl hown4 hw4 hh4 x a3 _ c3 rfl hx xcap w4.heap.size rfl rfl hl1 ?_; intro v5 w5 hown5 hk5 _; have z5 := hk5.size; have hm := hm.kp hk5 hh4; have hs5 := hs4.kp hk5 hh4; have B5 := B4.trans (hk5.below hw4); clear hk5 hown4; rw [HMM.out] at hown5; obtain ⟨a6, c6, rfl, hmore⟩ := hown5.slice (Nat.le_refl _) (Nat.le_trans hh4 z5); clear hown5))
    go_ret
    exact ⟨rfl, B5⟩
  have e20 : ((s.length : Int) == 20) = false := by rw [beq_eq_false_iff_ne]; omega
  obtain ⟨q1, hq1⟩ : ∃ q, (moL m s t).length = q := ⟨_, rfl⟩
  obtain ⟨q2, hq2⟩ : ∃ q, (moL m mo t).length = q := ⟨_, rfl⟩
  have HQ1 := Lib.hid hq1
  have HQ2 := Lib.hid hq2
  have hb1 := @moL_len m s t
  have hb2 := @moL_len m mo t
  rw [hq1] at hb1
  rw [hq2] at hb2
  have heq : ((q1 : Int) == (q2 : Int) + (n : Int)) = true := by have h9 := HFL.out h20; rw [hq1, hq2] at h9; rw [beq_iff_eq]; omega
  clear hq1 hq2 h20
  go_wp2_with (first
    | (at_builtin; refine wpList_appRO rfl (.tmp 42) (.tmp 43) rfl w.heap.size w.heap.size w1.heap.size _ [] s rfl hmade hwA hhA a2 c2 rfl hsA hl0 hl1 ?_; intro v4 w4 hown4 hk4; rw [List.nil_append] at hown4; have z4 : w3.heap.size + 1 ≤ w4.heap.size := alloc_le hk4.size; have hx := hxA.kp hk4 hhA; have hm := hmA.kp hk4 hhA; have hs4 := hsA.kp hk4 hhA; have B4 := hBA.trans (hk4.below hwA); clear hmade hk4; have hh4 : w1.heap.size ≤ w4.heap.size := (by omega); have hw4 : w.heap.size ≤ w4.heap.size := (by omega))
    | (at_builtin; refine wpList_appR1 rfl (.tmp 44) (.tmp 46) rfl w.heap.size w.heap.size w1.heap.size _ s rfl hown4 hw4 hh4 x a3 _ c3 rfl hx xcap w4.heap.size rfl rfl hl1 ?_; intro v5 w5 hown5 hk5 _; have z5 := hk5.size; have hm := hm.kp hk5 hh4; have hs5 := hs4.kp hk5 hh4; have B5 := B4.trans (hk5.below hw4); clear hk5 hown4; rw [HMM.out] at hown5; obtain ⟨a6, c6, rfl, hmore⟩ := hown5.slice (Nat.le_refl _) (Nat.le_trans hh4 z5); clear hown5))
  refine (i_MissingOf hm (by omega) hs5 (by omega) HSG.out (by omega) (by omega) (by omega) (by omega)).mono ?_
  rintro e w6 ⟨Pa, Pc, rfl, P, b6⟩
  have z6 := b6.size
  rw [HQ1.out]
  have hm := hm.below b6 (by omega)
  have hmore := hmore.below b6 (by omega)
  have B6 := B5.trans (b6.mono (by omega))
  clear P b6 B5 hs5
  go_wp2_with fail
  refine (i_MissingOf hm (by omega) hmore.rii (by omega) HMO.out (by omega) (by omega) (by omega) (by omega)).mono ?_
  rintro e w7 ⟨Qa, Qc, rfl, Q, b7⟩
  rw [HQ2.out]
  have B7 := B6.trans (b7.mono (by omega))
  clear Q b7 B6
  go_wp2
  go_ret
  exact ⟨rfl, B7⟩

end Go.Proofs.Ytcdhahdobegagaa
