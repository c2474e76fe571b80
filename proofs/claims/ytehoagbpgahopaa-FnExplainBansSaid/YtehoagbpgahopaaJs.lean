/- Walks: what FnExplainBans draws. -/
import Derived.Test.YtehoagbpgahopaaJt
import Derived.Test.YtehoagbpgahopaaZu
import Derived.Test.YtehoagbpgahopaaZa
import Derived.Test.YtehoagbpgahopaaOc
import Derived.Deep.RegionWith
namespace Go.Proofs.Ytehoagbpgahopaa
open Go.RowKit

theorem exG_law {f : List Nat → Bool} (anti : ∀ a b : List Nat, (∀ x ∈ a, x ∈ b) → f b = true → f a = true) : ∀ (k : Nat) (hi : List Nat), f (List.range k ++ hi) = false →
    ∃ lo, exG f k hi = lo ++ hi ∧ (∀ x ∈ lo, x < k) ∧ lo.Pairwise (· < ·) ∧ f (lo ++ hi) = false ∧ ∀ i, i < lo.length → f ((lo ++ hi).eraseIdx i) = true
  | 0, hi, h => ⟨[], rfl, by simp, List.Pairwise.nil, by simpa using h, by simp⟩
  | k + 1, hi, h => by
    simp only [exG]
    split
    · rename_i hf
      have hr : List.range (k + 1) ++ hi = List.range k ++ k :: hi := by rw [List.range_succ, List.append_assoc]; rfl
      rw [hr] at h
      obtain ⟨lo, e1, e2, e3, e4, e5⟩ := exG_law anti k (k :: hi) h
      refine ⟨lo ++ [k], by rw [e1]; simp, ?_, ?_, by simpa using e4, ?_⟩
      · intro x hx
        rcases List.mem_append.1 hx with hx | hx
        · have := e2 x hx; omega
        · have : x = k := by simpa using hx
          omega
      · rw [List.pairwise_append]
        exact ⟨e3, by simp, fun a ha b hb => by have := e2 a ha; have : b = k := by simpa using hb
                                                omega⟩
      · intro i hi'
        have hl : lo ++ [k] ++ hi = lo ++ k :: hi := by simp
        rw [hl]
        by_cases hil : i < lo.length
        · exact e5 i hil
        · have : i = lo.length := by simp at hi'; omega
          subst this
          refine anti _ _ (fun x hx => ?_) hf
          rw [List.eraseIdx_append_of_length_le (Nat.le_refl _), Nat.sub_self, List.eraseIdx_cons_zero] at hx
          rcases List.mem_append.1 hx with hx | hx
          · exact List.mem_append.2 (.inl (List.mem_range.2 (e2 x hx)))
          · exact List.mem_append.2 (.inr hx)
    · rename_i hf
      obtain ⟨lo, e1, e2, e3, e4, e5⟩ := exG_law anti k hi (by simpa using hf)
      exact ⟨lo, e1, fun x hx => by have := e2 x hx; omega, e3, e4, e5⟩
theorem pk_eraseAt (b : List (List Int)) (l : List Nat) (i : Nat) : pk b (l.eraseIdx i) = (pk b l).eraseIdx i := by
  unfold pk
  simp only [List.eraseIdx_eq_take_drop_succ, List.map_append, List.map_take, List.map_drop]
theorem pk_range (b : List (List Int)) : pk b (List.range b.length) = b := by
  unfold pk
  refine List.ext_getElem? fun i => ?_
  rw [List.getElem?_map]
  by_cases hi : i < b.length
  · obtain ⟨r, hr⟩ := at_of_lt hi
    rw [List.getElem?_range hi, Option.map_some, hr, List.getD, hr]; rfl
  · rw [List.getElem?_eq_none (by simp; omega), List.getElem?_eq_none (by omega)]; rfl
theorem bnB_mono {a b : List (List Int)} (h : ∀ r ∈ a, r ∈ b) {x : List Int} (hx : bnB a x = true) : bnB b x = true := by
  unfold bnB at *
  obtain ⟨p, hp, hm⟩ := List.any_eq_true.1 hx
  exact List.any_eq_true.2 ⟨p, h p hp, hm⟩
theorem exF_anti {m : List Int} {b : List (List Int)} {p : List Int} : ∀ a c : List Nat, (∀ x ∈ a, x ∈ c) → exF m b p c = true → exF m b p a = true := by
  intro a c h hc
  unfold exF at *
  refine hasP_mono (fun x hx => ?_) hc
  unfold alL at *
  obtain ⟨h1, h2⟩ := List.mem_filter.1 hx
  refine List.mem_filter.2 ⟨h1, ?_⟩
  rw [Bool.not_eq_true'] at h2 ⊢
  cases hb : bnB (pk b a) x
  · rfl
  · rw [bnB_mono (fun r hr => ?_) hb] at h2
    · cases h2
    · unfold pk at *
      obtain ⟨i, hi, rfl⟩ := List.mem_map.1 hr
      exact List.mem_map.2 ⟨i, h i hi, rfl⟩
/-- the bans that are kept ban the pattern, and with each one of them less it is possible -/
theorem ex_law {m : List Int} {b : List (List Int)} {p : List Int} (h : exB m b p = true) :
    (∀ i ∈ exR m b p, i < b.length) ∧ (exR m b p).Pairwise (· < ·) ∧ hasP (alL m (pk b (exR m b p))) p = false ∧
    ∀ i, i < (exR m b p).length → hasP (alL m ((pk b (exR m b p)).eraseIdx i)) p = true := by
  obtain ⟨h1, h2, h3, h4⟩ := exB_m h
  obtain ⟨lo, e1, e2, e3, e4, e5⟩ := exG_law (f := exF m b p) exF_anti b.length [] (by
    unfold exF; rw [List.append_nil, pk_range]; exact h4)
  rw [List.append_nil] at e1 e4
  have hR : exR m b p = lo := e1
  rw [hR]
  refine ⟨e2, e3, e4, fun i hi => ?_⟩
  have := e5 i hi
  rw [List.append_nil] at this
  unfold exF at this
  rwa [pk_eraseAt] at this
theorem ex_ok {m : List Int} {b : List (List Int)} {l : List Nat} (h : okBn m b = true) (hl : ∀ i ∈ l, i < b.length) (h5 : l.length ≤ 5) : okBn m (pk b l) = true ∧ ∀ i, okBn m ((pk b l).eraseIdx i) = true := by
  have hr : ∀ r ∈ pk b l, okP m r = true := by
    intro r hr
    unfold pk at hr
    obtain ⟨i, hi, rfl⟩ := List.mem_map.1 hr
    have := hl i hi
    exact okBn_all h (by simp [List.getD, this])
  have hlen : (pk b l).length ≤ 5 := by simp [pk]; omega
  refine ⟨?_, fun i => ?_⟩
  · unfold okBn; rw [Bool.and_eq_true, List.all_eq_true, decide_eq_true_eq]; exact ⟨hr, hlen⟩
  · unfold okBn; rw [Bool.and_eq_true, List.all_eq_true, decide_eq_true_eq]
    exact ⟨fun r hr' => hr r (List.mem_of_mem_eraseIdx hr'), Nat.le_trans (List.length_eraseIdx_le _ _) hlen⟩


def DrK (w : World) (e : Ending) (w' : World) : Prop := ∃ (a1 : Option Addr) (c1 : Nat) (m : List Int) (a2 : Option Addr) (c2 : Nat) (s : List (List Int)) (a3 : Option Addr) (c3 : Nat) (p : List Int), e = .returned (.tuple #[.slice a1 m.length c1, .slice a2 s.length c2, .slice a3 p.length c3]) ∧ (Got w w' 10 a1 c1 m ∧ GotS w w' 12 a2 c2 s ∧ (RI w' w.heap.size w'.heap.size a3 p ∧ p.length ≤ 12)) ∧ Below w.heap.size w w'

set_option maxRecDepth 100000 in
set_option maxHeartbeats 8000000 in
theorem s_DrawExplainBans {n : Nat} {a : Option Addr} {c : Nat} {w : World} (hm : RB w w.heap.size a n) (hc : n ≤ c) (hl : n ≤ 1048576) :
    Calls Try.prog 85 #[.slice a n c] w (DrK w) := by
  go_enter Try.func85, Try.ntmps85
  go_wp2_with fail
  refine (s_newReader hm hc hl).mono ?_
  rintro e w1 ⟨rfl, hr1, hb1⟩
  have hlt := hr1.lt
  go_wp2_with fail
  refine (s_goodModel hr1 (by omega)).mono ?_
  rintro e w2 ⟨a2, c2, m2, rfl, ho2, hL2, hr2, hU2⟩
  go_wp2_with fail
  refine (s_bentModel hr2 (by omega) ho2 rfl hL2 (by omega) hlt hU2.size).mono ?_
  rintro e w3 ⟨a3, c3, m3, rfl, ho3, hL3, hr3, hU3⟩
  have hU := hU2.trans hU3
  have hcap := ho3.cap.2
  have hs3 := hU.size
  have hl10 := hL3.1
  have HOWN : Hid (∀ g, Value.ownBlock (.slice a3 m3.length c3) = some g → g < w3.heap.size) := fun g hg => (World.ownsRow.lt ho3 g hg).2
  clear ho2 hL2 hr2 hU2 hU3 hr1
  go_wp2_with fail
  refine (s_someBansO hr3 ho3 rfl hlt hs3 hL3 (by omega) (by omega)).mono ?_
  rintro e w4 ⟨a4, c4, s, rfl, ho4, hS4, hr4, hm4, hU4, _⟩
  have hs4 := hU4.size
  have hsl := hS4.1
  have HSG : Hid (∀ r ∈ s, r.length ≤ 9223372036854775807) := fun r h => by have := (hS4.2 r h).1; omega
  have HS4 := Lib.hid hS4
  have HL3 := Lib.hid hL3
  obtain ⟨a5, c5, e5, hR4⟩ := ho4.riic
  cases e5
  have hU4 := hU.trans hU4
  obtain ⟨a3', c3', e3, hoi4⟩ := hm4.slice
  cases e3
  have hri4 := hoi4.ri
  clear ho3 hr3 hU ho4 hS4 hL3 hoi4
  go_wp2_with fail
  refine (s_validModel hri4 (by omega)).mono ?_
  rintro e w6 ⟨rfl, d6⟩
  have d6 : Dr w4 w6 := d6
  have b6 := Dr.below d6 w4.heap.size
  have hs6 := Dr.le d6
  have hm6 := hm4.below b6
  have hri6 := hri4.below b6 (by omega)
  have hR6 := hR4.below b6 (by omega)
  have hr6 := hr4.below b6 hr4.lt
  have hU6 := hU4.below b6 (by omega)
  clear hm4 hri4 hR4 hr4 hU4 b6 d6
  cases hOK : okM m3
  · skip
    go_wp2_with fail
    refine (s_somePattern hr6 hri6 (by omega) (by omega) HL3.out (by omega)).mono ?_
    rintro e w20 ⟨a20, c20, p, rfl, ho20, hL20, hr20, hU20⟩
    have hs20 := hU20.size
    have hcap20 := ho20.cap.2
    obtain ⟨_, _, e20, hoi20⟩ := ho20.slice
    cases e20
    have hri20 := hri6.upB hU20 (by omega) (by omega) (by omega)
    have hR20 : RIIc w20 w3.heap.size w4.heap.size a4 c4 s := ⟨hR6.rii.same fun k h1 h2 => hU20.block k (by omega) (by omega) (by omega), hR6.cap⟩
    have hUU20 := hU6.trans (hU20.less (show w1.heap.size ≤ w6.heap.size by omega))
    have hl20 := hL20.1
    clear hr6 hm6 hR6 hU6 hU20 ho20 hri6 hL20
    go_wp2
    go_ret3
    exact ⟨_, _, m3, _, _, s, _, _, p, rfl, ⟨⟨hri20.wide (by omega) (by omega), HL3.out, hcap⟩, ⟨hR20.wide (by omega) (by omega), HS4.out⟩, ⟨hoi20.ri.wide (by omega) (by omega), by omega⟩⟩, hb1.trans (hUU20.toBelow (by omega) (by omega))⟩
  have HOK := Lib.hid hOK; clear hOK
  go_wp2_with fail
  refine (s_validBans hri6 hR6.rii HOK.out (by omega) HSG.out).mono ?_
  rintro e w7 ⟨rfl, d7⟩
  have d7 : Dr w6 w7 := d7
  have b7 := Dr.below d7 w6.heap.size
  have hs7 := Dr.le d7
  have hm7 := hm6.below b7
  have hri7 := hri6.below b7 (by omega)
  have hR7 := hR6.below b7 (by omega)
  have hr7 := hr6.below b7 hr6.lt
  have hU7 := hU6.below b7 (by omega)
  clear hm6 hri6 hR6 hr6 hU6 b7 d7
  cases hOB : okBn m3 s
  · skip
    go_wp2_with fail
    refine (s_somePattern hr7 hri7 (by omega) (by omega) HL3.out (by omega)).mono ?_
    rintro e w20 ⟨a20, c20, p, rfl, ho20, hL20, hr20, hU20⟩
    have hs20 := hU20.size
    have hcap20 := ho20.cap.2
    obtain ⟨_, _, e20, hoi20⟩ := ho20.slice
    cases e20
    have hri20 := hri7.upB hU20 (by omega) (by omega) (by omega)
    have hR20 : RIIc w20 w3.heap.size w4.heap.size a4 c4 s := ⟨hR7.rii.same fun k h1 h2 => hU20.block k (by omega) (by omega) (by omega), hR7.cap⟩
    have hUU20 := hU7.trans (hU20.less (show w1.heap.size ≤ w7.heap.size by omega))
    have hl20 := hL20.1
    clear hr7 hm7 hR7 hU7 hU20 ho20 hri7 hL20
    go_wp2
    go_ret3
    exact ⟨_, _, m3, _, _, s, _, _, p, rfl, ⟨⟨hri20.wide (by omega) (by omega), HL3.out, hcap⟩, ⟨hR20.wide (by omega) (by omega), HS4.out⟩, ⟨hoi20.ri.wide (by omega) (by omega), by omega⟩⟩, hb1.trans (hUU20.toBelow (by omega) (by omega))⟩
  have HOB := Lib.hid hOB; clear hOB
  go_wp2_with fail
  refine (s_pick hr7 (by omega) (by omega) (by omega)).mono ?_
  rintro e w9 ⟨v, rfl, hv, hr9, hu9⟩
  have hs9 := hu9.size
  have hm9 := hm7.upd hu9 hlt
  have hri9 := hri7.upd hu9 (by omega) (.inr (by omega))
  have hR9 := hR7.upd hu9 (by omega) (.inr (by omega))
  have hU9 := hU7.upd hu9
  clear hm7 hri7 hR7 hr7 hU7 hu9 hv
  by_cases e0 : (0 : Int) < v
  case neg =>
    go_wp2_with fail
    refine (s_somePattern hr9 hri9 (by omega) (by omega) HL3.out (by omega)).mono ?_
    rintro e w20 ⟨a20, c20, p, rfl, ho20, hL20, hr20, hU20⟩
    have hs20 := hU20.size
    have hcap20 := ho20.cap.2
    obtain ⟨_, _, e20, hoi20⟩ := ho20.slice
    cases e20
    have hri20 := hri9.upB hU20 (by omega) (by omega) (by omega)
    have hR20 : RIIc w20 w3.heap.size w4.heap.size a4 c4 s := ⟨hR9.rii.same fun k h1 h2 => hU20.block k (by omega) (by omega) (by omega), hR9.cap⟩
    have hUU20 := hU9.trans (hU20.less (show w1.heap.size ≤ w9.heap.size by omega))
    have hl20 := hL20.1
    clear hr9 hm9 hR9 hU9 hU20 ho20 hri9 hL20
    go_wp2
    go_ret3
    exact ⟨_, _, m3, _, _, s, _, _, p, rfl, ⟨⟨hri20.wide (by omega) (by omega), HL3.out, hcap⟩, ⟨hR20.wide (by omega) (by omega), HS4.out⟩, ⟨hoi20.ri.wide (by omega) (by omega), by omega⟩⟩, hb1.trans (hUU20.toBelow (by omega) (by omega))⟩
  have hmm5 := okM_len HOK.out
  have HROW : Hid (∀ r ∈ s, r.length = m3.length) := fun r hr => okW_len (okBn_all HOB.out hr)
  go_wp2_with fail
  refine (s_leastBans HOK.out hri9 (by omega) hR9.rii (by omega) (by omega) HROW.out).mono ?_
  rintro e w10 ⟨aG, cG, rfl, G, b10⟩
  have hs10 := b10.size
  have hm10 := hm9.below b10
  have hri10 := hri9.below b10 (by omega)
  have hR10 := hR9.below b10 (by omega)
  have hr10 := hr9.below b10 hr9.lt
  have hU10 := hU9.below b10 (by omega)
  clear hm9 hri9 hR9 hr9 hU9 b10
  have hlk := lbK_len (b := s) HOK.out (m3.length + 1)
  have hlk2 : (lbK m3 s (m3.length + 1)).length ≤ 6144 := by omega
  clear hlk
  have HMR : Hid (∀ r ∈ lbK m3 s (m3.length + 1), r.length ≤ 12) := fun r hr => by have := lbK_row r hr; omega
  obtain ⟨mm, hmm⟩ : ∃ x, lbK m3 s (m3.length + 1) = x := ⟨_, rfl⟩
  rw [hmm] at G hlk2 HMR ⊢
  clear hmm
  by_cases hnp : (0 : Int) < (mm.length : Int)
  case neg =>
    go_wp2_with fail
    refine (s_somePattern hr10 hri10 (by omega) (by omega) HL3.out (by omega)).mono ?_
    rintro e w20 ⟨a20, c20, p, rfl, ho20, hL20, hr20, hU20⟩
    have hs20 := hU20.size
    have hcap20 := ho20.cap.2
    obtain ⟨_, _, e20, hoi20⟩ := ho20.slice
    cases e20
    have hri20 := hri10.upB hU20 (by omega) (by omega) (by omega)
    have hR20 : RIIc w20 w3.heap.size w4.heap.size a4 c4 s := ⟨hR10.rii.same fun k h1 h2 => hU20.block k (by omega) (by omega) (by omega), hR10.cap⟩
    have hUU20 := hU10.trans (hU20.less (show w1.heap.size ≤ w10.heap.size by omega))
    have hl20 := hL20.1
    clear hr10 hm10 G hR10 hU10 hU20 ho20 hri10 hL20
    go_wp2
    go_ret3
    exact ⟨_, _, m3, _, _, s, _, _, p, rfl, ⟨⟨hri20.wide (by omega) (by omega), HL3.out, hcap⟩, ⟨hR20.wide (by omega) (by omega), HS4.out⟩, ⟨hoi20.ri.wide (by omega) (by omega), by omega⟩⟩, hb1.trans (hUU20.toBelow (by omega) (by omega))⟩
  have d1 : Dr w10 w10.drew := (Dr.refl w10).drewN 1
  have hrd := hr10.below (Dr.below d1 w10.heap.size) hr10.lt
  have HPK := Lib.hid (s_pick (w := w10.drew) (n := (mm.length : Int)) hrd (by omega) (by omega) (by omega))
  have GD := G.rii.dr d1
  have hmD := hm10.below (Dr.below d1 w10.heap.size)
  have hriD := hri10.below (Dr.below d1 w10.heap.size) (by omega)
  have hRD := hR10.below (Dr.below d1 w10.heap.size) (by omega)
  have hUD := hU10.below (Dr.below d1 w10.heap.size) (by omega)
  have hzD := Dr.le d1
  clear d1 hrd
  go_wp2_with fail
  go_region_with ((go_at_call 145; refine HPK.out.mono ?_; rintro e w14 ⟨v2, rfl, hv, hr14, hu14⟩; obtain ⟨k, rfl⟩ := Int.eq_ofNat_of_zero_le hv.1; have hkl := hv.2 (by omega); have hk := GD.upd hu14 (by omega) (.inr (by omega)); obtain ⟨b5, o5, a5, c5, r5, ha5, _, hb5, hcell, hr5, hx5⟩ := hk.at (show k < mm.length by omega); have hidx := idxII ha5 (show k < mm.length by omega) cG))
  all_goals
    have hs14 := hu14.size
    have hri14 := hriD.upd hu14 (by omega) (.inr (by omega))
    have hR14 := hRD.upd hu14 (by omega) (.inr (by omega))
    have hU14 := hUD.upd hu14
    have hr12 := HMR.out r5 (List.mem_of_getElem? hx5.out)
    go_wp2
    go_ret3
    exact ⟨_, _, m3, _, _, s, _, _, r5, rfl, ⟨⟨hri14.wide (by omega) (by omega), HL3.out, hcap⟩, ⟨hR14.wide (by omega) (by omega), HS4.out⟩, ⟨hr5.wide (by omega) (by omega), hr12⟩⟩, hb1.trans (hU14.toBelow (by omega) (by omega))⟩

end Go.Proofs.Ytehoagbpgahopaa
