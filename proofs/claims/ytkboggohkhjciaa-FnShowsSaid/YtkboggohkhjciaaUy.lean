/- Walks: a run that is drawn. -/
import Derived.Test.YtkboggohkhjciaaUt
import Derived.Test.YtkboggohkhjciaaOc
namespace Go.Proofs.Ytkboggohkhjciaa
open Go.RowKit

theorem ownL_less {w : World} {B B' : Nat} {v : Value} {l : List Int} (h : OwnL w B v l) (hB : B' ≤ B) : OwnL w B' v l := by
  refine ⟨h.1, ?_⟩
  rcases h.2 with h1 | ⟨g, cap, cur, e, h2, h3⟩
  · exact .inl h1
  · exact .inr ⟨g, cap, cur, e, by omega, h3⟩
theorem ownL_form {w : World} {B : Nat} {v : Value} {l : List Int} (h : OwnL w B v l) (h0 : l ≠ []) : ∃ g c, v = .slice (some ⟨g, 0, none⟩) l.length c ∧ l.length ≤ c ∧ B ≤ g ∧ g < w.heap.size := by
  rcases h.2 with ⟨_, h2⟩ | ⟨g, cap, cur, e, h2, h3, h4, _⟩
  · exact absurd (List.eq_nil_of_length_eq_zero h2) h0
  · refine ⟨g, cap, e, h4, h2, ?_⟩
    by_cases hg : g < w.heap.size
    · exact hg
    · rw [Array.getElem?_eq_none (by omega)] at h3; cases h3

set_option maxRecDepth 100000 in
set_option maxHeartbeats 2000000 in
theorem s_aRun {b K n : Nat} {w : World} (hr : Rdr w b K) (hn : n ≤ 6) (hK : K ≤ 1000000) :
    Calls Try.prog 48 #[.pointer (some ⟨b, 0, none⟩), .int .i64 (n : Int)] w (fun e w' => ∃ (a : Option Addr) (c : Nat) (l : List Int), e = .returned (.slice a l.length c) ∧ OwnL w' w.heap.size (.slice a l.length c) l ∧ ArP n l ∧ Rdr w' b (K + n) ∧ UpB b w.heap.size w w') := by
  have hlt := hr.lt
  have hst := OwnL.made w w.heap.size (Nat.le_refl _)
  have hbA := (Below.refl w.heap.size w).alloc (Nat.le_refl _) (.cells #[] 3)
  have hr1 := hr.below hbA hlt
  clear hr
  go_enter Try.func48, Try.ntmps48
  go_wp2
  go_loopw [5, 6] (fun v i wr => ∃ (x b1 o1 c : Nat) (l : List Int), x ≤ n ∧ i = .int .i64 x ∧ v = .slice (some ⟨b1, o1, none⟩) l.length c ∧ l.length ≤ c ∧ OwnL wr w.heap.size (.slice (some ⟨b1, o1, none⟩) l.length c) l ∧ ArP x l ∧ Rdr wr b (K + x) ∧ UpB b w.heap.size w wr) (fun _ i _ => n - (intOf i).toNat)
  case atStart => exact ⟨0, w.heap.size, 0, 0, [], Nat.zero_le _, rfl, rfl, Nat.le_refl _, hst, ⟨rfl, by simp⟩, hr1, (UpB.refl _ _ _).below hbA (Nat.le_refl _)⟩
  case round =>
    clear hst hbA hr1
    obtain ⟨x, b1, o1, c, l, hx, rfl, rfl, hcap, hown, hA, hr, hU⟩ := hrel
    have hz := hU.size
    have hxl := hA.1
    by_cases hltx : x < n
    · have HA := Lib.hid hA
      have hw1 : IntKind.i64.wrap ((l.length : Int) + 1) = ((l.length + 1 : Nat) : Int) := by rw [IntWalk.i64_in _ (by omega)]; omega
      have HXL := Lib.hid hxl
      have hl6 : l.length ≤ 6 := by omega
      clear hA hxl
      go_wp2_with fail
      refine (s_pick hr (by omega) (by omega) (by omega)).mono ?_
      rintro e w2 ⟨v, rfl, hv, hr2, hu2⟩
      have hv2 := hv.2 (by omega)
      obtain ⟨k, rfl⟩ := Int.eq_ofNat_of_zero_le hv.1
      have hkl : k ≤ l.length := by omega
      have z2 := hu2.size
      have hown2 := hown.upd hu2 (by omega)
      have hU2 := hU.upd hu2
      obtain ⟨a9, c9, e9, hoi⟩ := hown2.slice
      cases e9
      have hri := hoi.ri
      clear hv hr hu2 hU hown hoi hv2
      have hto := cutTo (b := b1) (o := o1) (n := l.length) (c := c) (k := k) (z := (k : Int)) rfl (by omega)
      obtain ⟨o', ho', hfrom⟩ := cutFrom (b := b1) (o := o1) (n := l.length) (c := c) (k := k) (z := (k : Int)) rfl hkl hcap
      obtain ⟨W, hW⟩ : ∃ W, ((w2.alloc (.cells #[] 3)).alloc (.cells #[.int .i64 (x : Int)] 3)).drew = W := ⟨_, rfl⟩
      have hbA : Below w2.heap.size w2 W := by rw [← hW]; exact (((Below.refl w2.heap.size w2).alloc (Nat.le_refl _) (.cells #[] 3)).alloc (by simp) _).drew
      have hstr : OwnL W w2.heap.size (.slice (some ⟨w2.heap.size, 0, none⟩) 0 0) [] := by rw [← hW]; exact ((OwnL.made w2 w2.heap.size (Nat.le_refl _)).below ((Below.refl _ _).alloc (Nat.le_refl _) _)).below ((Below.refl _ _).drew)
      have hWs : W.heap.size = w2.heap.size + 2 := by rw [← hW]; simp
      have hxb : RI W (w2.heap.size + 1) (w2.heap.size + 2) (some ⟨w2.heap.size + 1, 0, none⟩) [(x : Int)] := by
        have h9 := litW (w2.alloc (.cells #[] 3)) #[.int .i64 (x : Int)] [(x : Int)] rfl
        rw [World.size_alloc] at h9
        rw [← hW]; exact h9
      have hwA : w2.heap.size ≤ W.heap.size := by omega
      obtain ⟨V, hV⟩ : ∃ V, ((w2.alloc (.cells #[.int .i64 (x : Int)] 3)).alloc (.cells #[] 3)).drew = V := ⟨_, rfl⟩
      have hbV : Below w2.heap.size w2 V := by rw [← hV]; exact (((Below.refl w2.heap.size w2).alloc (Nat.le_refl _) (.cells #[.int .i64 (x : Int)] 3)).alloc (by simp) _).drew
      have hVs : V.heap.size = w2.heap.size + 2 := by rw [← hV]; simp
      have hstV : OwnL V w2.heap.size (.slice (some ⟨w2.heap.size + 1, 0, none⟩) 0 0) [] := by
        have h9 := OwnL.made (w2.alloc (.cells #[.int .i64 (x : Int)] 3)) w2.heap.size (by simp)
        rw [World.size_alloc] at h9
        rw [← hV]; exact h9.below ((Below.refl _ _).drew)
      have hxV : RI V w2.heap.size (w2.heap.size + 1) (some ⟨w2.heap.size, 0, none⟩) [(x : Int)] := by
        have h9 := litW w2 #[.int .i64 (x : Int)] [(x : Int)] rfl
        have hbq := ((Below.refl (w2.heap.size + 1) (w2.alloc (.cells #[.int .i64 (x : Int)] 3))).alloc (by simp) (.cells #[] 3)).drew
        rw [← hV]; exact h9.below hbq (Nat.le_refl _)
      have hwV : w2.heap.size ≤ V.heap.size := by omega
      have HVS := Lib.hid hVs
      have hrV := (hri.below hbV (Nat.le_refl _)).takeI k
      have hstrA : OwnL (w2.alloc (.cells #[] 3)).drew w2.heap.size (.slice (some ⟨w2.heap.size, 0, none⟩) 0 0) [] := (OwnL.made w2 w2.heap.size (Nat.le_refl _)).below ((Below.refl _ _).drew)
      have hbAA := (((Below.refl w2.heap.size w2).alloc (Nat.le_refl _) (.cells #[] 3)).drew)
      have hwAA : w2.heap.size ≤ (w2.alloc (.cells #[] 3)).drew.heap.size := by simp
      have hrAA := (hri.below hbAA (Nat.le_refl _)).takeI k
      have HWS := Lib.hid hWs
      have hrA := (hri.below hbA (Nat.le_refl _)).takeI k
      have htl : k = (l.take k).length := by simp; omega
      have hdl : l.length - k = (l.drop k).length := by simp
      have HTL := Lib.hid htl
      have HDL := Lib.hid hdl
      have HO' := Lib.hid ho'
      have HRI := Lib.hid hri
      have h1 : (l.take k).length ≤ 1099511627776 := by simp; omega
      have h2 : (l.drop k).length ≤ 1099511627776 := by simp; omega
      have h3 : (l.take k ++ [(x : Int)]).length ≤ 1099511627776 := by simp; omega
      have hl0 : ([] : List Int).length ≤ 1099511627776 := by simp
      have hl1 : [(x : Int)].length ≤ 1099511627776 := by simp
      clear htl hdl ho' hri
      go_wp2_with fail
      clear hWs hVs
      go_region_held3 (fun _ => True) (trivial) ((first
        | (refine step_appSg (by rfl) _ _ (by rfl) w2.heap.size _ [] (by rfl) hstrA (l.take k) w.heap.size w2.heap.size _ _ ⟨b1, o1, none⟩ HTL.out (by rfl) hrAA hl0 h1 hwAA ?_; intro v5 w5 hown5 hb5 _; rw [List.nil_append] at hown5; have hb05 := hbAA.trans hb5; have hz5 := hb05.size; have hb5A := (Below.refl w5.heap.size w5).alloc (Nat.le_refl _) (.cells #[.int .i64 (x : Int)] 3); have hown5A := hown5.below hb5A; have hx5A := litW w5 #[.int .i64 (x : Int)] [(x : Int)] rfl; have hz25 := Nat.le_trans hz5 hb5A.size; clear hstrA hrAA hown5)
        | (refine step_appSg (by rfl) _ _ (by rfl) w2.heap.size _ [] (by rfl) hstr (l.take k) w.heap.size w2.heap.size _ _ ⟨b1, o1, none⟩ HTL.out (by rfl) hrA hl0 h1 hwA ?_; intro v5 w5 hown5 hb5 g5; rw [List.nil_append] at hown5; have hb05 := hbA.trans hb5; have hz5 := hb05.size; have hx5 := hxb.same fun j h1 h2 => g5.block j (by have := HWS.out; omega) (fun e => by have e2 : j = w2.heap.size := Option.some.inj e; omega); clear hstr hrA)
        | (refine step_appSg (by rfl) (.tmp 23) (.tmp 25) (by rfl) w2.heap.size _ (l.take k) (by rfl) hown5A [(x : Int)] w5.heap.size (w5.heap.size + 1) _ _ ⟨w5.heap.size, 0, none⟩ rfl (by rfl) hx5A h1 hl1 hz25 ?_; intro v6 w6 hown6 hb6 _; have hb06 := (hb05.trans (hb5A.mono hz5)).trans hb6; have hz6 := hb06.size; have hri6 := (HRI.out.below hb06 (Nat.le_refl _)).dropI HO'.out; clear hown5A hx5A)
        | (refine step_appSg (by rfl) _ _ (by rfl) w2.heap.size _ [] (by rfl) hstV (l.take k) w.heap.size w2.heap.size _ _ ⟨b1, o1, none⟩ HTL.out (by rfl) hrV hl0 h1 hwV ?_; intro v5 w5 hown5 hb5 g5; rw [List.nil_append] at hown5; have hb05 := hbV.trans hb5; have hz5 := hb05.size; have hx5 := hxV.same fun j h1 h2 => g5.block j (by have := HVS.out; omega) (fun e => by have e2 : j = w2.heap.size + 1 := Option.some.inj e; omega); clear hstV hrV)
        | (refine step_appSg (by rfl) (.tmp 23) (.tmp 25) (by rfl) w2.heap.size _ (l.take k) (by rfl) hown5 [(x : Int)] w2.heap.size (w2.heap.size + 1) _ _ ⟨w2.heap.size, 0, none⟩ rfl (by rfl) hx5 h1 hl1 hz5 ?_; intro v6 w6 hown6 hb6 _; have hb06 := hb05.trans hb6; have hz6 := hb06.size; have hri6 := (HRI.out.below hb06 (Nat.le_refl _)).dropI HO'.out; clear hown5 hx5)
        | (refine step_appSg (by rfl) (.tmp 23) (.tmp 25) (by rfl) w2.heap.size _ (l.take k) (by rfl) hown5 [(x : Int)] (w2.heap.size + 1) (w2.heap.size + 2) _ _ ⟨w2.heap.size + 1, 0, none⟩ rfl (by rfl) hx5 h1 hl1 hz5 ?_; intro v6 w6 hown6 hb6 _; have hb06 := hb05.trans hb6; have hz6 := hb06.size; have hri6 := (HRI.out.below hb06 (Nat.le_refl _)).dropI HO'.out; clear hown5 hx5)
        | (refine step_appSg (by rfl) (.tmp 26) (.tmp 29) (by rfl) w2.heap.size _ (l.take k ++ [(x : Int)]) (by rfl) hown6 (l.drop k) w.heap.size w2.heap.size _ _ ⟨b1, o', none⟩ HDL.out (by rfl) hri6 h3 h2 hz6 ?_; intro v7 w7 hown7 hb7 _)
        | fail))
      all_goals
        have hA7 := HA.out.ins hkl
        obtain ⟨g7, c7, e7, hc7, hg1, hg2⟩ := ownL_form hown7 (by intro he; have := congrArg List.length he; simp at this)
        subst e7
        have hb8 := hb06.trans hb7
        have hz8 := hb8.size
        have hU7 := hU2.below hb8 (by omega)
        have hr7 := hr2.below hb8 (by omega)
        obtain ⟨L7, hL7⟩ : ∃ L7, l.take k ++ [(x : Int)] ++ l.drop k = L7 := ⟨_, rfl⟩
        rw [hL7] at hA7 hown7 hc7
        rw [hL7]
        have HA7 := Lib.hid hA7
        clear hL7 hA7 hb8 hb06 hb7 hto hfrom hw1
        go_wp2
        go_roundw
        case rel => exact ⟨x + 1, g7, 0, c7, L7, by omega, by go_num, rfl, hc7, ownL_less hown7 (by omega), HA7.out, by have h9 := hr7; rwa [Nat.add_assoc] at h9, hU7⟩
        case measure => simp [intOf]; omega
    · have hxn : x = n := by omega
      subst hxn
      go_wp2
      go_ret
      exact ⟨_, _, l, rfl, hown, hA, hr, hU⟩

end Go.Proofs.Ytkboggohkhjciaa
