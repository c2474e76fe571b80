/- Walks: suites without a test, by the model. -/
import Derived.Test.YtpioldgpfpmjiaaGreatDoorYh
import Derived.Test.YtpioldgpfpmjiaaGreatDoorOc
import Derived.Deep.RegionLaw
namespace Go.Proofs.YtpioldgpfpmjiaaGreatDoor
open Go.RowKit

set_option maxRecDepth 100000 in
set_option maxHeartbeats 2000000 in
theorem s_without {s : List (List Int)} {a : Option Addr} {c lo hi k : Nat} {w : World} (hs : RII w lo hi a s) (hB : hi ≤ w.heap.size) (hsl : s.length ≤ 1048576) (hc : s.length ≤ c) (hk : k < s.length) :
    Calls Tryz.prog 45 #[.slice a s.length c, .int .i64 (k : Int)] w (fun e w' => ∃ a' c', e = .returned (.slice a' (s.eraseIdx k).length c') ∧ RIIc w' lo w'.heap.size a' c' (s.eraseIdx k) ∧ Below w.heap.size w w') := by
  obtain ⟨b, o, a0, c0, r0, ha, hlo, hhi, _⟩ := hs.at hk
  subst ha
  have hto := sliceToII (b := b) (o := o) (n := s.length) (c := c) (k := k) (z := (k : Int)) rfl (by omega)
  obtain ⟨o', ho', hfrom⟩ := sliceFromII (b := b) (o := o) (n := s.length) (c := c) (k := k + 1) (z := IntKind.i64.wrap ((k : Int) + 1)) (by rw [IntWalk.i64_in _ (by omega)]; omega) (by omega) hc
  have hst := (OwnRR.made w w.heap.size lo hi (Nat.le_refl _) (.inr hB)).drew
  have hbA := (Below.refl _ w).alloc (Nat.le_refl w.heap.size) (.cells #[] 45)
  have hs1 := (hs.below hbA hB).drew
  have HE : Hid (s.eraseIdx k = s.take k ++ s.drop (k + 1)) := List.eraseIdx_eq_take_drop_succ ..
  have HO := Lib.hid ho'
  have htl : k = (s.take k).length := by simp; omega
  have hdl : s.length - (k + 1) = (s.drop (k + 1)).length := by simp
  have HTL := Lib.hid htl
  have HDL := Lib.hid hdl
  have hwB : w.heap.size ≤ (w.alloc (.cells #[] 45)).drew.heap.size := by simp
  have hwh : hi ≤ (w.alloc (.cells #[] 45)).drew.heap.size := by simp; omega
  have hl0 : ([] : List (List Int)).length ≤ 1099511627776 := by simp
  have hl1 : (s.take k).length ≤ 1099511627776 := by simp; omega
  have hl2 : (s.drop (k + 1)).length ≤ 1099511627776 := by simp; omega
  clear ho' hs htl hdl
  go_enter Tryz.func45, Tryz.ntmps45
  go_wp2_with fail
  go_region_law ((first
    | (refine step_appRN (by rfl) _ _ (by rfl) w.heap.size lo hi _ [] (s.take k) (by rfl) hst hwB hwh ⟨b, o, none⟩ _ _ HTL.out (by rfl) (hs1.take k) hl0 hl1 ?_; intro v1 w1 hown1 hk1 _; rw [List.nil_append] at hown1; have hs2 := hs1.kp hk1 hwh; have hk1s := Nat.le_trans hwB hk1.size; have hk1h := Nat.le_trans hwh hk1.size; clear hst)
    | (refine step_appRN (by rfl) _ _ (by rfl) w.heap.size lo hi _ (s.take k) (s.drop (k + 1)) (by rfl) hown1 hk1s hk1h ⟨b, o', none⟩ _ _ HDL.out (by rfl) (hs2.drop HO.out) hl1 hl2 ?_; intro v2 w2 hown2 hk2 _)))
  have hbb : Below w.heap.size w w2 := ((hbA.trans (((Below.refl _ _).drew).trans (hk1.below hwB))).trans (hk2.below hk1s))
  have hw2 := Nat.le_trans hk1h hk2.size
  obtain ⟨a3, c3, rfl, h3⟩ := hown2.sliceU (by omega) hw2
  clear hown1 hown2 hk1 hk2
  go_wp2
  go_ret
  rw [HE.out]
  exact ⟨_, _, rfl, h3, hbb⟩

theorem NewI.none {w w' : World} {l : List Int} (h : l = []) (hb : Below w.heap.size w w') : NewI w l (.returned (.slice none 0 0)) w' := by
  subst h
  exact ⟨_, _, rfl, ⟨OI.nil _ _ _ _, Nat.zero_le _⟩, hb⟩

theorem OwnRR.nilU (w : World) (lo : Nat) : RIIc w lo w.heap.size none 0 [] := RIIc.nil _ _ _ _ _

set_option maxRecDepth 100000 in
set_option maxHeartbeats 2000000 in
theorem s_TrimSuite {m : List Int} {s : List (List Int)} {a a' : Option Addr} {c c' lo hi lo' hi' : Nat} {w : World} {t : Int} (hm : RI w lo hi a m) (hlm : m.length ≤ 9223372036854775807) (hs : RII w lo' hi' a' s) (hls : s.length ≤ 9223372036854775807) (hg : ∀ r ∈ s, r.length ≤ 9223372036854775807) (_ht0 : -9223372036854775808 ≤ t) (_ht1 : t ≤ 9223372036854775807) (hB : hi ≤ w.heap.size) (hB' : hi' ≤ w.heap.size) :
    Calls Tryz.prog 32 #[.slice a m.length c, .slice a' s.length c', .int .i64 t] w (GotII w (trL m s t)) := by
  have HG := Lib.hid hg; clear hg
  cases hc : okC m s t
  · have HC := Lib.hid hc; clear hc
    go_enter Tryz.func32, Tryz.ntmps32
    go_wp2_with fail
    refine (s_good hm hlm hs hls HG.out).mono ?_
    rintro e w1 ⟨rfl, hd⟩
    rw [HC.out]
    go_wp2
    go_ret
    exact GotII.none (tr_no HC.out) (Dr.below hd _)
  have hp := okC_parts hc
  have HR := Lib.hid hp.2.2.2
  have hsl := hp.2.2.1
  have ht := hp.2.1
  have HOK := Lib.hid hp.1
  have hm5 := okM_len hp.1
  have HC := Lib.hid hc; clear hc hp
  have HTR := Lib.hid (tr_yes HC.out)
  have HRN : Hid (∀ r ∈ s, r ≠ [] ∧ r.length ≤ 1048576) := by
    intro r hr
    have := HR.out r hr
    exact ⟨by intro e; rw [e] at this; simp at this; omega, by omega⟩
  go_enter Tryz.func32, Tryz.ntmps32
  go_wp2_with fail
  refine (s_good hm hlm hs hls HG.out).mono ?_
  rintro e w1 ⟨rfl, hd⟩
  rw [HC.out]
  have hz1 := Dr.le hd
  go_wp2_with fail
  refine (s_copySuite (hs.dr hd) (by omega) (by omega) HRN.out).mono ?_
  rintro e w2 ⟨ad2, c2, rfl, h2, hb2⟩
  have hz2 := hb2.size
  go_wp2_with fail
  refine (s_missing HOK.out ((hm.dr hd).below hb2 (by omega)) (by omega) ((hs.dr hd).below hb2 (by omega)) (by omega) (by omega) HR.out ht.1 ht.2).mono ?_
  rintro e w3 ⟨a3, c3, rfl, _, hb3⟩
  obtain ⟨n, hn⟩ : ∃ n, (misL m s t).length = n := ⟨_, rfl⟩
  have HN : Hid (misN m t s = n) := hn
  rw [hn]
  have h3 : RIIc w3 w1.heap.size w3.heap.size (some ad2) c2 s := ⟨(h2.rii.below hb3 (Nat.le_refl _)).wide (Nat.le_refl _) hb3.size, h2.cap⟩
  have hb13 := hb2.trans (hb3.mono hz2)
  clear hn h2 hb2 hb3
  go_wp2
  go_loopw [7, 9] (fun v i wr => ∃ (k : Nat) (ao : Option Addr) (co : Nat) (l : List (List Int)), k ≤ l.length ∧ l.length ≤ 20 ∧ (∃ z : Int, i = .int .i64 z ∧ z + 1 ≤ k ∧ k ≤ z + 1) ∧ v = .slice ao l.length co ∧ RIIc wr w1.heap.size wr.heap.size ao co l ∧ Below w1.heap.size w1 wr ∧ Hid (trG (misN m t) k l = trG (misN m t) s.length s ∧ misN m t l = n ∧ ∀ r ∈ l, r.length = m.length)) (fun _ i _ => (intOf i + 1).toNat)
  case atStart => exact ⟨s.length, some ad2, c2, s, Nat.le_refl _, hsl, ⟨_, rfl, by omega, by omega⟩, rfl, h3, hb13, rfl, HN.out, HR.out⟩
  case round =>
    clear h3 hb13
    obtain ⟨k, ao, co, l, hk, hl20, ⟨z, rfl, hz5, hz6⟩, rfl, hown, hBl, hI⟩ := hrel
    have hsz := hBl.size
    by_cases hlt : 0 < k
    · obtain ⟨j, rfl⟩ : ∃ j, k = j + 1 := ⟨k - 1, by omega⟩
      obtain rfl : z = (j : Int) := by omega
      clear hz5 hz6
      have hm2 := (hm.dr hd).below hBl (by omega)
      have HRE : Hid (∀ r ∈ l.eraseIdx j, r.length = m.length) := fun r h => hI.out.2.2 r (List.mem_of_mem_eraseIdx h)
      have hel := List.length_eraseIdx_le l j
      have hjl : j ≤ (l.eraseIdx j).length := by rw [List.length_eraseIdx_of_lt (by omega)]; omega
      have HT := Lib.hid (trG_step (misN m t) j l)
      go_wp2_with fail
      refine (s_without hown.rii (Nat.le_refl _) (by omega) hown.cap (by omega)).mono ?_
      rintro e w4 ⟨a4, c4, rfl, h4, hb4⟩
      have hz4 := hb4.size
      go_wp2_with fail
      refine (s_missing HOK.out (hm2.below hb4 (by omega)) (by omega) h4.rii (Nat.le_refl _) (by omega) HRE.out ht.1 ht.2).mono ?_
      rintro e w5 ⟨a5, c5, rfl, _, hb5⟩
      have hz5 := hb5.size
      have hown5 : RIIc w5 w1.heap.size w5.heap.size ao co l := ((hown.below hb4 (Nat.le_refl _)).below hb5 hz4).wide (Nat.le_refl _) (by omega)
      have h5 : RIIc w5 w1.heap.size w5.heap.size a4 c4 (l.eraseIdx j) := (h4.below hb5 (Nat.le_refl _)).wide (Nat.le_refl _) hz5
      have hBl5 := hBl.trans ((hb4.trans (hb5.mono hz4)).mono hsz)
      obtain ⟨q, hq⟩ : ∃ q, (misL m (l.eraseIdx j) t).length = q := ⟨_, rfl⟩
      have HQ : Hid (misN m t (l.eraseIdx j) = q) := hq
      rw [hq]
      clear hq hown hb4 hb5 h4 hBl hm2
      by_cases hqn : q = n
      · have HI2 : Hid (trG (misN m t) j (l.eraseIdx j) = trG (misN m t) s.length s ∧ misN m t (l.eraseIdx j) = n ∧ ∀ r ∈ l.eraseIdx j, r.length = m.length) := by
          refine ⟨?_, HQ.out.trans hqn, HRE.out⟩
          rw [← hI.out.1, HT.out, if_pos (by rw [HQ.out, hI.out.2.1, hqn])]
        have hcmp : ((q : Int) == (n : Int)) = true := by rw [beq_iff_eq]; omega
        clear hqn hown5
        go_wp2
        go_roundw
        case rel => exact ⟨j, a4, c4, l.eraseIdx j, by omega, by omega, ⟨_, rfl, by omega, by omega⟩, rfl, h5, hBl5, HI2⟩
        case measure => simp [intOf]
      · have HI2 : Hid (trG (misN m t) j l = trG (misN m t) s.length s ∧ misN m t l = n ∧ ∀ r ∈ l, r.length = m.length) := by
          refine ⟨?_, hI.out.2⟩
          rw [← hI.out.1, HT.out, if_neg (by rw [HQ.out, hI.out.2.1]; exact hqn)]
        have hcmp : ((q : Int) == (n : Int)) = false := by rw [beq_eq_false_iff_ne]; omega
        clear hqn h5
        go_wp2
        go_roundw
        case rel => exact ⟨j, ao, co, l, by omega, by omega, ⟨_, rfl, by omega, by omega⟩, rfl, hown5, hBl5, HI2⟩
        case measure => simp [intOf]
    · have HKE : Hid (l = trL m s t) := by
        have : k = 0 := by omega
        subst this
        show _ = _
        rw [HTR.out, ← hI.out.1]; rfl
      obtain rfl : z = -1 := by omega
      go_wp2
      go_ret
      rw [← HKE.out]
      exact ⟨_, _, rfl, hown.wide (by omega) (Nat.le_refl _), (Dr.below hd w.heap.size).trans (hBl.mono (by omega))⟩

end Go.Proofs.YtpioldgpfpmjiaaGreatDoor
