/- Walks: SpareTests, TrimSuite of the program. -/
import Derived.Test.YtcdhahdobegagaaYj
namespace Go.Proofs.Ytcdhahdobegagaa
open Go.RowKit

set_option maxHeartbeats 2000000 in
theorem i_isSpare {m : List Int} {s : List (List Int)} {a a' : Option Addr} {c c' lo hi lo' hi' k : Nat} {w : World} {t : Int} (hok : okM m = true) (hm : RI w lo hi a m) (hB : hi ≤ w.heap.size) (hs : RII w lo' hi' a' s) (hB' : hi' ≤ w.heap.size) (hsl : s.length ≤ 100000) (hcap : s.length ≤ c') (hr : ∀ r ∈ s, r.length = m.length) (ht0 : 0 ≤ t) (ht1 : t ≤ m.length) (hk : k < s.length) :
    Calls Try.prog 93 #[.slice a m.length c, .slice a' s.length c', .int .i64 t, .int .i64 (k : Int)] w (NewV w (.bool (spF m s t k))) := by
  have HOK := Lib.hid hok
  have HR := Lib.hid hr
  have hm5 := okM_len hok
  have HRE : Hid (∀ r ∈ s.eraseIdx k, r.length = m.length) := fun r h => hr r (List.mem_of_mem_eraseIdx h)
  have hel := List.length_eraseIdx_le s k
  have HLN := Lib.hid (misL_len (s := s.eraseIdx k) (t := t) hok)
  clear hok hr
  go_enter Try.func93, Try.ntmps93
  go_wp2_with fail
  refine (i_withoutII hs hB' hsl hcap hk).mono ?_
  rintro e w1 ⟨a1, c1, rfl, h1, hb1⟩
  have hz1 := hb1.size
  have hm1 := hm.below hb1 hB
  have hs1 := hs.below hb1 hB'
  go_wp2_with fail
  refine (i_missingPatterns HOK.out hm1 (by omega) h1.rii (Nat.le_refl _) (by omega) HRE.out ht0 ht1).mono ?_
  rintro e w2 ⟨v2, rfl, h2, hb2⟩
  have hz2 := hb2.size
  obtain ⟨a2, c2, rfl, _⟩ := h2.at
  have hm2 := hm1.below hb2 (by omega)
  have hs2 := hs1.below hb2 (by omega)
  have hb02 := hb1.trans (hb2.mono hz1)
  obtain ⟨q, hq⟩ : ∃ q, (misL m (s.eraseIdx k) t).length = q := ⟨_, rfl⟩
  obtain ⟨n, hn⟩ : ∃ n, (misL m s t).length = n := ⟨_, rfl⟩
  have HS : Hid (((q : Int) == (n : Int)) = spF m s t k) := by
    show _ = _
    unfold spF
    rw [hq, hn, Bool.eq_iff_iff, beq_iff_eq, beq_iff_eq]
    omega
  rw [hq]
  have HN := Lib.hid hn
  clear hq hn h2 h1 hs hm hb1 hb2
  go_wp2_with fail
  refine (i_missingPatterns HOK.out hm2 (by omega) hs2 (by omega) (by omega) HR.out ht0 ht1).mono ?_
  rintro e w3 ⟨v3, rfl, h3, hb3⟩
  obtain ⟨a3, c3, rfl, _⟩ := h3.at
  rw [HN.out]
  have hb03 := hb02.trans (hb3.mono (by omega))
  clear h3
  go_wp2
  go_ret
  exact ⟨by rw [HS.out]; rfl, hb03⟩

set_option maxRecDepth 100000 in
set_option maxHeartbeats 2000000 in
theorem i_SpareTests {m : List Int} {s : List (List Int)} {a a' : Option Addr} {c c' lo hi lo' hi' : Nat} {w : World} {t : Int} (hm : RI w lo hi a m) (hlm : m.length ≤ 9223372036854775807) (hs : RII w lo' hi' a' s) (hls : s.length ≤ 9223372036854775807) (hg : ∀ r ∈ s, r.length ≤ 9223372036854775807) (_ht0 : -9223372036854775808 ≤ t) (_ht1 : t ≤ 9223372036854775807) (hcap : s.length ≤ c') (hB : hi ≤ w.heap.size) (hB' : hi' ≤ w.heap.size) :
    Calls Try.prog 27 #[.slice a m.length c, .slice a' s.length c', .int .i64 t] w (NewI w (spL m s t)) := by
  have HG := Lib.hid hg; clear hg
  cases hc : okC m s t
  · have HC := Lib.hid hc; clear hc
    go_enter Try.func27, Try.ntmps27
    go_wp2_with fail
    refine (i_canCover hm hlm hs hls HG.out).mono ?_
    rintro e w1 ⟨rfl, hd⟩
    rw [HC.out]
    go_wp2
    go_ret
    exact NewI.none (sp_no HC.out) (Dr.below hd _)
  have hp := okC_parts hc
  have HR := Lib.hid hp.2.2.2
  have hsl := hp.2.2.1
  have ht := hp.2.1
  have HOK := Lib.hid hp.1
  have HC := Lib.hid hc; clear hc hp
  have HSP := Lib.hid (sp_yes HC.out)
  go_enter Try.func27, Try.ntmps27
  go_wp2_with fail
  refine (i_canCover hm hlm hs hls HG.out).mono ?_
  rintro e w1 ⟨rfl, hd⟩
  rw [HC.out]
  have hz1 := Dr.le hd
  go_wp2
  go_loopw [7, 16] (fun v i wr => ∃ k : Nat, k ≤ s.length ∧ i = .int .i64 k ∧ OwnL wr w1.heap.size v (spN m s t k) ∧ Below w1.heap.size w1 wr) (fun _ i _ => s.length - (intOf i).toNat)
  case atStart => exact ⟨0, Nat.zero_le _, rfl, OwnL.nil _ _, Below.refl _ _⟩
  case round =>
    obtain ⟨k, hk, rfl, hown, hBl⟩ := hrel
    have hsz := hBl.size
    by_cases hlt : k < s.length
    · have hm2 := (hm.dr hd).below hBl (by omega)
      have hs2 := (hs.dr hd).below hBl (by omega)
      have hkl := spN_len m s t k
      go_wp2_with fail
      refine (i_isSpare HOK.out hm2 (by omega) hs2 (by omega) (by omega) hcap HR.out ht.1 ht.2 hlt).mono ?_
      rintro e w3 ⟨rfl, hb3⟩
      have hz3 := hb3.size
      have hown3 := hown.below hb3
      have hBl3 := hBl.trans (hb3.mono hsz)
      clear hown hb3 hBl hm2 hs2
      cases hsp : spF m s t k
      · have HS := Lib.hid (spN_no hsp)
        rw [← HS.out] at hown3
        clear hsp
        go_wp2
        go_roundw
        case rel => exact ⟨k + 1, by omega, by go_num, hown3, hBl3⟩
        case measure => simp [intOf]; omega
      · have HS := Lib.hid (spN_yes hsp)
        clear hsp
        go_wp2_with (first
          | (at_builtin; refine wpList_app1 rfl _ _ rfl w1.heap.size _ (spN m s t k) rfl hown3 (k : Int) rfl (by omega) (by omega) ?_; intro v5 w5 hown5 hb5)
          | go_in)
        rw [← HS.out] at hown5
        have hBl5 := hBl3.trans hb5
        clear hown3 hb5 hBl3
        go_roundw
        case rel => exact ⟨k + 1, by omega, by go_num, hown5, hBl5⟩
        case measure => simp [intOf]; omega
    · have HKE : Hid (k = s.length) := by show _ = _; omega
      rw [HKE.out, ← HSP.out] at hown
      obtain ⟨a5, c5, rfl, h5⟩ := hown.slice
      go_wp2
      go_ret
      exact ⟨_, _, rfl, h5.wide (by omega) (Nat.le_refl _), (Dr.below hd w.heap.size).trans (hBl.mono (by omega))⟩

theorem spF_trG {m : List Int} {l : List (List Int)} {t : Int} {k : Nat} : (if misN m t (l.eraseIdx k) = misN m t l then l.eraseIdx k else l) = if spF m l t k then l.eraseIdx k else l := by
  unfold spF misN
  by_cases h : (misL m (l.eraseIdx k) t).length = (misL m l t).length
  · rw [if_pos h, if_pos (by rw [h]; simp)]
  · rw [if_neg h, if_neg (by simpa using h)]

set_option maxRecDepth 100000 in
set_option maxHeartbeats 2000000 in
theorem i_TrimSuite {m : List Int} {s : List (List Int)} {a a' : Option Addr} {c c' lo hi lo' hi' : Nat} {w : World} {t : Int} (hm : RI w lo hi a m) (hlm : m.length ≤ 9223372036854775807) (hs : RII w lo' hi' a' s) (hls : s.length ≤ 9223372036854775807) (hg : ∀ r ∈ s, r.length ≤ 9223372036854775807) (_ht0 : -9223372036854775808 ≤ t) (_ht1 : t ≤ 9223372036854775807) (hcap : s.length ≤ c') (hB : hi ≤ w.heap.size) (hB' : hi' ≤ w.heap.size) :
    Calls Try.prog 33 #[.slice a m.length c, .slice a' s.length c', .int .i64 t] w (NewII w (trL m s t)) := by
  have HG := Lib.hid hg; clear hg
  cases hc : okC m s t
  · have HC := Lib.hid hc; clear hc
    go_enter Try.func33, Try.ntmps33
    go_wp2_with fail
    refine (i_canCover hm hlm hs hls HG.out).mono ?_
    rintro e w1 ⟨rfl, hd⟩
    rw [HC.out]
    go_wp2
    go_ret
    exact NewII.none (tr_no HC.out) (Dr.below hd _)
  have hp := okC_parts hc
  have HR := Lib.hid hp.2.2.2
  have hsl := hp.2.2.1
  have ht := hp.2.1
  have HOK := Lib.hid hp.1
  have hm5 := okM_len hp.1
  have HC := Lib.hid hc; clear hc hp
  have HTR := Lib.hid (tr_yes HC.out)
  go_enter Try.func33, Try.ntmps33
  go_wp2_with fail
  refine (i_canCover hm hlm hs hls HG.out).mono ?_
  rintro e w1 ⟨rfl, hd⟩
  rw [HC.out]
  have hz1 := Dr.le hd
  have h3 : RIIc w1 0 w1.heap.size a' c' s := ⟨(hs.dr hd).wide (Nat.zero_le _) (by omega), hcap⟩
  go_wp2
  go_loopw [7, 8] (fun v i wr => ∃ (k : Nat) (ao : Option Addr) (co : Nat) (l : List (List Int)), k ≤ l.length ∧ l.length ≤ 20 ∧ (∃ z : Int, i = .int .i64 z ∧ z + 1 ≤ k ∧ k ≤ z + 1) ∧ v = .slice ao l.length co ∧ RIIc wr 0 wr.heap.size ao co l ∧ Below w1.heap.size w1 wr ∧ Hid (trG (misN m t) k l = trG (misN m t) s.length s ∧ ∀ r ∈ l, r.length = m.length)) (fun _ i _ => (intOf i + 1).toNat)
  case atStart => exact ⟨s.length, a', c', s, Nat.le_refl _, hsl, ⟨_, rfl, by omega, by omega⟩, rfl, h3, Below.refl _ _, rfl, HR.out⟩
  case round =>
    clear h3
    obtain ⟨k, ao, co, l, hk, hl20, ⟨z, rfl, hz5, hz6⟩, rfl, hown, hBl, hI⟩ := hrel
    have hsz := hBl.size
    by_cases hlt : 0 < k
    · obtain ⟨j, rfl⟩ : ∃ j, k = j + 1 := ⟨k - 1, by omega⟩
      obtain rfl : z = (j : Int) := by omega
      clear hz5 hz6
      have hm2 := (hm.dr hd).below hBl (by omega)
      have hjl : j ≤ (l.eraseIdx j).length := by rw [List.length_eraseIdx_of_lt (by omega)]; omega
      have hel := List.length_eraseIdx_le l j
      have HT := Lib.hid (trG_step (misN m t) j l)
      have HRE : Hid (∀ r ∈ l.eraseIdx j, r.length = m.length) := fun r h => hI.out.2 r (List.mem_of_mem_eraseIdx h)
      go_wp2_with fail
      refine (i_isSpare HOK.out hm2 (by omega) hown.rii (Nat.le_refl _) (by omega) hown.cap hI.out.2 ht.1 ht.2 (by omega)).mono ?_
      rintro e w4 ⟨rfl, hb4⟩
      have hz4 := hb4.size
      have hown4 : RIIc w4 0 w4.heap.size ao co l := (hown.below hb4 (Nat.le_refl _)).wide (Nat.le_refl _) hz4
      have hBl4 := hBl.trans (hb4.mono hsz)
      clear hown hb4 hBl hm2
      cases hsp : spF m l t j
      · have HI2 : Hid (trG (misN m t) j l = trG (misN m t) s.length s ∧ ∀ r ∈ l, r.length = m.length) := by
          refine ⟨?_, hI.out.2⟩
          rw [← hI.out.1, HT.out, spF_trG, hsp]; rfl
        clear hsp
        go_wp2
        go_roundw
        case rel => exact ⟨j, ao, co, l, by omega, by omega, ⟨_, rfl, by omega, by omega⟩, rfl, hown4, hBl4, HI2⟩
        case measure => simp [intOf]
      · have HI2 : Hid (trG (misN m t) j (l.eraseIdx j) = trG (misN m t) s.length s ∧ ∀ r ∈ l.eraseIdx j, r.length = m.length) := by
          refine ⟨?_, HRE.out⟩
          rw [← hI.out.1, HT.out, spF_trG, hsp]; rfl
        clear hsp
        go_wp2_with fail
        refine (i_withoutII hown4.rii (Nat.le_refl _) (by omega) hown4.cap (by omega)).mono ?_
        rintro e w5 ⟨a5, c5, rfl, h5, hb5⟩
        have hBl5 := hBl4.trans (hb5.mono (by omega))
        clear hown4 hb5 hBl4
        go_wp2
        go_roundw
        case rel => exact ⟨j, a5, c5, l.eraseIdx j, by omega, by omega, ⟨_, rfl, by omega, by omega⟩, rfl, h5, hBl5, HI2⟩
        case measure => simp [intOf]
    · have HKE : Hid (l = trL m s t) := by
        have : k = 0 := by omega
        subst this
        show _ = _
        rw [HTR.out, ← hI.out.1]; rfl
      obtain rfl : z = -1 := by omega
      have HRN : Hid (∀ r ∈ l, r ≠ [] ∧ r.length ≤ 1048576) := by
        intro r hr
        have := hI.out.2 r hr
        exact ⟨by intro e; rw [e] at this; simp at this; omega, by omega⟩
      go_wp2_with fail
      refine (i_copyLists hown.rii (Nat.le_refl _) (by omega) HRN.out).mono ?_
      rintro e w6 ⟨a6, c6, rfl, h6, hb6⟩
      have hbb := (Dr.below hd w.heap.size).trans ((hBl.trans (hb6.mono hsz)).mono (by omega))
      rw [HKE.out] at h6 ⊢
      clear hown hb6 hBl HKE
      go_wp2
      go_ret
      exact ⟨_, _, rfl, h6.wide (by omega) (Nat.le_refl _), hbb⟩

end Go.Proofs.Ytcdhahdobegagaa
