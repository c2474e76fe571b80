/- The walk of FnShows: it returns true and writes nothing that was there. -/
import Derived.Test.YtkboggohkhjciaaRc
import Derived.Test.YtkboggohkhjciaaNa
import Derived.Test.YtkboggohkhjciaaNe
import Derived.Test.YtkboggohkhjciaaUb
import Derived.Test.YtkboggohkhjciaaUg
import Derived.Test.YtkboggohkhjciaaUe
import Derived.Test.YtkboggohkhjciaaOc
import Derived.Test.YtkboggohkhjciaaTg
namespace Go.Proofs.Ytkboggohkhjciaa
open Go.RowKit

theorem sw_m {n : Int} {r l : List Int} (h : swB n r l = true) : inR n 1 5 = true ∧ okU n (n - 1) r = true ∧ okE (n - 1) l = true ∧ shB r l = true := by
  simpa [swB, and_assoc] using h
theorem sw_mk {n : Int} {r l : List Int} (h1 : inR n 1 5 = true) (h2 : okU n (n - 1) r = true) (h3 : okE (n - 1) l = true) (h4 : shB r l = true) : swB n r l = true := by
  unfold swB; rw [h1, h2, h3, h4]; rfl
theorem sw_law {n : Int} {r l : List Int} (h : swB n r l = true) : (∀ k, swB n r (l.eraseIdx k) = true) ∧ swB n r r = true ∧ swB n r [] = true := by
  obtain ⟨h1, h2, h3, h4⟩ := sw_m h
  exact ⟨fun k => sw_mk h1 h2 (okE_sub h3 (List.eraseIdx_sublist _ _)) (shB_iff.2 ((List.eraseIdx_sublist _ _).trans (shB_iff.1 h4))), sw_mk h1 h2 (okU_m h2).2 (shB_iff.2 (List.Sublist.refl _)), sw_mk h1 h2 (okE_nil _) sh_nil⟩

set_option maxRecDepth 100000 in
set_option maxHeartbeats 2000000 in
theorem law_FnShows {m0 : Nat} {a0 : Option Addr} {c0 : Nat} {w : World} (f0 : RB w w.heap.size a0 m0) (l0 : m0 ≤ c0) :
    Calls Try.prog 5 #[.slice a0 m0 c0] w (Tru w) := by
  by_cases hb : m0 ≤ 1048576
  case neg =>
    go_enter Try.func5, Try.ntmps5
    go_wp2
    go_ret
    exact ⟨rfl, Below.refl _ _⟩
  go_enter Try.func5, Try.ntmps5
  go_wp2_with fail
  refine (s_DrawShows f0 l0 hb).mono ?_
  rintro e w1 ⟨n, a1, c1, r, a2, c2, l, rfl, hG, B1⟩
  have z1 := B1.size
  obtain ⟨hA, hB2, hn1, hn5⟩ := hG
  have hr := hA.ri
  have hl := hB2.ri
  have hr5 := hA.len
  have hl6 := hB2.len
  have hrc := hA.cap
  have hlc := hB2.cap
  clear hA hB2
  clear f0
  cases hok : swB n r l
  · skip
    have HV := Lib.hid hok; clear hok
    go_wp2_with fail
    refine (i_Shows (by omega) (by omega) hr (by omega) hl (by omega) hrc (by omega) (by omega)).mono ?_
    rintro e w2 ⟨rfl, b2⟩
    have z2 := b2.size
    have hr := hr.below b2 (by omega)
    have hl := hl.below b2 (by omega)
    have B2 := B1.trans (b2.mono (by omega))
    clear b2 B1
    rw [HV.out]
    go_wp2_with fail
    refine (s_Shows (by omega) (by omega) hr (by omega) hl (by omega)).mono ?_
    rintro e w3 ⟨rfl, d3⟩
    have b3 := Dr.below d3 w2.heap.size
    have z3 := Dr.le d3
    clear d3
    have hr := hr.below b3 (by omega)
    have hl := hl.below b3 (by omega)
    have B3 := B2.trans (b3.mono (by omega))
    clear b3 B2
    rw [HV.out]
    go_wp2_with fail
    refine (s_Shows (by omega) (by omega) hr (by omega) hl (by omega)).mono ?_
    rintro e w4 ⟨rfl, d4⟩
    have b4 := Dr.below d4 w3.heap.size
    have z4 := Dr.le d4
    clear d4
    have hr := hr.below b4 (by omega)
    have hl := hl.below b4 (by omega)
    have B4 := B3.trans (b4.mono (by omega))
    clear b4 B3
    rw [HV.out]
    go_wp2
    go_ret
    exact ⟨rfl, B4⟩
  have HF := Lib.hid (sw_law hok)
  have HV := Lib.hid hok; clear hok
  go_wp2_with fail
  refine (i_Shows (by omega) (by omega) hr (by omega) hl (by omega) hrc (by omega) (by omega)).mono ?_
  rintro e w2 ⟨rfl, b2⟩
  have z2 := b2.size
  have hr := hr.below b2 (by omega)
  have hl := hl.below b2 (by omega)
  have B2 := B1.trans (b2.mono (by omega))
  clear b2 B1
  rw [HV.out]
  go_wp2_with fail
  refine (s_Shows (by omega) (by omega) hr (by omega) hl (by omega)).mono ?_
  rintro e w3 ⟨rfl, d3⟩
  have b3 := Dr.below d3 w2.heap.size
  have z3 := Dr.le d3
  clear d3
  have hr := hr.below b3 (by omega)
  have hl := hl.below b3 (by omega)
  have B3 := B2.trans (b3.mono (by omega))
  clear b3 B2
  rw [HV.out]
  go_wp2
  go_loopw [7] (fun i wr => ∃ k : Nat, k ≤ l.length ∧ i = .int .i64 k ∧ Below w3.heap.size w3 wr) (fun i _ => l.length - (intOf i).toNat)
  case atStart => exact ⟨0, Nat.zero_le _, rfl, Below.refl _ _⟩
  case round =>
    obtain ⟨k, hk, rfl, hd⟩ := hrel
    have hz := hd.size
    have hr := hr.below hd (by omega)
    have hl := hl.below hd (by omega)
    have BB := B3.trans (hd.mono (by omega))
    by_cases hlt : k < l.length
    · skip
      have HK := Lib.hid (HF.out.1 k)
      obtain ⟨q, hq⟩ : ∃ q, l.eraseIdx k = q := ⟨_, rfl⟩
      have hql : q.length ≤ 6 := by rw [← hq]; exact Nat.le_trans (List.length_eraseIdx_le _ _) hl6
      have HQ := Lib.hid hq
      rw [hq] at HK
      clear hq
      go_wp2_with fail
      refine (l_drop hl (by omega) hlc hlt (by omega)).mono ?_
      rintro e v1 ⟨qa, qc, rfl, hqo, b1⟩
      rw [HQ.out] at hqo ⊢
      have hzz := b1.size
      have hr := hr.below b1 (by omega)
      have hd1 := hd.trans (b1.mono (by omega))
      go_wp2_with fail
      refine (i_Shows (by omega) (by omega) hr (by omega) hqo.ri (by omega) hrc (by omega) (by omega)).mono ?_
      rintro e v2 ⟨rfl, b2⟩
      rw [HK.out]
      have hd2 := hd1.trans (b2.mono (by omega))
      go_wp2
      go_roundw
      case rel => exact ⟨k + 1, by omega, by go_num, hd2⟩
      case measure => simp [intOf]; omega
    · skip
      have H1 := Lib.hid HF.out.2.1
      have H2 := Lib.hid HF.out.2.2
      go_wp2_with fail
      refine (i_Shows (by omega) (by omega) hr (by omega) hr (by omega) hrc (by omega) (by omega)).mono ?_
      rintro e v1 ⟨rfl, b1⟩
      rw [H1.out]
      have hzz := b1.size
      have hr := hr.below b1 (by omega)
      have BB := BB.trans (b1.mono (by omega))
      go_wp2_with fail
      refine (i_Shows (l := []) (a' := none) (c' := 0) (lo' := 0) (hi' := 0) (by omega) (by omega) hr (by omega) (RI.nil _ _ _ _) (by simp) hrc (by omega) (by omega)).mono ?_
      rintro e v2 ⟨rfl, b2⟩
      rw [H2.out]
      go_wp2
      go_ret
      exact ⟨rfl, BB.trans (b2.mono (by omega))⟩

end Go.Proofs.Ytkboggohkhjciaa
