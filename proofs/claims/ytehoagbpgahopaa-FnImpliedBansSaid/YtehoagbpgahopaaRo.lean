/- Walks: what the laws on suites compare; suites cut at their end. -/
import Derived.Test.YtehoagbpgahopaaRl
import Derived.Test.YtehoagbpgahopaaRi
import Derived.Test.YtehoagbpgahopaaYb
namespace Go.Proofs.Ytehoagbpgahopaa
open Go.RowKit

/-- all of some lists are among others -/
def amgL (x y : List (List Int)) : Bool := x.all fun r => hasL y r
theorem amgL_iff {x y : List (List Int)} : amgL x y = true ↔ ∀ r ∈ x, r ∈ y := by
  unfold amgL
  rw [List.all_eq_true]
  exact ⟨fun h r hr => hasL_iff.1 (h r hr), fun h r hr => hasL_iff.2 (h r hr)⟩

set_option maxHeartbeats 1000000 in
theorem l_among {x y : List (List Int)} {a b : Option Addr} {c d lo hi lo' hi' : Nat} {w : World} (hx : RII w lo hi a x) (hy : RII w lo' hi' b y) (hl : x.length ≤ 4611686018427387904) (hl' : y.length ≤ 4611686018427387904)
    (hg : ∀ r ∈ x, r.length ≤ 4611686018427387904) (hg' : ∀ r ∈ y, r.length ≤ 4611686018427387904) :
    Calls Try.prog 103 #[.slice a x.length c, .slice b y.length d] w (RO w (.bool (amgL x y))) := by
  have HG := Lib.hid hg
  have HG' := Lib.hid hg'
  clear hg hg'
  go_enter Try.func103, Try.ntmps103
  go_wp2
  go_loopw [5] (fun i wr => ∃ k : Nat, k ≤ x.length ∧ i = .int .i64 k ∧ Dr w wr ∧ Hid ((x.take k).all (fun r => hasL y r) = true)) (fun i _ => x.length - (intOf i).toNat)
  case atStart => exact ⟨0, Nat.zero_le _, rfl, Dr.refl _, by simp [Hid]⟩
  case round =>
    obtain ⟨k, hk, rfl, hd, hA⟩ := hrel
    by_cases hlt : k < x.length
    · obtain ⟨b1, o1, a1, c1, u, ha, _, _, hcell, hru, hu⟩ := (hx.dr hd).at hlt
      have hidx := idxII ha hlt c
      have hul := HG.out u (List.mem_of_getElem? hu.out)
      have hyd := hy.dr hd
      clear ha hx hy
      cases huv : hasL y u
      · have HE := Lib.hid huv; clear huv
        go_wp2_with fail
        refine (l_holdsList hyd hru hl' hul HG'.out).mono ?_
        rintro e w1 ⟨rfl, hd1⟩
        rw [HE.out]
        go_wp2
        go_ret
        refine (Dr.trans hd hd1).boolD (b := false) ?_
        exact (all_fails hu.out HE.out).symm
      · have HE := Lib.hid huv; clear huv
        go_wp2_with fail
        refine (l_holdsList hyd hru hl' hul HG'.out).mono ?_
        rintro e w1 ⟨rfl, hd1⟩
        rw [HE.out]
        go_wp2
        go_roundw
        case rel => exact ⟨k + 1, by omega, by go_num, Dr.trans hd hd1, all_snoc hu.out hA.out HE.out⟩
        case measure => simp [intOf]; omega
    · go_wp2
      go_ret
      exact hd.boolD (b := true) (all_whole hA.out (show x.length ≤ k by omega)).symm

theorem okS_take {m : List Int} {s : List (List Int)} (h : okS m s = true) (k : Nat) : okS m (s.take k) = true := by
  have h1 := okS_len h
  unfold okS
  rw [Bool.and_eq_true, List.all_eq_true, decide_eq_true_eq]
  exact ⟨fun r hr => okS_all h (List.mem_of_mem_take hr), by simp; omega⟩
theorem okC_take {m : List Int} {s : List (List Int)} {t : Int} (h : okC m s t = true) (k : Nat) : okC m (s.take k) t = true := by
  unfold okC at h ⊢
  simp only [Bool.and_eq_true] at h ⊢
  exact ⟨⟨h.1.1, okS_take h.1.2 k⟩, h.2⟩
theorem okC_mk {m : List Int} {s : List (List Int)} {t : Int} (h : (okM m && okS m s) = true) (h0 : ¬ t < 0) (h1 : ¬ (m.length : Int) < t) : okC m s t = true := by
  unfold okC; rw [h, inR_true.2 (by omega)]; rfl
theorem okC_no {m : List Int} {s : List (List Int)} {t : Int} (h : (okM m && okS m s) = false ∨ t < 0 ∨ (m.length : Int) < t) : okC m s t = false := by
  unfold okC
  rcases h with h | h | h
  · rw [h]; rfl
  · rw [inR_false.2 (.inl h)]; simp
  · rw [inR_false.2 (.inr h)]; simp
theorem hasP_count {s : List (List Int)} {p : List Int} : hasP s p = false ↔ (s.countP fun r => mB p r) = 0 := by
  unfold hasP
  rw [List.countP_eq_zero, List.any_eq_false]
theorem mo_ho {m r : List Int} {s : List (List Int)} {t : Int} {k : Nat} (h : okC m s t = true) (hr : (moL m s t)[k]? = some r) : hoV m s r = 0 := by
  have h1 := List.mem_of_getElem? hr
  rw [mo_yes h] at h1
  unfold misL misP at h1
  rw [List.mem_filter] at h1
  have hp := okC_parts h
  have h2 := (mem_patS hp.1).1 h1.1
  unfold okC at h
  simp only [Bool.and_eq_true] at h
  rw [hoV_yes h.1.1 h.1.2 h2.1, hasP_count.1 (by simpa using h1.2)]
  rfl
theorem mo_sub {m : List Int} {s : List (List Int)} {t : Int} (h : okC m s t = true) (k : Nat) : amgL (moL m s t) (moL m (s.take k) t) = true := by
  rw [amgL_iff, mo_yes h, mo_yes (okC_take h k)]
  intro r hr
  unfold misL misP at hr ⊢
  rw [List.mem_filter] at hr ⊢
  refine ⟨hr.1, ?_⟩
  have h1 : hasP s r = false := by simpa using hr.2
  have h2 : hasP (s.take k) r = false := by
    unfold hasP at h1 ⊢
    rw [List.any_eq_false] at h1 ⊢
    exact fun q hq => h1 q (List.mem_of_mem_take hq)
  rw [h2]; rfl
theorem RIIc.some {w : World} {lo hi c : Nat} {a : Option Addr} {s : List (List Int)} (h : RIIc w lo hi a c s) (h0 : 0 < s.length) : ∃ b o, a = Option.some ⟨b, o, none⟩ := by
  obtain ⟨b, o, _, _, _, ha, _⟩ := h.rii.at h0
  exact ⟨b, o, ha⟩

end Go.Proofs.Ytehoagbpgahopaa
