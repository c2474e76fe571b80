/- Walks: what the laws compare. -/
import Derived.Test.YtpioldgpfpmjiaaDoorOwn
import Derived.Test.YtpioldgpfpmjiaaDoorWa
namespace Go.Proofs.YtpioldgpfpmjiaaDoor
open Go.RowKit

set_option maxHeartbeats 400000 in
theorem l_equalInts {x y : List Int} {a b : Option Addr} {c d lo hi lo' hi' : Nat} {w : World} (hx : RI w lo hi a x) (hy : RI w lo' hi' b y) (_hl : x.length ≤ 4611686018427387904) (hl' : y.length ≤ 4611686018427387904) :
    Calls Tryd.prog 30 #[.slice a x.length c, .slice b y.length d] w (RO w (.bool (eqI x y))) := by
  by_cases hlen : x.length = y.length
  case neg =>
    have h1 : ((x.length : Int) != (y.length : Int)) = true := by rw [bne_iff_ne]; omega
    go_enter Tryd.func30, Tryd.ntmps30
    go_wp2
    go_ret
    exact RO.bool0 (eqI_no (by intro h; rw [h] at hlen; exact hlen rfl)).symm
  obtain ⟨n, hn⟩ : ∃ n, y.length = n := ⟨_, rfl⟩
  have HN : Hid (y.length = n) := hn
  have HM : Hid (x.length = n) := hlen.trans hn
  rw [hlen, hn]
  rw [hn] at hl'
  clear _hl hlen hn
  go_enter Tryd.func30, Tryd.ntmps30
  go_wp2
  go_loopw [5] (fun i wr => ∃ k q : Nat, k ≤ n ∧ i = .int .i64 k ∧ wr = w.drewN q ∧ Hid (x.take k = y.take k)) (fun i _ => n - (intOf i).toNat)
  case atStart => exact ⟨0, 0, Nat.zero_le _, rfl, rfl, rfl⟩
  case round =>
    obtain ⟨k, q, hk, rfl, rfl, hA⟩ := hrel
    by_cases hlt : k < n
    · obtain ⟨b1, o1, u, ha, _, _, hcell, hu⟩ := hx.at (show k < x.length by rw [HM.out]; exact hlt)
      obtain ⟨b2, o2, v, hb, _, _, hcell2, hv⟩ := hy.at (show k < y.length by rw [HN.out]; exact hlt)
      have hidx := idxI ha hlt c
      have hidx2 := idxI hb hlt d
      clear ha hb hx hy
      by_cases huv : u = v
      · subst huv
        have HA2 : Hid (x.take (k + 1) = y.take (k + 1)) := by
          show x.take (k + 1) = y.take (k + 1)
          rw [take_snoc hu.out, take_snoc hv.out, hA.out]
        have hne : (u != u) = false := by simp
        go_wp2
        go_quiet (fail)
        go_wp2
        go_roundw
        case rel => exact ⟨k + 1, _, by omega, by go_num, rfl, HA2⟩
        case measure => simp [intOf]; omega
      · have hne : (u != v) = true := by simpa using huv
        go_wp2
        go_quiet (fail)
        go_wp2
        go_ret
        refine RO.bool2 (b := false) (eqI_no ?_).symm _ _
        intro h
        have h1 := hu.out
        rw [h, hv.out] at h1
        cases h1; exact huv rfl
    · go_wp2
      go_ret
      refine RO.bool (eqI_true.2 ?_).symm _
      have h := hA.out
      rwa [List.take_of_length_le (by rw [HM.out]; omega), List.take_of_length_le (by rw [HN.out]; omega)] at h

set_option maxHeartbeats 400000 in
theorem l_equalLists {x y : List (List Int)} {a b : Option Addr} {c d lo hi lo' hi' : Nat} {w : World} (hx : RII w lo hi a x) (hy : RII w lo' hi' b y) (_hl : x.length ≤ 4611686018427387904) (hl' : y.length ≤ 4611686018427387904)
    (hg : ∀ r ∈ x, r.length ≤ 4611686018427387904) (hg' : ∀ r ∈ y, r.length ≤ 4611686018427387904) :
    Calls Tryd.prog 11 #[.slice a x.length c, .slice b y.length d] w (RO w (.bool (eqII x y))) := by
  by_cases hlen : x.length = y.length
  case neg =>
    have h1 : ((x.length : Int) != (y.length : Int)) = true := by rw [bne_iff_ne]; omega
    go_enter Tryd.func11, Tryd.ntmps11
    go_wp2
    go_ret
    exact RO.bool0 (eqII_no (by intro h; rw [h] at hlen; exact hlen rfl)).symm
  obtain ⟨n, hn⟩ : ∃ n, y.length = n := ⟨_, rfl⟩
  have HN : Hid (y.length = n) := hn
  have HM : Hid (x.length = n) := hlen.trans hn
  have HG := Lib.hid hg
  have HG' := Lib.hid hg'
  rw [hlen, hn]
  rw [hn] at hl'
  clear _hl hlen hn hg hg'
  go_enter Tryd.func11, Tryd.ntmps11
  go_wp2
  go_loopw [5] (fun i wr => ∃ k : Nat, k ≤ n ∧ i = .int .i64 k ∧ Dr w wr ∧ Hid (x.take k = y.take k)) (fun i _ => n - (intOf i).toNat)
  case atStart => exact ⟨0, Nat.zero_le _, rfl, Dr.refl _, rfl⟩
  case round =>
    obtain ⟨k, hk, rfl, hd, hA⟩ := hrel
    by_cases hlt : k < n
    · obtain ⟨b1, o1, a1, c1, u, ha, _, _, hcell, hru, hu⟩ := (hx.dr hd).at (show k < x.length by rw [HM.out]; exact hlt)
      obtain ⟨b2, o2, a2, c2, v, hb, _, _, hcell2, hrv, hv⟩ := (hy.dr hd).at (show k < y.length by rw [HN.out]; exact hlt)
      have hidx := idxII ha hlt c
      have hidx2 := idxII hb hlt d
      have hul := HG.out u (List.mem_of_getElem? hu.out)
      have hvl := HG'.out v (List.mem_of_getElem? hv.out)
      clear ha hb hx hy
      cases huv : eqI u v
      · have HE := Lib.hid huv
        go_wp2
        go_quiet ((go_at_call 30; exact RO.quiet (l_equalInts (hru.drewN _) (hrv.drewN _) hul hvl)))
        go_wp2
        go_ret
        refine (hd.drewN _).boolD (b := false) (eqII_no ?_).symm
        intro h
        have h1 := hu.out
        rw [h, hv.out] at h1
        cases h1
        have := HE.out
        rw [eqI_true.2 rfl] at this
        cases this
      · have HE := Lib.hid huv
        have HA2 : Hid (x.take (k + 1) = y.take (k + 1)) := by
          show x.take (k + 1) = y.take (k + 1)
          rw [take_snoc hu.out, take_snoc hv.out, hA.out, eqI_true.1 HE.out]
        go_wp2
        go_quiet ((go_at_call 30; exact RO.quiet (l_equalInts (hru.drewN _) (hrv.drewN _) hul hvl)))
        go_wp2
        go_roundw
        case rel => exact ⟨k + 1, by omega, by go_num, hd.drewN _, HA2⟩
        case measure => simp [intOf]; omega
    · go_wp2
      go_ret
      refine hd.boolD (eqII_true.2 ?_).symm
      have h := hA.out
      rwa [List.take_of_length_le (by rw [HM.out]; omega), List.take_of_length_le (by rw [HN.out]; omega)] at h

/-- a list is among others -/
def hasL (mm : List (List Int)) (x : List Int) : Bool := mm.any fun r => eqI r x
theorem hasL_iff {mm : List (List Int)} {x : List Int} : hasL mm x = true ↔ x ∈ mm := by
  unfold hasL
  rw [List.any_eq_true]
  constructor
  · rintro ⟨r, hr, h⟩
    rw [eqI_true] at h
    exact h ▸ hr
  · intro h
    exact ⟨x, h, eqI_true.2 rfl⟩

/-- all of some lists are among others -/
def amgL (x y : List (List Int)) : Bool := x.all fun r => hasL y r
theorem amgL_iff {x y : List (List Int)} : amgL x y = true ↔ ∀ r ∈ x, r ∈ y := by
  unfold amgL
  rw [List.all_eq_true]
  exact ⟨fun h r hr => hasL_iff.1 (h r hr), fun h r hr => hasL_iff.2 (h r hr)⟩

theorem RIIc.some {w : World} {lo hi c : Nat} {a : Option Addr} {s : List (List Int)} (h : RIIc w lo hi a c s) (h0 : 0 < s.length) : ∃ b o, a = Option.some ⟨b, o, none⟩ := by
  obtain ⟨b, o, _, _, _, ha, _⟩ := h.rii.at h0
  exact ⟨b, o, ha⟩

end Go.Proofs.YtpioldgpfpmjiaaDoor
