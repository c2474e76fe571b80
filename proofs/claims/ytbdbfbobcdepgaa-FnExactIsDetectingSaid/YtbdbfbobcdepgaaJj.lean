/- Walks: IsDetecting and IsLocating, by the model. -/
import Derived.Test.YtbdbfbobcdepgaaJi
import Derived.Test.YtbdbfbobcdepgaaVr
import Derived.Test.YtbdbfbobcdepgaaJa
namespace Go.Proofs.Ytbdbfbobcdepgaa
open Go.RowKit

set_option maxRecDepth 100000 in
set_option maxHeartbeats 4000000 in
theorem s_IsDetecting {m : List Int} {s : List (List Int)} {a a' : Option Addr} {c c' lo hi lo' hi' : Nat} {w : World} {t : Int} (hm : RI w lo hi a m) (hlm : m.length ≤ 9223372036854775807) (hs : RII w lo' hi' a' s) (hls : s.length ≤ 9223372036854775807) (hg : ∀ r ∈ s, r.length ≤ 9223372036854775807) (_ht0 : -9223372036854775808 ≤ t) (_ht1 : t ≤ 9223372036854775807) (hB : hi ≤ w.heap.size) (hB' : hi' ≤ w.heap.size) :
    Calls Try.prog 49 #[.slice a m.length c, .slice a' s.length c', .int .i64 t] w (NewV w (.bool (idB m s t))) := by
  have HG := Lib.hid hg; clear hg
  cases hc : okC m s t
  · have HE : Hid (idB m s t = false) := id_no hc
    have HC := Lib.hid hc; clear hc
    go_enter Try.func49, Try.ntmps49
    go_wp2_with fail
    refine (s_good hm hlm hs hls HG.out).mono ?_
    rintro e w1 ⟨rfl, hd⟩
    rw [HC.out]
    go_wp2
    go_ret
    exact ⟨by rw [HE.out]; rfl, Dr.below hd _⟩
  have HE : Hid (idB m s t = idP m s t) := id_yes hc
  have hp := okC_parts hc
  have HLN := Lib.hid (patS_len (head := []) hp.1 t)
  have HR := Lib.hid hp.2.2.2
  have hsl := hp.2.2.1
  have ht := hp.2.1
  have HOK := Lib.hid hp.1
  have hm5 := okM_len hp.1
  have HC := Lib.hid hc; clear hc hp
  go_enter Try.func49, Try.ntmps49
  go_wp2_with fail
  refine (s_good hm hlm hs hls HG.out).mono ?_
  rintro e w1 ⟨rfl, hd⟩
  rw [HC.out]
  have hz1 := Dr.le hd
  have hm1 := hm.dr hd
  have hs1 := hs.dr hd
  have hbA := (Below.refl w1.heap.size w1).alloc (Nat.le_refl _) (.cells #[] 3)
  go_wp2_with fail
  refine (s_patterns HOK.out m.length [] a ⟨w1.heap.size, 0, none⟩ c 0 lo hi 0 0 _ t (by simp) (hm1.below hbA (by omega)) (by simp; omega) (RI.nil _ _ _ _) (by simp) (by omega) (by omega)).mono ?_
  rintro e w2 ⟨ad, cc, rfl, h2, hb2⟩
  obtain ⟨ps, hps⟩ : ∃ ps, patS m [] t = ps := ⟨_, rfl⟩
  have HPS := Lib.hid hps
  have HPL : Hid (∀ p ∈ ps, p.length = m.length) := by show ∀ p ∈ ps, _; rw [← hps]; exact fun p hp => patS_row p hp
  rw [hps] at h2 HLN
  rw [hps]
  clear hps
  have hsz2 := hb2.size
  simp only [World.size_alloc] at hsz2
  have hb12 := hbA.trans (hb2.mono (by simp))
  have hBf := (Dr.below hd w.heap.size).trans (hb12.mono hz1.2)
  have hs2 := hs1.below hb12 (by omega)
  have hr2 := h2.rii
  obtain ⟨M, hM⟩ : ∃ M, ps.length = M := ⟨_, rfl⟩
  have HNN := Lib.hid hM
  have hMl : M ≤ 1024 := by have := HLN.out; omega
  rw [hM]
  clear hM h2 hb2 hbA hb12 hm hs hm1 hs1 hd
  go_wp2
  go_loopw [8, 9] (fun i _ wr => ∃ k : Nat, k ≤ M ∧ i = .int .i64 k ∧ Hid (∀ (i j : Nat) (p q : List Int), i < k → ps[i]? = some p → ps[j]? = some q → i ≠ j → apB s p q = true) ∧ Dr w2 wr) (fun i _ _ => M - (intOf i).toNat)
  case atStart => exact ⟨0, Nat.zero_le _, rfl, fun x _ _ _ hx => absurd hx (by omega), Dr.refl _⟩
  case round =>
    obtain ⟨k, hk, rfl, hI, hd⟩ := hrel
    by_cases hlt : k < M
    · obtain ⟨wo, hwo⟩ : ∃ wo, wo = wr := ⟨_, rfl⟩
      subst hwo
      go_wp2
      go_loopw [9] (fun j wr => ∃ y : Nat, y ≤ M ∧ j = .int .i64 y ∧ Hid (∀ (j : Nat) (p q : List Int), j < y → ps[k]? = some p → ps[j]? = some q → k ≠ j → apB s p q = true) ∧ Dr wo wr) (fun j _ => M - (intOf j).toNat)
      case atStart => exact ⟨0, Nat.zero_le _, rfl, fun y' _ _ hy => absurd hy (by omega), Dr.refl _⟩
      case round =>
        obtain ⟨y, hy, rfl, hJ, hd2⟩ := hrel
        have D2 := Dr.trans hd hd2
        by_cases hyk : y < M
        · obtain ⟨b1, o1, a1, c1, p, ha1, _, _, hc1, hp1, hx1⟩ := (hr2.dr D2).at (show k < ps.length by have := HNN.out; omega)
          obtain ⟨b2, o2, a2, c2, q, ha2, _, _, hc2, hp2, hx2⟩ := (hr2.dr D2).at (show y < ps.length by have := HNN.out; omega)
          have hi1 := idxII ha1 hlt cc
          have hi2 := idxII ha2 (show y < M by omega) cc
          have hpl := HPL.out p (List.mem_of_getElem? hx1.out)
          have hql := HPL.out q (List.mem_of_getElem? hx2.out)
          have hss := hs2.dr D2
          have HAP := Lib.hid (fun nn => s_apart (c := c1) (c1 := c') (c2 := c2) (hss.dr (w' := wr.drewN nn) ⟨nn, rfl⟩) (hp1.drewN nn) (hp2.drewN nn) (by omega) (fun r hr => by have := HR.out r hr; omega) (by omega) (by omega))
          have HJ2 : Hid ((k ≠ y → apB s p q = true) → ∀ (j : Nat) (p q : List Int), j < y + 1 → ps[k]? = some p → ps[j]? = some q → k ≠ j → apB s p q = true) := by
            show _ → ∀ (j : Nat), _
            intro h y' p' q' hy' e1 e2 ha
            by_cases hyy : y' = y
            · subst hyy
              rw [hx1.out] at e1; rw [hx2.out] at e2
              cases e1; cases e2
              exact h ha
            · exact hJ.out y' p' q' (by omega) e1 e2 ha
          have HBAD : Hid (k ≠ y → apB s p q = false → idB m s t = false) := by
            show _ → _ → _
            intro h1 h2
            rw [HE.out]
            cases hb : idP m s t
            · rfl
            · have := idP_iff.1 hb k y p q (by rw [HPS.out]; exact hx1.out) (by rw [HPS.out]; exact hx2.out) h1
              rw [h2] at this; cases this
          by_cases hky : k = y
          · have HJ3 := Lib.hid (HJ2.out fun h => absurd hky h)
            have hkyb : ((k : Int) != (y : Int)) = false := by rw [hky]; exact bne_self_eq_false _
            clear HJ2 HAP hss hp1 hp2 ha1 ha2 hpl hql hx1 hx2 hJ HBAD hky
            go_wp2_with fail
            go_quiet (fail)
            go_wp2
            go_roundw
            case rel => exact ⟨y + 1, by omega, by go_num, HJ3, Dr.drewN hd2 _⟩
            case measure => simp [intOf]; omega
          · have hkyb : ((k : Int) != (y : Int)) = true := by rw [bne_iff_ne]; omega
            cases hap : apB s p q
            · have HB2 := Lib.hid (HBAD.out hky hap)
              rw [hap] at HAP
              clear HJ2 hss hp1 hp2 ha1 ha2 hpl hql hx1 hx2 hJ HBAD hap
              go_wp2_with fail
              go_quiet (exact Calls.quiet_of (HAP.out _))
              go_wp2
              go_ret
              exact ⟨by rw [HB2.out]; rfl, hBf.trans (Dr.below (Dr.drewN D2 _) _)⟩
            · have HJ3 := Lib.hid (HJ2.out fun _ => hap)
              rw [hap] at HAP
              clear HJ2 hss hp1 hp2 ha1 ha2 hpl hql hx1 hx2 hJ HBAD hap
              go_wp2_with fail
              go_quiet (exact Calls.quiet_of (HAP.out _))
              go_wp2
              go_roundw
              case rel => exact ⟨y + 1, by omega, by go_num, HJ3, Dr.drewN hd2 _⟩
              case measure => simp [intOf]; omega
        · have HI2 : Hid (∀ (i j : Nat) (p q : List Int), i < k + 1 → ps[i]? = some p → ps[j]? = some q → i ≠ j → apB s p q = true) := by
            show ∀ (i j : Nat) p q, _
            intro x y' p q hx e1 e2 hij
            by_cases hxk : x = k
            · subst hxk; exact hJ.out y' p q (by have := lt_of_at e2; have := HNN.out; omega) e1 e2 hij
            · exact hI.out x y' p q (by omega) e1 e2 hij
          clear hI hJ
          go_wp2
          go_roundw
          case rel => exact ⟨k + 1, by omega, by go_num, HI2, D2⟩
          case measure => simp [intOf]; omega
    · have HBT : Hid (idB m s t = true) := by
        show _ = _
        rw [HE.out]
        exact idP_iff.2 fun i j p q h1 h2 h3 => hI.out i j p q (by rw [HPS.out] at h1; have := lt_of_at h1; have := HNN.out; omega) (by rw [← HPS.out]; exact h1) (by rw [← HPS.out]; exact h2) h3
      go_wp2
      go_ret
      exact ⟨by rw [HBT.out]; rfl, hBf.trans (Dr.below hd _)⟩

set_option maxHeartbeats 400000 in
theorem s_equal {x y : List Bool} {a b : Option Addr} {c d lo hi lo' hi' n : Nat} {w : World} (hx : RBo w lo hi a x) (hy : RBo w lo' hi' b y) (hxn : x.length = n) (hyn : y.length = n) (hl : n ≤ 1048576) :
    Calls Try.prog 121 #[.slice a n c, .slice b n d] w (RO w (.bool (eqBo x y))) := by
  have HN : Hid (y.length = n) := hyn
  have HM : Hid (x.length = n) := hxn
  clear hxn hyn
  go_enter Try.func121, Try.ntmps121
  go_wp2
  go_loopw [5] (fun i wr => ∃ k q : Nat, k ≤ n ∧ i = .int .i64 k ∧ wr = w.drewN q ∧ Hid (x.take k = y.take k)) (fun i _ => n - (intOf i).toNat)
  case atStart => exact ⟨0, 0, Nat.zero_le _, rfl, rfl, rfl⟩
  case round =>
    obtain ⟨k, q, hk, rfl, rfl, hA⟩ := hrel
    by_cases hlt : k < n
    · obtain ⟨b1, o1, u, ha, _, _, hcell, hu⟩ := hx.at (show k < x.length by rw [HM.out]; exact hlt)
      obtain ⟨b2, o2, v, hb, _, _, hcell2, hv⟩ := hy.at (show k < y.length by rw [HN.out]; exact hlt)
      have hidx := idxBo ha hlt c
      have hidx2 := idxBo hb hlt d
      clear ha hb hx hy
      by_cases huv : u = v
      · subst huv
        have HA2 : Hid (x.take (k + 1) = y.take (k + 1)) := by
          show x.take (k + 1) = y.take (k + 1)
          rw [take_snoc hu.out, take_snoc hv.out, hA.out]
        cases u
        all_goals
          go_wp2
          go_quiet (fail)
          go_wp2
          go_roundw
          case rel => exact ⟨k + 1, _, by omega, by go_num, rfl, HA2⟩
          case measure => simp [intOf]; omega
      · have HNE : Hid (eqBo x y = false) := eqBo_no (by
          intro e
          have h1 := hu.out; have h2 := hv.out
          rw [e, h2] at h1
          exact huv (Option.some.inj h1).symm)
        cases u <;> cases v <;> first | (exact absurd rfl huv) | skip
        all_goals
          clear huv
          go_wp2
          go_quiet (fail)
          go_wp2
          go_ret
          exact RO.bool2 (b := false) HNE.out.symm _ _
    · have HE : Hid (eqBo x y = true) := eqBo_true.2 (by
        have h1 := hA.out
        rwa [List.take_of_length_le (by rw [HM.out]; omega), List.take_of_length_le (by rw [HN.out]; omega)] at h1)
      go_wp2
      go_ret
      exact RO.bool (b := true) HE.out.symm _

set_option maxHeartbeats 400000 in
theorem s_rowOf {s : List (List Int)} {p : List Int} {a a' : Option Addr} {c c' lo hi lo' hi' n : Nat} {w : World} (hs : RII w lo' hi' a' s) (hB' : hi' ≤ w.heap.size) (hp : RI w lo hi a p) (hB : hi ≤ w.heap.size) (hl : s.length ≤ 1048576) (hr : ∀ r ∈ s, r.length = n) (hpl : p.length = n) (hn : n ≤ 1048576) (hpc : p.length ≤ c) :
    Calls Try.prog 122 #[.slice a' s.length c', .slice a p.length c] w (NewBo w (rowB s p)) := by
  have HR := Lib.hid hr
  have HP := Lib.hid hpl
  have hbA := (Below.refl w.heap.size w).alloc (Nat.le_refl _) (.cells #[.slice a p.length c] 22)
  have hpp : RII (w.alloc (.cells #[.slice a p.length c] 22)) 0 (w.alloc (.cells #[.slice a p.length c] 22)).heap.size (some ⟨w.heap.size, 0, none⟩) [p] := by
    intro k hk
    have hk0 : k = 0 := by simp at hk; exact hk
    subst hk0
    refine ⟨w.heap.size, 0, a, c, p, rfl, Nat.zero_le _, by simp, rfl, ?_, (hp.below hbA hB).wide (Nat.zero_le _) (by simp; omega), hpc⟩
    exact cell_of_row _ _ 0 _ _ _ (heap_alloc_new w _)
  have HC := Lib.hid (s_results (c := c') (c' := 1) (n := n) (hs.below hbA hB') (by simp; omega) hpp (Nat.le_refl _) hl (by simp) HR.out (fun q hq => by rw [List.mem_singleton.1 hq]; exact HP.out) hn)
  have HRW := Lib.hid (row_one s p)
  clear hr hpl hpp hs hp
  go_enter Try.func122, Try.ntmps122
  go_wp2_with fail
  refine HC.out.mono ?_
  rintro e w2 ⟨a2, c2, rfl, h2, hb2⟩
  go_wp2
  go_ret
  rw [HRW.out] at h2
  refine ⟨a2, c2, by rw [rowB, List.length_map]; rfl, ⟨?_, ?_⟩, hbA.trans (hb2.mono (by simp))⟩
  · exact h2.ob.wide (by simp) (Nat.le_refl _)
  · exact h2.cap

end Go.Proofs.Ytbdbfbobcdepgaa
