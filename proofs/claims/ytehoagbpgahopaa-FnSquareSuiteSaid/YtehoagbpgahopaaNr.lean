/- Walks: IsBalanced of the specification. -/
import Derived.Test.YtehoagbpgahopaaNq
import Derived.Test.YtehoagbpgahopaaYb
namespace Go.Proofs.Ytehoagbpgahopaa
open Go.RowKit

set_option maxRecDepth 100000 in
set_option maxHeartbeats 4000000 in
theorem s_alike {p q : List Int} {a a' : Option Addr} {c c' lo hi lo' hi' : Nat} {w : World} (hp : RI w lo hi a p) (hq : RI w lo' hi' a' q) (hl : p.length = q.length) (h5 : p.length ≤ 1048576) :
    Calls Try.prog 165 #[.slice a p.length c, .slice a' q.length c'] w (RO w (.bool (alB p q))) := by
  have HL := Lib.hid hl
  obtain ⟨M, hM⟩ : ∃ M, p.length = M := ⟨_, rfl⟩
  have HM := Lib.hid hM
  have hqM : q.length = M := by omega
  have HQ := Lib.hid hqM
  rw [hM, hqM]
  rw [hM] at h5
  clear hM hqM hl
  go_enter Try.func165, Try.ntmps165
  go_wp2
  go_loopw [5] (fun i wr => ∃ k : Nat, k ≤ M ∧ i = .int .i64 k ∧ Hid (∀ j, j < k → (at5 p j == -1) = (at5 q j == -1)) ∧ Dr w wr) (fun i _ => M - (intOf i).toNat)
  case atStart => exact ⟨0, Nat.zero_le _, rfl, fun j hj => absurd hj (by omega), Dr.refl _⟩
  case round =>
    obtain ⟨k, hk, rfl, hI, hd⟩ := hrel
    by_cases hlt : k < M
    · obtain ⟨b, o, x, ha, _, _, hc, hx⟩ := (hp.dr hd).at (show k < p.length by have := HM.out; omega)
      obtain ⟨b2, o2, y, ha2, _, _, hc2, hy⟩ := (hq.dr hd).at (show k < q.length by have := HQ.out; omega)
      have hidx := idxI ha hlt c
      have hidx2 := idxI ha2 hlt c'
      have e1 := at5_of hx.out
      have e2 := at5_of hy.out
      have HST : Hid ((x == -1) = (y == -1) → ∀ j, j < k + 1 → (at5 p j == -1) = (at5 q j == -1)) := by
        show _ → ∀ j, _
        intro h j hj
        by_cases hjk : j = k
        · rw [hjk, e1, e2]; exact h
        · exact hI.out j (by omega)
      have HNO : Hid ((x == -1) ≠ (y == -1) → alB p q = false) := by
        show _ → _
        intro h
        cases hb : alB p q
        · rfl
        · have := (alB_iff HL.out).1 hb k
          rw [e1, e2] at this
          exact absurd this h
      clear ha ha2 hx hy e1 e2 hI
      cases hbx : (x == -1) <;> cases hby : (y == -1) <;> rw [hbx, hby] at HST HNO
      case false.false =>
        have HI2 := Lib.hid (HST.out rfl)
        clear HST HNO
        go_wp2_with fail
        go_quiet (fail)
        go_wp2
        go_roundw
        case rel => exact ⟨k + 1, by omega, by go_num, HI2, Dr.drewN hd _⟩
        case measure => simp [intOf]; omega
      case true.true =>
        have HI2 := Lib.hid (HST.out rfl)
        clear HST HNO
        go_wp2_with fail
        go_quiet (fail)
        go_wp2
        go_roundw
        case rel => exact ⟨k + 1, by omega, by go_num, HI2, Dr.drewN hd _⟩
        case measure => simp [intOf]; omega
      case true.false =>
        have HF := Lib.hid (HNO.out (by decide))
        clear HST HNO
        go_wp2_with fail
        go_quiet (fail)
        go_wp2
        go_ret
        rw [HF.out]
        exact Dr.boolD (b := false) (Dr.drewN hd _) rfl
      case false.true =>
        have HF := Lib.hid (HNO.out (by decide))
        clear HST HNO
        go_wp2_with fail
        go_quiet (fail)
        go_wp2
        go_ret
        rw [HF.out]
        exact Dr.boolD (b := false) (Dr.drewN hd _) rfl
    · have HT : Hid (alB p q = true) := by
        show _ = _
        rw [alB_iff HL.out]
        intro j
        by_cases hj : j < k
        · exact hI.out j hj
        · rw [at5_out (by have := HM.out; omega), at5_out (by have := HQ.out; omega)]
      go_wp2
      go_ret
      rw [HT.out]
      exact Dr.boolD (b := true) hd rfl

theorem ba_pairs {m : List Int} {s ps : List (List Int)} {t : Int} (hps : patS m [] t = ps) (hl : ∀ p ∈ ps, p.length = m.length) (h : ∀ x y p q, x < ps.length → y < x → ps[x]? = some p → ps[y]? = some q → alB p q = true → baP.frQ s p = baP.frQ s q) : baP m s t = true := by
  refine ba_true hps fun p hp q hq ha => ?_
  obtain ⟨x, hx⟩ := List.getElem?_of_mem hp
  obtain ⟨y, hy⟩ := List.getElem?_of_mem hq
  have hxl := (List.getElem?_eq_some_iff.1 hx).1
  have hyl := (List.getElem?_eq_some_iff.1 hy).1
  rcases Nat.lt_trichotomy x y with h1 | h1 | h1
  · exact (h y x q p hyl h1 hy hx (alB_symm ((hl p hp).trans (hl q hq).symm) ha)).symm
  · subst h1; rw [hx] at hy; cases hy; rfl
  · exact h x y p q hxl h1 hx hy ha

set_option maxRecDepth 100000 in
set_option maxHeartbeats 3000000 in
theorem s_IsBalanced {m : List Int} {s : List (List Int)} {a a' : Option Addr} {c c' lo hi lo' hi' : Nat} {w : World} {t : Int} (hm : RI w lo hi a m) (hlm : m.length ≤ 9223372036854775807) (hs : RII w lo' hi' a' s) (hls : s.length ≤ 9223372036854775807) (hg : ∀ r ∈ s, r.length ≤ 9223372036854775807) (_ht0 : -9223372036854775808 ≤ t) (_ht1 : t ≤ 9223372036854775807) (hB : hi ≤ w.heap.size) (hB' : hi' ≤ w.heap.size) :
    Calls Try.prog 52 #[.slice a m.length c, .slice a' s.length c', .int .i64 t] w (NewV w (.bool (ibB m s t))) := by
  have HG := Lib.hid hg; clear hg
  cases hc : okC m s t
  · have HC := Lib.hid hc; clear hc
    go_enter Try.func52, Try.ntmps52
    go_wp2_with fail
    refine (s_good hm hlm hs hls HG.out).mono ?_
    rintro e w1 ⟨rfl, hd⟩
    rw [HC.out]
    go_wp2
    go_ret
    rw [ib_no HC.out]
    exact ⟨rfl, Dr.below hd _⟩
  have hp := okC_parts hc
  have HLN := Lib.hid (patS_len (head := []) hp.1 t)
  have HR := Lib.hid hp.2.2.2
  have hsl := hp.2.2.1
  have ht := hp.2.1
  have HOK := Lib.hid hp.1
  have hm5 := okM_len hp.1
  have HIB := Lib.hid (ib_yes hc)
  have HC := Lib.hid hc; clear hc hp
  go_enter Try.func52, Try.ntmps52
  go_wp2_with fail
  refine (s_good hm hlm hs hls HG.out).mono ?_
  rintro e w1 ⟨rfl, hd⟩
  rw [HC.out]
  have hz1 := Dr.le hd
  have hm1 := hm.dr hd
  have hs1 := hs.dr hd
  have hbA := (Below.refl w1.heap.size w1).alloc (Nat.le_refl _) (.cells #[] 3)
  go_wp2_with fail
  refine (s_patterns HOK.out m.length [] a ⟨w1.heap.size, 0, none⟩ c 0 lo hi 0 0 _ t (by simp) (hm1.below hbA (by omega)) (by simp; omega) (RI.nil _ _ _ _) (by simp) (by omega) (by omega)).mono ?_
  rintro e w2 ⟨ad, cc, rfl, h2, hb2⟩
  obtain ⟨ps, hps⟩ : ∃ ps, patS m [] t = ps := ⟨_, rfl⟩
  have HPS := Lib.hid hps
  have HPL : Hid (∀ p ∈ ps, p.length = m.length) := by show ∀ p ∈ ps, _; rw [← hps]; exact fun p hp => patS_row p hp
  rw [hps] at h2 HLN
  rw [hps]
  clear hps
  have hsz2 := hb2.size
  simp only [World.size_alloc] at hsz2
  have hb12 := hbA.trans (hb2.mono (by simp))
  have hBf := (Dr.below hd w.heap.size).trans (hb12.mono hz1.2)
  have hs2 := hs1.below hb12 (by omega)
  have hr2 := h2.rii
  obtain ⟨M, hM⟩ : ∃ M, ps.length = M := ⟨_, rfl⟩
  have HNN := Lib.hid hM
  have hMl : M ≤ 1024 := by have := HLN.out; omega
  rw [hM]
  clear hM h2 hb2 hbA hb12 hm hs hm1 hs1 hd
  go_wp2
  go_loopw [8, 9] (fun i _ wr => ∃ k : Nat, k ≤ M ∧ i = .int .i64 k ∧ Hid (∀ x y p q, x < k → y < x → ps[x]? = some p → ps[y]? = some q → alB p q = true → baP.frQ s p = baP.frQ s q) ∧ Dr w2 wr) (fun i _ _ => M - (intOf i).toNat)
  case atStart => exact ⟨0, Nat.zero_le _, rfl, fun x _ _ _ hx => absurd hx (by omega), Dr.refl _⟩
  case round =>
    obtain ⟨k, hk, rfl, hI, hd⟩ := hrel
    by_cases hlt : k < M
    · obtain ⟨wo, hwo⟩ : ∃ wo, wo = wr := ⟨_, rfl⟩
      subst hwo
      go_wp2
      go_loopw [9] (fun j wr => ∃ y : Nat, y ≤ k ∧ j = .int .i64 y ∧ Hid (∀ y' p q, y' < y → ps[k]? = some p → ps[y']? = some q → alB p q = true → baP.frQ s p = baP.frQ s q) ∧ Dr wo wr) (fun j _ => k - (intOf j).toNat)
      case atStart => exact ⟨0, Nat.zero_le _, rfl, fun y' _ _ hy => absurd hy (by omega), Dr.refl _⟩
      case round =>
        obtain ⟨y, hy, rfl, hJ, hd2⟩ := hrel
        have D2 := Dr.trans hd hd2
        by_cases hyk : y < k
        · obtain ⟨b1, o1, a1, c1, p, ha1, _, _, hc1, hp1, hx1⟩ := (hr2.dr D2).at (show k < ps.length by have := HNN.out; omega)
          obtain ⟨b2, o2, a2, c2, q, ha2, _, _, hc2, hp2, hx2⟩ := (hr2.dr D2).at (show y < ps.length by have := HNN.out; omega)
          have hi1 := idxII ha1 hlt cc
          have hi2 := idxII ha2 (show y < M by omega) cc
          have hpl := HPL.out p (List.mem_of_getElem? hx1.out)
          have hql := HPL.out q (List.mem_of_getElem? hx2.out)
          have hss := hs2.dr D2
          have HAL := Lib.hid (fun nn => s_alike (c := c1) (c' := c2) (hp1.drewN nn) (hp2.drewN nn) (hpl.trans hql.symm) (by omega))
          have HH1 := Lib.hid (fun nn => s_howOften (c := c1) (c' := c') (hss.dr (w' := wr.drewN nn) ⟨nn, rfl⟩) (hp1.drewN nn) (by omega) (fun r hr => by have := HR.out r hr; omega))
          have HH2 := Lib.hid (fun nn => s_howOften (c := c2) (c' := c') (hss.dr (w' := wr.drewN nn) ⟨nn, rfl⟩) (hp2.drewN nn) (by omega) (fun r hr => by have := HR.out r hr; omega))
          have HJ2 : Hid ((alB p q = true → baP.frQ s p = baP.frQ s q) → ∀ y' p q, y' < y + 1 → ps[k]? = some p → ps[y']? = some q → alB p q = true → baP.frQ s p = baP.frQ s q) := by
            show _ → ∀ y', _
            intro h y' p' q' hy' e1 e2 ha
            by_cases hyy : y' = y
            · subst hyy
              rw [hx1.out] at e1; rw [hx2.out] at e2
              cases e1; cases e2
              exact h ha
            · exact hJ.out y' p' q' (by omega) e1 e2 ha
          cases hal : alB p q
          · have HJ3 := Lib.hid (HJ2.out (by rw [hal]; intro h; cases h))
            rw [hal] at HAL
            clear HJ2 HH1 HH2 hss hp1 hp2 ha1 ha2 hpl hql hx1 hx2 hJ
            go_wp2_with fail
            go_quiet (exact Calls.quiet_of (HAL.out _))
            go_wp2
            go_roundw
            case rel => exact ⟨y + 1, by omega, by go_num, HJ3, Dr.drewN hd2 _⟩
            case measure => simp [intOf]; omega
          · rw [hal] at HAL
            change Hid (∀ nn, Calls _ _ _ _ (RO _ (.int .i64 (baP.frQ s p : Nat)))) at HH1
            change Hid (∀ nn, Calls _ _ _ _ (RO _ (.int .i64 (baP.frQ s q : Nat)))) at HH2
            by_cases hne : baP.frQ s p = baP.frQ s q
            · have HJ3 := Lib.hid (HJ2.out (fun _ => hne))
              rw [hne] at HH1
              obtain ⟨n, hn⟩ : ∃ n, baP.frQ s q = n := ⟨_, rfl⟩
              rw [hn] at HH1 HH2
              have hneq : ((n : Int) != (n : Int)) = false := bne_self_eq_false _
              clear HJ2 hss hp1 hp2 ha1 ha2 hx1 hx2 hJ hne hn hal hpl hql
              go_wp2_with fail
              go_quiet (first | (go_at_call 165; exact Calls.quiet_of (HAL.out _)) | (go_at_call 166; with_reducible exact Calls.quiet_of (HH1.out _)) | (go_at_call 166; with_reducible exact Calls.quiet_of (HH2.out _)))
              go_wp2
              go_roundw
              case rel => exact ⟨y + 1, by omega, by go_num, HJ3, Dr.drewN hd2 _⟩
              case measure => simp [intOf]; omega
            · have HBF : Hid (ibB m s t = false) := by
                show _ = _
                rw [HIB.out]
                exact ba_false HPS.out (List.mem_of_getElem? hx1.out) (List.mem_of_getElem? hx2.out) hal hne
              obtain ⟨n, hn⟩ : ∃ n, baP.frQ s q = n := ⟨_, rfl⟩
              obtain ⟨n1, hn1⟩ : ∃ n1, baP.frQ s p = n1 := ⟨_, rfl⟩
              rw [hn] at HH2
              rw [hn1] at HH1
              rw [hn, hn1] at hne
              have hneq : ((n1 : Int) != (n : Int)) = true := by rw [bne_iff_ne]; intro e; exact hne (by exact_mod_cast e)
              clear HJ2 hss hp1 hp2 ha1 ha2 hx1 hx2 hJ hne hn hn1 hal hpl hql
              go_wp2_with fail
              go_quiet (first | (go_at_call 165; exact Calls.quiet_of (HAL.out _)) | (go_at_call 166; with_reducible exact Calls.quiet_of (HH1.out _)) | (go_at_call 166; with_reducible exact Calls.quiet_of (HH2.out _)))
              go_wp2
              go_ret
              exact ⟨by rw [HBF.out]; rfl, hBf.trans (Dr.below (Dr.drewN D2 _) _)⟩
        · have hyk2 : y = k := by omega
          have HI2 : Hid (∀ x y p q, x < k + 1 → y < x → ps[x]? = some p → ps[y]? = some q → alB p q = true → baP.frQ s p = baP.frQ s q) := by
            show ∀ x y' p q, _
            intro x y' p q hx hy' e1 e2 ha
            by_cases hxk : x = k
            · subst hxk; exact hJ.out y' p q (by omega) e1 e2 ha
            · exact hI.out x y' p q (by omega) hy' e1 e2 ha
          clear hI hJ hyk2
          go_wp2
          go_roundw
          case rel => exact ⟨k + 1, by omega, by go_num, HI2, D2⟩
          case measure => simp [intOf]; omega
    · have HBT : Hid (ibB m s t = true) := by
        show _ = _
        rw [HIB.out]
        exact ba_pairs HPS.out HPL.out fun x y p q hx => hI.out x y p q (by have := HNN.out; omega)
      go_wp2
      go_ret
      exact ⟨by rw [HBT.out]; rfl, hBf.trans (Dr.below hd _)⟩

end Go.Proofs.Ytehoagbpgahopaa
