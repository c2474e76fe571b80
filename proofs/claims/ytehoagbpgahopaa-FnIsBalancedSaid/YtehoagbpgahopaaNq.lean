/- Walks: IsBalanced, of both sides. -/
import Derived.Test.YtehoagbpgahopaaNp
import Derived.Test.YtehoagbpgahopaaYa
import Derived.Test.YtehoagbpgahopaaYb
namespace Go.Proofs.Ytehoagbpgahopaa
open Go.RowKit

theorem run_makeMapF (wx : World) : (Instr.makeMap 118 none).run Try.prog wx = .ok (.map (some wx.heap.size)) (wx.alloc (.map #[] 0)) := by
  simp [Instr.makeMap, Result.andThen]
theorem ib_no {m : List Int} {s : List (List Int)} {t : Int} (h : okC m s t = false) : ibB m s t = false := by unfold ibB; rw [h]; rfl
theorem ib_yes {m : List Int} {s : List (List Int)} {t : Int} (h : okC m s t = true) : ibB m s t = baP m s t := by unfold ibB; rw [h]; rfl
theorem ba_true {m : List Int} {s ps : List (List Int)} {t : Int} (hps : patS m [] t = ps) (h : ∀ p ∈ ps, ∀ q ∈ ps, alB p q = true → baP.frQ s p = baP.frQ s q) : baP m s t = true := by
  unfold baP
  rw [hps, List.all_eq_true]
  intro p hp
  rw [List.all_eq_true]
  intro q hq
  cases ha : alB p q
  · rfl
  · simpa using h p hp q hq ha
theorem ba_false {m : List Int} {s ps : List (List Int)} {t : Int} {p q : List Int} (hps : patS m [] t = ps) (hp : p ∈ ps) (hq : q ∈ ps) (ha : alB p q = true) (h : baP.frQ s p ≠ baP.frQ s q) : baP m s t = false := by
  cases hb : baP m s t
  · rfl
  · unfold baP at hb
    rw [hps, List.all_eq_true] at hb
    have h1 := hb p hp
    rw [List.all_eq_true] at h1
    have h2 := h1 q hq
    rw [ha] at h2
    exact absurd (by simpa using h2) h
theorem frQ_le (s : List (List Int)) (p : List Int) : baP.frQ s p ≤ s.length := List.countP_le_length
theorem cm_eq {s : List (List Int)} {l : List Int} {n : Nat} (hr : ∀ r ∈ s, r.length = n) (hl : l.length = n) (h5 : n ≤ 5) : s.countP (fun r => meet5 (at5 l) (at5 r)) = baP.frQ s l := by
  unfold baP.frQ
  exact List.countP_congr fun r h => by rw [meet5_mB (hl.trans (hr r h).symm) (by omega)]

set_option maxRecDepth 100000 in
set_option maxHeartbeats 8000000 in
theorem i_IsBalanced {m : List Int} {s : List (List Int)} {a a' : Option Addr} {c c' lo hi lo' hi' : Nat} {w : World} {t : Int} (hm : RI w lo hi a m) (hlm : m.length ≤ 9223372036854775807) (hs : RII w lo' hi' a' s) (hls : s.length ≤ 9223372036854775807) (hg : ∀ r ∈ s, r.length ≤ 9223372036854775807) (_ht0 : -9223372036854775808 ≤ t) (_ht1 : t ≤ 9223372036854775807) (hB : hi ≤ w.heap.size) (hB' : hi' ≤ w.heap.size) :
    Calls Try.prog 51 #[.slice a m.length c, .slice a' s.length c', .int .i64 t] w (NewV w (.bool (ibB m s t))) := by
  have HG := Lib.hid hg; clear hg
  cases hc : okC m s t
  · have HC := Lib.hid hc; clear hc
    go_enter Try.func51, Try.ntmps51
    go_wp2_with fail
    refine (i_canCover hm hlm hs hls HG.out).mono ?_
    rintro e w1 ⟨rfl, hd⟩
    rw [HC.out]
    go_wp2
    go_ret
    rw [ib_no HC.out]
    exact ⟨rfl, Dr.below hd _⟩
  have hp := okC_parts hc
  have HPSS := Lib.hid (patS_ps (t := t) hp.1)
  have HLN := Lib.hid (patS_len (head := []) hp.1 t)
  have HR := Lib.hid hp.2.2.2
  have hsl := hp.2.2.1
  have ht := hp.2.1
  have HOK := Lib.hid hp.1
  have hm5 := okM_len hp.1
  have HIB := Lib.hid (ib_yes hc)
  have HC := Lib.hid hc; clear hc hp
  have hmm := fun (wx : World) => run_makeMapF wx
  go_enter Try.func51, Try.ntmps51
  go_wp2_with fail
  refine (i_canCover hm hlm hs hls HG.out).mono ?_
  rintro e w1 ⟨rfl, hd⟩
  rw [HC.out]
  have hz1 := Dr.le hd
  have hm1 := hm.dr hd
  have hs1 := hs.dr hd
  have hbM := (Below.refl w1.heap.size w1).alloc (Nat.le_refl _) (.map #[] 0)
  go_wp2_with fail
  refine (i_patternsOf HOK.out (hm1.below hbM (by omega)) (by simp; omega) ht.1 ht.2).mono ?_
  rintro e w2 ⟨v2, rfl, h2, hb2⟩
  obtain ⟨ps, hps⟩ : ∃ ps, patS m [] t = ps := ⟨_, rfl⟩
  have HPS := Lib.hid hps
  rw [hps] at h2 HPSS HLN
  clear hps
  obtain ⟨a2, c2, rfl, hat⟩ := h2.at
  have HAT := Lib.hid hat
  obtain ⟨M, hM⟩ : ∃ M, ps.length = M := ⟨_, rfl⟩
  have HNN := Lib.hid hM
  have hMl : M ≤ 1024 := by have := HLN.out; omega
  have hsz2 := hb2.size
  have hst : Mf w2 w1.heap.size 0 m.length (ps.take 0) (baP.frQ s) := (Mf.made w1 m.length (baP.frQ s)).below hb2 (by simp)
  have hb12 := hbM.trans (hb2.mono (by simp))
  have hD := Dr.below hd w.heap.size
  have hrefl : w2.grownBy w2 (some w1.heap.size) := ⟨rfl, rfl, rfl, Nat.le_refl _, fun _ _ _ => rfl⟩
  have hsz2' : w1.heap.size < w2.heap.size := by simp at hsz2; omega
  simp only [World.size_alloc] at hat
  have HAT2 : Hid (∀ (k : Nat) (l : List Int), ps[k]? = some l → ∃ g, w1.heap.size < g ∧ g < w2.heap.size ∧ (∀ wx, (Instr.indexAt 105 (.slice a2 ps.length c2) (.int .i64 (k : Int))).run Try.prog wx = .ok (.pointer (some ⟨g, k * 5, none⟩)) wx) ∧ ∀ (j : Nat), j < 5 → w2.cell? ⟨g, k * 5 + j, none⟩ = some (.int .i64 (at5 l j))) := by
    intro k l hk
    obtain ⟨g, g1, g2, g3, g4⟩ := hat k l hk
    exact ⟨g, by omega, g2, g3, g4⟩
  rw [hM]
  clear hM hat h2 hb2 hbM hm hs hm1 hmm HAT
  go_wp2
  go_loopw [24] (fun i wr => ∃ k : Nat, k ≤ M ∧ i = .int .i64 k ∧ Mf wr w1.heap.size k m.length (ps.take k) (baP.frQ s) ∧ Below w1.heap.size w1 wr ∧ w2.grownBy wr (some w1.heap.size)) (fun i _ => M - (intOf i).toNat)
  case atStart => exact ⟨0, Nat.zero_le _, rfl, hst, hb12, hrefl⟩
  case round =>
    clear hst hb12 hrefl
    obtain ⟨k, hk, rfl, hmf, hBl, hgr⟩ := hrel
    have hszr := hgr.size
    by_cases hlt : k < M
    · obtain ⟨l, hx⟩ := at_of_lt (show k < ps.length by have := HNN.out; omega)
      obtain ⟨g, hg1, hg2, hidx, hcs⟩ := HAT2.out k l hx
      have HX := Lib.hid hx
      rw [HNN.out] at hidx
      have hc (j : Nat) (hj : j < 5) : wr.cell? ⟨g, k * 5 + j, none⟩ = some (.int .i64 (at5 l j)) := (World.cell?_of_block (w := w2) (hgr.block g hg2 (by intro e; cases e; omega))).trans (hcs j hj)
      have hc0 := hc 0 (by omega)
      have hc1 := hc 1 (by omega)
      have hc2 := hc 2 (by omega)
      have hc3' := hc 3 (by omega)
      have hc4 := hc 4 (by omega)
      simp only [Nat.add_zero] at hc0
      have hmem := List.mem_of_getElem? HX.out
      have hll := HPSS.out.len l hmem
      have hcm := cm_eq HR.out hll hm5.2
      have HCM := Lib.hid hcm
      have hfl := frQ_le s l
      obtain ⟨f, hf⟩ : ∃ f, baP.frQ s = f := ⟨_, rfl⟩
      have HF := Lib.hid hf
      rw [hf] at hmf HCM hfl
      clear hc hcs hx hcm hf
      have HSM := Lib.hid hmf.same
      have HLE := Lib.hid hmf.len
      have hsr := hs1.below hBl (by omega)
      have hA := heap_alloc_new wr (.cells #[.int .i64 (at5 l 0), .int .i64 (at5 l 1), .int .i64 (at5 l 2), .int .i64 (at5 l 3), .int .i64 (at5 l 4)] 97)
      have hbA := (Below.refl wr.heap.size wr).alloc (Nat.le_refl _) (.cells #[.int .i64 (at5 l 0), .int .i64 (at5 l 1), .int .i64 (at5 l 2), .int .i64 (at5 l 3), .int .i64 (at5 l 4)] 97)
      go_wp2_with fail
      refine (i_factors (at5 l) _).mono ?_
      rintro e w3 ⟨rfl, hb3⟩
      have hz3 := hb3.size
      simp only [World.size_alloc] at hz3
      have hb03 := hbA.trans (hb3.mono (by simp))
      have hA3 := (hb3.block wr.heap.size (by simp)).trans hA
      have hb4 := (Below.refl w3.heap.size w3).alloc (Nat.le_refl _) (.cells #[.bool (bF (at5 l) 0), .bool (bF (at5 l) 1), .bool (bF (at5 l) 2), .bool (bF (at5 l) 3), .bool (bF (at5 l) 4)] 120)
      have hA4 := (hb4.block wr.heap.size (by omega)).trans hA3
      have hS4 := heap_alloc_new w3 (.cells #[.bool (bF (at5 l) 0), .bool (bF (at5 l) 1), .bool (bF (at5 l) 2), .bool (bF (at5 l) 3), .bool (bF (at5 l) 4)] 120)
      have hb04 := hb03.trans (hb4.mono (by omega))
      obtain ⟨g0, g1, g2, g3, g4⟩ := cells5 hA4
      go_wp2_with fail
      refine (i_countMatches (at5 l) (hsr.below hb04 (by omega)) (by simp; omega) (by omega) (fun r hr => by have := HR.out r hr; omega)).mono ?_
      rintro e w5 ⟨rfl, hb5⟩
      have hz5 := hb5.size
      simp only [World.size_alloc] at hz5
      have hb05 := hb04.trans (hb5.mono (by simp; omega))
      have hS5 := (hb5.block w3.heap.size (by simp)).trans hS4
      have hmf5 := hmf.below hb05 (by omega)
      have f0 := cellb5 hS5 (k := 0) (by omega)
      have f1 := cellb5 hS5 (k := 1) (by omega)
      have f2 := cellb5 hS5 (k := 2) (by omega)
      have f3 := cellb5 hS5 (k := 3) (by omega)
      have f4 := cellb5 hS5 (k := 4) (by omega)
      rw [HCM.out]
      clear g0 g1 g2 g3 g4 hA hA3 hA4 hS4 hb3 hb4 hb03 hb04 hb5 hbA hc0 hc1 hc2 hc3' hc4 hmf hsr hidx
      obtain ⟨n, hn⟩ : ∃ n, f l = n := ⟨_, rfl⟩
      rw [hn] at hfl ⊢
      have HN := Lib.hid hn
      clear hn
      have hfin : ∀ w6, Mf w6 w1.heap.size (k + 1) m.length (ps.take k ++ [l]) f → Upd w1.heap.size (w1.heap.size + 1) w5 w6 → Mf w6 w1.heap.size (k + 1) m.length (ps.take (k + 1)) f ∧ Below w1.heap.size w1 w6 ∧ w2.grownBy w6 (some w1.heap.size) := by
        intro w6 h6 hU
        have hz6 := hU.size
        refine ⟨by rw [take_snoc HX.out]; exact h6, ?_, ?_⟩
        · exact (hBl.trans (hb05.mono (by omega))).trans ⟨hU.os, hU.tape, hU.output, hU.size, fun j hj => hU.block j (by omega) (.inl hj)⟩
        · exact ⟨hU.os.trans (hb05.os.trans hgr.os), hU.tape.trans (hb05.tape.trans hgr.tape), hU.output.trans (hb05.output.trans hgr.output), by omega, fun j hj hne => (hU.block j (by omega) (by have : j ≠ w1.heap.size := fun e => hne (by rw [e]); omega)).trans ((hb05.block j (by omega)).trans (hgr.block j hj hne))⟩
      have HFIN := Lib.hid hfin
      clear hfin
      cases hany : (ps.take k).any (alB l)
      · have HNO : Hid (∀ q ∈ ps.take k, alB l q = true → f q = f l) := by
          show ∀ q ∈ ps.take k, _
          intro q hq ha
          have := List.any_eq_false.1 hany q hq
          exact absurd ha (by simpa using this)
        have HANY := Lib.hid hany
        clear hany
        go_wp2_with (first
          | (at_lookup; refine wpList_lookF rfl _ _ rfl w1.heap.size k rfl hmf5 l hll rfl false HANY.out ?_; intro z _)
          | (at_mapUpdate; refine wpList_putF rfl _ _ _ rfl w1.heap.size k rfl hmf5 (by omega) l hll hm5.2 (by rw [HN.out]; omega) HNO.out rfl (by rw [HN.out]; rfl) ?_; intro w6 hmf6 hU6)
          | go_in)
        obtain ⟨r1, r2, r3⟩ := HFIN.out _ hmf6 hU6
        go_roundw
        case rel => exact ⟨k + 1, by omega, by go_num, by rw [HF.out]; exact r1, r2, r3⟩
        case measure => simp [intOf]; omega
      · obtain ⟨q, hq, hal⟩ := List.any_eq_true.1 hany
        have HNO : Hid (f q = f l → ∀ q ∈ ps.take k, alB l q = true → f q = f l) := by
          show _ → ∀ q ∈ ps.take k, _
          intro h0 q' hq' ha
          have h1 := HLE.out q hq
          have h2 := HLE.out q' hq'
          rw [← h0]
          exact HSM.out q' hq' q hq (alB_trans (h2.trans hll.symm) (hll.trans h1.symm) (alB_symm (hll.trans h2.symm) ha) hal)
        clear hany
        by_cases hqn : f q = n
        · have HNO2 := Lib.hid (HNO.out (hqn.trans HN.out.symm))
          have hneq : ((n : Int) != (n : Int)) = false := bne_self_eq_false _
          have HQN := Lib.hid hqn
          clear hqn
          go_wp2_with (first
            | (at_lookup; refine wpList_lookF1 rfl _ _ rfl w1.heap.size k rfl hmf5 l hll rfl q hq hal n HQN.out ?_)
            | (at_mapUpdate; refine wpList_putF rfl _ _ _ rfl w1.heap.size k rfl hmf5 (by omega) l hll hm5.2 (by rw [HN.out]; omega) HNO2.out rfl (by rw [HN.out]; rfl) ?_; intro w6 hmf6 hU6)
            | go_in)
          obtain ⟨r1, r2, r3⟩ := HFIN.out _ hmf6 hU6
          go_roundw
          case rel => exact ⟨k + 1, by omega, by go_num, by rw [HF.out]; exact r1, r2, r3⟩
          case measure => simp [intOf]; omega
        · obtain ⟨n0, hn0⟩ : ∃ n0, f q = n0 := ⟨_, rfl⟩
          have HQ0 := Lib.hid hn0
          rw [hn0] at hqn
          have hneq : ((n0 : Int) != (n : Int)) = true := by rw [bne_iff_ne]; intro e; exact hqn (by exact_mod_cast e)
          have HBF : Hid (ibB m s t = false) := by
            show _ = _
            rw [HIB.out]
            refine ba_false HPS.out hmem (List.mem_of_mem_take hq) hal ?_
            rw [HF.out, HN.out, HQ0.out]
            exact fun e => hqn e.symm
          have hBf := hD.trans ((hBl.trans (hb05.mono (by omega))).mono hz1.2)
          clear hn0 hqn
          go_wp2_with (first
            | (at_lookup; refine wpList_lookF1 rfl _ _ rfl w1.heap.size k rfl hmf5 l hll rfl q hq hal n0 HQ0.out ?_)
            | go_in)
          go_ret
          exact ⟨by rw [HBF.out]; rfl, hBf⟩
    · have hkM : ps.take k = ps := List.take_of_length_le (by have := HNN.out; omega)
      rw [hkM] at hmf
      have HBT : Hid (ibB m s t = true) := by
        show _ = _
        rw [HIB.out]
        exact ba_true HPS.out hmf.same
      have hBf := hD.trans (hBl.mono hz1.2)
      clear hkM
      go_wp2
      go_ret
      exact ⟨by rw [HBT.out]; rfl, hBf⟩

/- Walks: IsBalanced of the specification. -/
open Go.RowKit

set_option maxRecDepth 100000 in
set_option maxHeartbeats 4000000 in
theorem s_alike {p q : List Int} {a a' : Option Addr} {c c' lo hi lo' hi' : Nat} {w : World} (hp : RI w lo hi a p) (hq : RI w lo' hi' a' q) (hl : p.length = q.length) (h5 : p.length ≤ 1048576) :
    Calls Try.prog 165 #[.slice a p.length c, .slice a' q.length c'] w (RO w (.bool (alB p q))) := by
  have HL := Lib.hid hl
  obtain ⟨M, hM⟩ : ∃ M, p.length = M := ⟨_, rfl⟩
  have HM := Lib.hid hM
  have hqM : q.length = M := by omega
  have HQ := Lib.hid hqM
  rw [hM, hqM]
  rw [hM] at h5
  clear hM hqM hl
  go_enter Try.func165, Try.ntmps165
  go_wp2
  go_loopw [5] (fun i wr => ∃ k : Nat, k ≤ M ∧ i = .int .i64 k ∧ Hid (∀ j, j < k → (at5 p j == -1) = (at5 q j == -1)) ∧ Dr w wr) (fun i _ => M - (intOf i).toNat)
  case atStart => exact ⟨0, Nat.zero_le _, rfl, fun j hj => absurd hj (by omega), Dr.refl _⟩
  case round =>
    obtain ⟨k, hk, rfl, hI, hd⟩ := hrel
    by_cases hlt : k < M
    · obtain ⟨b, o, x, ha, _, _, hc, hx⟩ := (hp.dr hd).at (show k < p.length by have := HM.out; omega)
      obtain ⟨b2, o2, y, ha2, _, _, hc2, hy⟩ := (hq.dr hd).at (show k < q.length by have := HQ.out; omega)
      have hidx := idxI ha hlt c
      have hidx2 := idxI ha2 hlt c'
      have e1 := at5_of hx.out
      have e2 := at5_of hy.out
      have HST : Hid ((x == -1) = (y == -1) → ∀ j, j < k + 1 → (at5 p j == -1) = (at5 q j == -1)) := by
        show _ → ∀ j, _
        intro h j hj
        by_cases hjk : j = k
        · rw [hjk, e1, e2]; exact h
        · exact hI.out j (by omega)
      have HNO : Hid ((x == -1) ≠ (y == -1) → alB p q = false) := by
        show _ → _
        intro h
        cases hb : alB p q
        · rfl
        · have := (alB_iff HL.out).1 hb k
          rw [e1, e2] at this
          exact absurd this h
      clear ha ha2 hx hy e1 e2 hI
      cases hbx : (x == -1) <;> cases hby : (y == -1) <;> rw [hbx, hby] at HST HNO
      case false.false =>
        have HI2 := Lib.hid (HST.out rfl)
        clear HST HNO
        go_wp2_with fail
        go_quiet (fail)
        go_wp2
        go_roundw
        case rel => exact ⟨k + 1, by omega, by go_num, HI2, Dr.drewN hd _⟩
        case measure => simp [intOf]; omega
      case true.true =>
        have HI2 := Lib.hid (HST.out rfl)
        clear HST HNO
        go_wp2_with fail
        go_quiet (fail)
        go_wp2
        go_roundw
        case rel => exact ⟨k + 1, by omega, by go_num, HI2, Dr.drewN hd _⟩
        case measure => simp [intOf]; omega
      case true.false =>
        have HF := Lib.hid (HNO.out (by decide))
        clear HST HNO
        go_wp2_with fail
        go_quiet (fail)
        go_wp2
        go_ret
        rw [HF.out]
        exact Dr.boolD (b := false) (Dr.drewN hd _) rfl
      case false.true =>
        have HF := Lib.hid (HNO.out (by decide))
        clear HST HNO
        go_wp2_with fail
        go_quiet (fail)
        go_wp2
        go_ret
        rw [HF.out]
        exact Dr.boolD (b := false) (Dr.drewN hd _) rfl
    · have HT : Hid (alB p q = true) := by
        show _ = _
        rw [alB_iff HL.out]
        intro j
        by_cases hj : j < k
        · exact hI.out j hj
        · rw [at5_out (by have := HM.out; omega), at5_out (by have := HQ.out; omega)]
      go_wp2
      go_ret
      rw [HT.out]
      exact Dr.boolD (b := true) hd rfl

theorem ba_pairs {m : List Int} {s ps : List (List Int)} {t : Int} (hps : patS m [] t = ps) (hl : ∀ p ∈ ps, p.length = m.length) (h : ∀ x y p q, x < ps.length → y < x → ps[x]? = some p → ps[y]? = some q → alB p q = true → baP.frQ s p = baP.frQ s q) : baP m s t = true := by
  refine ba_true hps fun p hp q hq ha => ?_
  obtain ⟨x, hx⟩ := List.getElem?_of_mem hp
  obtain ⟨y, hy⟩ := List.getElem?_of_mem hq
  have hxl := (List.getElem?_eq_some_iff.1 hx).1
  have hyl := (List.getElem?_eq_some_iff.1 hy).1
  rcases Nat.lt_trichotomy x y with h1 | h1 | h1
  · exact (h y x q p hyl h1 hy hx (alB_symm ((hl p hp).trans (hl q hq).symm) ha)).symm
  · subst h1; rw [hx] at hy; cases hy; rfl
  · exact h x y p q hxl h1 hx hy ha

set_option maxRecDepth 100000 in
set_option maxHeartbeats 3000000 in
theorem s_IsBalanced {m : List Int} {s : List (List Int)} {a a' : Option Addr} {c c' lo hi lo' hi' : Nat} {w : World} {t : Int} (hm : RI w lo hi a m) (hlm : m.length ≤ 9223372036854775807) (hs : RII w lo' hi' a' s) (hls : s.length ≤ 9223372036854775807) (hg : ∀ r ∈ s, r.length ≤ 9223372036854775807) (_ht0 : -9223372036854775808 ≤ t) (_ht1 : t ≤ 9223372036854775807) (hB : hi ≤ w.heap.size) (hB' : hi' ≤ w.heap.size) :
    Calls Try.prog 52 #[.slice a m.length c, .slice a' s.length c', .int .i64 t] w (NewV w (.bool (ibB m s t))) := by
  have HG := Lib.hid hg; clear hg
  cases hc : okC m s t
  · have HC := Lib.hid hc; clear hc
    go_enter Try.func52, Try.ntmps52
    go_wp2_with fail
    refine (s_good hm hlm hs hls HG.out).mono ?_
    rintro e w1 ⟨rfl, hd⟩
    rw [HC.out]
    go_wp2
    go_ret
    rw [ib_no HC.out]
    exact ⟨rfl, Dr.below hd _⟩
  have hp := okC_parts hc
  have HLN := Lib.hid (patS_len (head := []) hp.1 t)
  have HR := Lib.hid hp.2.2.2
  have hsl := hp.2.2.1
  have ht := hp.2.1
  have HOK := Lib.hid hp.1
  have hm5 := okM_len hp.1
  have HIB := Lib.hid (ib_yes hc)
  have HC := Lib.hid hc; clear hc hp
  go_enter Try.func52, Try.ntmps52
  go_wp2_with fail
  refine (s_good hm hlm hs hls HG.out).mono ?_
  rintro e w1 ⟨rfl, hd⟩
  rw [HC.out]
  have hz1 := Dr.le hd
  have hm1 := hm.dr hd
  have hs1 := hs.dr hd
  have hbA := (Below.refl w1.heap.size w1).alloc (Nat.le_refl _) (.cells #[] 3)
  go_wp2_with fail
  refine (s_patterns HOK.out m.length [] a ⟨w1.heap.size, 0, none⟩ c 0 lo hi 0 0 _ t (by simp) (hm1.below hbA (by omega)) (by simp; omega) (RI.nil _ _ _ _) (by simp) (by omega) (by omega)).mono ?_
  rintro e w2 ⟨ad, cc, rfl, h2, hb2⟩
  obtain ⟨ps, hps⟩ : ∃ ps, patS m [] t = ps := ⟨_, rfl⟩
  have HPS := Lib.hid hps
  have HPL : Hid (∀ p ∈ ps, p.length = m.length) := by show ∀ p ∈ ps, _; rw [← hps]; exact fun p hp => patS_row p hp
  rw [hps] at h2 HLN
  rw [hps]
  clear hps
  have hsz2 := hb2.size
  simp only [World.size_alloc] at hsz2
  have hb12 := hbA.trans (hb2.mono (by simp))
  have hBf := (Dr.below hd w.heap.size).trans (hb12.mono hz1.2)
  have hs2 := hs1.below hb12 (by omega)
  have hr2 := h2.rii
  obtain ⟨M, hM⟩ : ∃ M, ps.length = M := ⟨_, rfl⟩
  have HNN := Lib.hid hM
  have hMl : M ≤ 1024 := by have := HLN.out; omega
  rw [hM]
  clear hM h2 hb2 hbA hb12 hm hs hm1 hs1 hd
  go_wp2
  go_loopw [8, 9] (fun i _ wr => ∃ k : Nat, k ≤ M ∧ i = .int .i64 k ∧ Hid (∀ x y p q, x < k → y < x → ps[x]? = some p → ps[y]? = some q → alB p q = true → baP.frQ s p = baP.frQ s q) ∧ Dr w2 wr) (fun i _ _ => M - (intOf i).toNat)
  case atStart => exact ⟨0, Nat.zero_le _, rfl, fun x _ _ _ hx => absurd hx (by omega), Dr.refl _⟩
  case round =>
    obtain ⟨k, hk, rfl, hI, hd⟩ := hrel
    by_cases hlt : k < M
    · obtain ⟨wo, hwo⟩ : ∃ wo, wo = wr := ⟨_, rfl⟩
      subst hwo
      go_wp2
      go_loopw [9] (fun j wr => ∃ y : Nat, y ≤ k ∧ j = .int .i64 y ∧ Hid (∀ y' p q, y' < y → ps[k]? = some p → ps[y']? = some q → alB p q = true → baP.frQ s p = baP.frQ s q) ∧ Dr wo wr) (fun j _ => k - (intOf j).toNat)
      case atStart => exact ⟨0, Nat.zero_le _, rfl, fun y' _ _ hy => absurd hy (by omega), Dr.refl _⟩
      case round =>
        obtain ⟨y, hy, rfl, hJ, hd2⟩ := hrel
        have D2 := Dr.trans hd hd2
        by_cases hyk : y < k
        · obtain ⟨b1, o1, a1, c1, p, ha1, _, _, hc1, hp1, hx1⟩ := (hr2.dr D2).at (show k < ps.length by have := HNN.out; omega)
          obtain ⟨b2, o2, a2, c2, q, ha2, _, _, hc2, hp2, hx2⟩ := (hr2.dr D2).at (show y < ps.length by have := HNN.out; omega)
          have hi1 := idxII ha1 hlt cc
          have hi2 := idxII ha2 (show y < M by omega) cc
          have hpl := HPL.out p (List.mem_of_getElem? hx1.out)
          have hql := HPL.out q (List.mem_of_getElem? hx2.out)
          have hss := hs2.dr D2
          have HAL := Lib.hid (fun nn => s_alike (c := c1) (c' := c2) (hp1.drewN nn) (hp2.drewN nn) (hpl.trans hql.symm) (by omega))
          have HH1 := Lib.hid (fun nn => s_howOften (c := c1) (c' := c') (hss.dr (w' := wr.drewN nn) ⟨nn, rfl⟩) (hp1.drewN nn) (by omega) (fun r hr => by have := HR.out r hr; omega))
          have HH2 := Lib.hid (fun nn => s_howOften (c := c2) (c' := c') (hss.dr (w' := wr.drewN nn) ⟨nn, rfl⟩) (hp2.drewN nn) (by omega) (fun r hr => by have := HR.out r hr; omega))
          have HJ2 : Hid ((alB p q = true → baP.frQ s p = baP.frQ s q) → ∀ y' p q, y' < y + 1 → ps[k]? = some p → ps[y']? = some q → alB p q = true → baP.frQ s p = baP.frQ s q) := by
            show _ → ∀ y', _
            intro h y' p' q' hy' e1 e2 ha
            by_cases hyy : y' = y
            · subst hyy
              rw [hx1.out] at e1; rw [hx2.out] at e2
              cases e1; cases e2
              exact h ha
            · exact hJ.out y' p' q' (by omega) e1 e2 ha
          cases hal : alB p q
          · have HJ3 := Lib.hid (HJ2.out (by rw [hal]; intro h; cases h))
            rw [hal] at HAL
            clear HJ2 HH1 HH2 hss hp1 hp2 ha1 ha2 hpl hql hx1 hx2 hJ
            go_wp2_with fail
            go_quiet (exact Calls.quiet_of (HAL.out _))
            go_wp2
            go_roundw
            case rel => exact ⟨y + 1, by omega, by go_num, HJ3, Dr.drewN hd2 _⟩
            case measure => simp [intOf]; omega
          · rw [hal] at HAL
            change Hid (∀ nn, Calls _ _ _ _ (RO _ (.int .i64 (baP.frQ s p : Nat)))) at HH1
            change Hid (∀ nn, Calls _ _ _ _ (RO _ (.int .i64 (baP.frQ s q : Nat)))) at HH2
            by_cases hne : baP.frQ s p = baP.frQ s q
            · have HJ3 := Lib.hid (HJ2.out (fun _ => hne))
              rw [hne] at HH1
              obtain ⟨n, hn⟩ : ∃ n, baP.frQ s q = n := ⟨_, rfl⟩
              rw [hn] at HH1 HH2
              have hneq : ((n : Int) != (n : Int)) = false := bne_self_eq_false _
              clear HJ2 hss hp1 hp2 ha1 ha2 hx1 hx2 hJ hne hn hal hpl hql
              go_wp2_with fail
              go_quiet (first | (go_at_call 165; exact Calls.quiet_of (HAL.out _)) | (go_at_call 166; with_reducible exact Calls.quiet_of (HH1.out _)) | (go_at_call 166; with_reducible exact Calls.quiet_of (HH2.out _)))
              go_wp2
              go_roundw
              case rel => exact ⟨y + 1, by omega, by go_num, HJ3, Dr.drewN hd2 _⟩
              case measure => simp [intOf]; omega
            · have HBF : Hid (ibB m s t = false) := by
                show _ = _
                rw [HIB.out]
                exact ba_false HPS.out (List.mem_of_getElem? hx1.out) (List.mem_of_getElem? hx2.out) hal hne
              obtain ⟨n, hn⟩ : ∃ n, baP.frQ s q = n := ⟨_, rfl⟩
              obtain ⟨n1, hn1⟩ : ∃ n1, baP.frQ s p = n1 := ⟨_, rfl⟩
              rw [hn] at HH2
              rw [hn1] at HH1
              rw [hn, hn1] at hne
              have hneq : ((n1 : Int) != (n : Int)) = true := by rw [bne_iff_ne]; intro e; exact hne (by exact_mod_cast e)
              clear HJ2 hss hp1 hp2 ha1 ha2 hx1 hx2 hJ hne hn hn1 hal hpl hql
              go_wp2_with fail
              go_quiet (first | (go_at_call 165; exact Calls.quiet_of (HAL.out _)) | (go_at_call 166; with_reducible exact Calls.quiet_of (HH1.out _)) | (go_at_call 166; with_reducible exact Calls.quiet_of (HH2.out _)))
              go_wp2
              go_ret
              exact ⟨by rw [HBF.out]; rfl, hBf.trans (Dr.below (Dr.drewN D2 _) _)⟩
        · have hyk2 : y = k := by omega
          have HI2 : Hid (∀ x y p q, x < k + 1 → y < x → ps[x]? = some p → ps[y]? = some q → alB p q = true → baP.frQ s p = baP.frQ s q) := by
            show ∀ x y' p q, _
            intro x y' p q hx hy' e1 e2 ha
            by_cases hxk : x = k
            · subst hxk; exact hJ.out y' p q (by omega) e1 e2 ha
            · exact hI.out x y' p q (by omega) hy' e1 e2 ha
          clear hI hJ hyk2
          go_wp2
          go_roundw
          case rel => exact ⟨k + 1, by omega, by go_num, HI2, D2⟩
          case measure => simp [intOf]; omega
    · have HBT : Hid (ibB m s t = true) := by
        show _ = _
        rw [HIB.out]
        exact ba_pairs HPS.out HPL.out fun x y p q hx => hI.out x y p q (by have := HNN.out; omega)
      go_wp2
      go_ret
      exact ⟨by rw [HBT.out]; rfl, hBf.trans (Dr.below hd _)⟩

end Go.Proofs.Ytehoagbpgahopaa
