/- Walks: IsBalanced, of both sides. -/
import Derived.Test.YtehoagbpgahopaaNp
import Derived.Test.YtehoagbpgahopaaYa
namespace Go.Proofs.Ytehoagbpgahopaa
open Go.RowKit

theorem run_makeMapF (wx : World) : (Instr.makeMap 118 none).run Try.prog wx = .ok (.map (some wx.heap.size)) (wx.alloc (.map #[] 0)) := by
  simp [Instr.makeMap, Result.andThen]
theorem ib_no {m : List Int} {s : List (List Int)} {t : Int} (h : okC m s t = false) : ibB m s t = false := by unfold ibB; rw [h]; rfl
theorem ib_yes {m : List Int} {s : List (List Int)} {t : Int} (h : okC m s t = true) : ibB m s t = baP m s t := by unfold ibB; rw [h]; rfl
theorem ba_true {m : List Int} {s ps : List (List Int)} {t : Int} (hps : patS m [] t = ps) (h : ∀ p ∈ ps, ∀ q ∈ ps, alB p q = true → baP.frQ s p = baP.frQ s q) : baP m s t = true := by
  unfold baP
  rw [hps, List.all_eq_true]
  intro p hp
  rw [List.all_eq_true]
  intro q hq
  cases ha : alB p q
  · rfl
  · simpa using h p hp q hq ha
theorem ba_false {m : List Int} {s ps : List (List Int)} {t : Int} {p q : List Int} (hps : patS m [] t = ps) (hp : p ∈ ps) (hq : q ∈ ps) (ha : alB p q = true) (h : baP.frQ s p ≠ baP.frQ s q) : baP m s t = false := by
  cases hb : baP m s t
  · rfl
  · unfold baP at hb
    rw [hps, List.all_eq_true] at hb
    have h1 := hb p hp
    rw [List.all_eq_true] at h1
    have h2 := h1 q hq
    rw [ha] at h2
    exact absurd (by simpa using h2) h
theorem frQ_le (s : List (List Int)) (p : List Int) : baP.frQ s p ≤ s.length := List.countP_le_length
theorem cm_eq {s : List (List Int)} {l : List Int} {n : Nat} (hr : ∀ r ∈ s, r.length = n) (hl : l.length = n) (h5 : n ≤ 5) : s.countP (fun r => meet5 (at5 l) (at5 r)) = baP.frQ s l := by
  unfold baP.frQ
  exact List.countP_congr fun r h => by rw [meet5_mB (hl.trans (hr r h).symm) (by omega)]

set_option maxRecDepth 100000 in
set_option maxHeartbeats 8000000 in
theorem i_IsBalanced {m : List Int} {s : List (List Int)} {a a' : Option Addr} {c c' lo hi lo' hi' : Nat} {w : World} {t : Int} (hm : RI w lo hi a m) (hlm : m.length ≤ 9223372036854775807) (hs : RII w lo' hi' a' s) (hls : s.length ≤ 9223372036854775807) (hg : ∀ r ∈ s, r.length ≤ 9223372036854775807) (_ht0 : -9223372036854775808 ≤ t) (_ht1 : t ≤ 9223372036854775807) (hB : hi ≤ w.heap.size) (hB' : hi' ≤ w.heap.size) :
    Calls Try.prog 51 #[.slice a m.length c, .slice a' s.length c', .int .i64 t] w (NewV w (.bool (ibB m s t))) := by
  have HG := Lib.hid hg; clear hg
  cases hc : okC m s t
  · have HC := Lib.hid hc; clear hc
    go_enter Try.func51, Try.ntmps51
    go_wp2_with fail
    refine (i_canCover hm hlm hs hls HG.out).mono ?_
    rintro e w1 ⟨rfl, hd⟩
    rw [HC.out]
    go_wp2
    go_ret
    rw [ib_no HC.out]
    exact ⟨rfl, Dr.below hd _⟩
  have hp := okC_parts hc
  have HPSS := Lib.hid (patS_ps (t := t) hp.1)
  have HLN := Lib.hid (patS_len (head := []) hp.1 t)
  have HR := Lib.hid hp.2.2.2
  have hsl := hp.2.2.1
  have ht := hp.2.1
  have HOK := Lib.hid hp.1
  have hm5 := okM_len hp.1
  have HIB := Lib.hid (ib_yes hc)
  have HC := Lib.hid hc; clear hc hp
  have hmm := fun (wx : World) => run_makeMapF wx
  go_enter Try.func51, Try.ntmps51
  go_wp2_with fail
  refine (i_canCover hm hlm hs hls HG.out).mono ?_
  rintro e w1 ⟨rfl, hd⟩
  rw [HC.out]
  have hz1 := Dr.le hd
  have hm1 := hm.dr hd
  have hs1 := hs.dr hd
  have hbM := (Below.refl w1.heap.size w1).alloc (Nat.le_refl _) (.map #[] 0)
  go_wp2_with fail
  refine (i_patternsOf HOK.out (hm1.below hbM (by omega)) (by simp; omega) ht.1 ht.2).mono ?_
  rintro e w2 ⟨v2, rfl, h2, hb2⟩
  obtain ⟨ps, hps⟩ : ∃ ps, patS m [] t = ps := ⟨_, rfl⟩
  have HPS := Lib.hid hps
  rw [hps] at h2 HPSS HLN
  clear hps
  obtain ⟨a2, c2, rfl, hat⟩ := h2.at
  have HAT := Lib.hid hat
  obtain ⟨M, hM⟩ : ∃ M, ps.length = M := ⟨_, rfl⟩
  have HNN := Lib.hid hM
  have hMl : M ≤ 1024 := by have := HLN.out; omega
  have hsz2 := hb2.size
  have hst : Mf w2 w1.heap.size 0 m.length (ps.take 0) (baP.frQ s) := (Mf.made w1 m.length (baP.frQ s)).below hb2 (by simp)
  have hb12 := hbM.trans (hb2.mono (by simp))
  have hD := Dr.below hd w.heap.size
  have hrefl : w2.grownBy w2 (some w1.heap.size) := ⟨rfl, rfl, rfl, Nat.le_refl _, fun _ _ _ => rfl⟩
  have hsz2' : w1.heap.size < w2.heap.size := by simp at hsz2; omega
  simp only [World.size_alloc] at hat
  have HAT2 : Hid (∀ (k : Nat) (l : List Int), ps[k]? = some l → ∃ g, w1.heap.size < g ∧ g < w2.heap.size ∧ (∀ wx, (Instr.indexAt 105 (.slice a2 ps.length c2) (.int .i64 (k : Int))).run Try.prog wx = .ok (.pointer (some ⟨g, k * 5, none⟩)) wx) ∧ ∀ (j : Nat), j < 5 → w2.cell? ⟨g, k * 5 + j, none⟩ = some (.int .i64 (at5 l j))) := by
    intro k l hk
    obtain ⟨g, g1, g2, g3, g4⟩ := hat k l hk
    exact ⟨g, by omega, g2, g3, g4⟩
  rw [hM]
  clear hM hat h2 hb2 hbM hm hs hm1 hmm HAT
  go_wp2
  go_loopw [24] (fun i wr => ∃ k : Nat, k ≤ M ∧ i = .int .i64 k ∧ Mf wr w1.heap.size k m.length (ps.take k) (baP.frQ s) ∧ Below w1.heap.size w1 wr ∧ w2.grownBy wr (some w1.heap.size)) (fun i _ => M - (intOf i).toNat)
  case atStart => exact ⟨0, Nat.zero_le _, rfl, hst, hb12, hrefl⟩
  case round =>
    clear hst hb12 hrefl
    obtain ⟨k, hk, rfl, hmf, hBl, hgr⟩ := hrel
    have hszr := hgr.size
    by_cases hlt : k < M
    · obtain ⟨l, hx⟩ := at_of_lt (show k < ps.length by have := HNN.out; omega)
      obtain ⟨g, hg1, hg2, hidx, hcs⟩ := HAT2.out k l hx
      have HX := Lib.hid hx
      rw [HNN.out] at hidx
      have hc (j : Nat) (hj : j < 5) : wr.cell? ⟨g, k * 5 + j, none⟩ = some (.int .i64 (at5 l j)) := (World.cell?_of_block (w := w2) (hgr.block g hg2 (by intro e; cases e; omega))).trans (hcs j hj)
      have hc0 := hc 0 (by omega)
      have hc1 := hc 1 (by omega)
      have hc2 := hc 2 (by omega)
      have hc3' := hc 3 (by omega)
      have hc4 := hc 4 (by omega)
      simp only [Nat.add_zero] at hc0
      have hmem := List.mem_of_getElem? HX.out
      have hll := HPSS.out.len l hmem
      have hcm := cm_eq HR.out hll hm5.2
      have HCM := Lib.hid hcm
      have hfl := frQ_le s l
      obtain ⟨f, hf⟩ : ∃ f, baP.frQ s = f := ⟨_, rfl⟩
      have HF := Lib.hid hf
      rw [hf] at hmf HCM hfl
      clear hc hcs hx hcm hf
      have HSM := Lib.hid hmf.same
      have HLE := Lib.hid hmf.len
      have hsr := hs1.below hBl (by omega)
      have hA := heap_alloc_new wr (.cells #[.int .i64 (at5 l 0), .int .i64 (at5 l 1), .int .i64 (at5 l 2), .int .i64 (at5 l 3), .int .i64 (at5 l 4)] 97)
      have hbA := (Below.refl wr.heap.size wr).alloc (Nat.le_refl _) (.cells #[.int .i64 (at5 l 0), .int .i64 (at5 l 1), .int .i64 (at5 l 2), .int .i64 (at5 l 3), .int .i64 (at5 l 4)] 97)
      go_wp2_with fail
      refine (i_factors (at5 l) _).mono ?_
      rintro e w3 ⟨rfl, hb3⟩
      have hz3 := hb3.size
      simp only [World.size_alloc] at hz3
      have hb03 := hbA.trans (hb3.mono (by simp))
      have hA3 := (hb3.block wr.heap.size (by simp)).trans hA
      have hb4 := (Below.refl w3.heap.size w3).alloc (Nat.le_refl _) (.cells #[.bool (bF (at5 l) 0), .bool (bF (at5 l) 1), .bool (bF (at5 l) 2), .bool (bF (at5 l) 3), .bool (bF (at5 l) 4)] 120)
      have hA4 := (hb4.block wr.heap.size (by omega)).trans hA3
      have hS4 := heap_alloc_new w3 (.cells #[.bool (bF (at5 l) 0), .bool (bF (at5 l) 1), .bool (bF (at5 l) 2), .bool (bF (at5 l) 3), .bool (bF (at5 l) 4)] 120)
      have hb04 := hb03.trans (hb4.mono (by omega))
      obtain ⟨g0, g1, g2, g3, g4⟩ := cells5 hA4
      go_wp2_with fail
      refine (i_countMatches (at5 l) (hsr.below hb04 (by omega)) (by simp; omega) (by omega) (fun r hr => by have := HR.out r hr; omega)).mono ?_
      rintro e w5 ⟨rfl, hb5⟩
      have hz5 := hb5.size
      simp only [World.size_alloc] at hz5
      have hb05 := hb04.trans (hb5.mono (by simp; omega))
      have hS5 := (hb5.block w3.heap.size (by simp)).trans hS4
      have hmf5 := hmf.below hb05 (by omega)
      have f0 := cellb5 hS5 (k := 0) (by omega)
      have f1 := cellb5 hS5 (k := 1) (by omega)
      have f2 := cellb5 hS5 (k := 2) (by omega)
      have f3 := cellb5 hS5 (k := 3) (by omega)
      have f4 := cellb5 hS5 (k := 4) (by omega)
      rw [HCM.out]
      clear g0 g1 g2 g3 g4 hA hA3 hA4 hS4 hb3 hb4 hb03 hb04 hb5 hbA hc0 hc1 hc2 hc3' hc4 hmf hsr hidx
      obtain ⟨n, hn⟩ : ∃ n, f l = n := ⟨_, rfl⟩
      rw [hn] at hfl ⊢
      have HN := Lib.hid hn
      clear hn
      have hfin : ∀ w6, Mf w6 w1.heap.size (k + 1) m.length (ps.take k ++ [l]) f → Upd w1.heap.size (w1.heap.size + 1) w5 w6 → Mf w6 w1.heap.size (k + 1) m.length (ps.take (k + 1)) f ∧ Below w1.heap.size w1 w6 ∧ w2.grownBy w6 (some w1.heap.size) := by
        intro w6 h6 hU
        have hz6 := hU.size
        refine ⟨by rw [take_snoc HX.out]; exact h6, ?_, ?_⟩
        · exact (hBl.trans (hb05.mono (by omega))).trans ⟨hU.os, hU.tape, hU.output, hU.size, fun j hj => hU.block j (by omega) (.inl hj)⟩
        · exact ⟨hU.os.trans (hb05.os.trans hgr.os), hU.tape.trans (hb05.tape.trans hgr.tape), hU.output.trans (hb05.output.trans hgr.output), by omega, fun j hj hne => (hU.block j (by omega) (by have : j ≠ w1.heap.size := fun e => hne (by rw [e]); omega)).trans ((hb05.block j (by omega)).trans (hgr.block j hj hne))⟩
      have HFIN := Lib.hid hfin
      clear hfin
      cases hany : (ps.take k).any (alB l)
      · have HNO : Hid (∀ q ∈ ps.take k, alB l q = true → f q = f l) := by
          show ∀ q ∈ ps.take k, _
          intro q hq ha
          have := List.any_eq_false.1 hany q hq
          exact absurd ha (by simpa using this)
        have HANY := Lib.hid hany
        clear hany
        go_wp2_with (first
          | (at_lookup; refine wpList_lookF rfl _ _ rfl w1.heap.size k rfl hmf5 l hll rfl false HANY.out ?_; intro z _)
          | (at_mapUpdate; refine wpList_putF rfl _ _ _ rfl w1.heap.size k rfl hmf5 (by omega) l hll hm5.2 (by rw [HN.out]; omega) HNO.out rfl (by rw [HN.out]; rfl) ?_; intro w6 hmf6 hU6)
          | go_in)
        obtain ⟨r1, r2, r3⟩ := HFIN.out _ hmf6 hU6
        go_roundw
        case rel => exact ⟨k + 1, by omega, by go_num, by rw [HF.out]; exact r1, r2, r3⟩
        case measure => simp [intOf]; omega
      · obtain ⟨q, hq, hal⟩ := List.any_eq_true.1 hany
        have HNO : Hid (f q = f l → ∀ q ∈ ps.take k, alB l q = true → f q = f l) := by
          show _ → ∀ q ∈ ps.take k, _
          intro h0 q' hq' ha
          have h1 := HLE.out q hq
          have h2 := HLE.out q' hq'
          rw [← h0]
          exact HSM.out q' hq' q hq (alB_trans (h2.trans hll.symm) (hll.trans h1.symm) (alB_symm (hll.trans h2.symm) ha) hal)
        clear hany
        by_cases hqn : f q = n
        · have HNO2 := Lib.hid (HNO.out (hqn.trans HN.out.symm))
          have hneq : ((n : Int) != (n : Int)) = false := bne_self_eq_false _
          have HQN := Lib.hid hqn
          clear hqn
          go_wp2_with (first
            | (at_lookup; refine wpList_lookF1 rfl _ _ rfl w1.heap.size k rfl hmf5 l hll rfl q hq hal n HQN.out ?_)
            | (at_mapUpdate; refine wpList_putF rfl _ _ _ rfl w1.heap.size k rfl hmf5 (by omega) l hll hm5.2 (by rw [HN.out]; omega) HNO2.out rfl (by rw [HN.out]; rfl) ?_; intro w6 hmf6 hU6)
            | go_in)
          obtain ⟨r1, r2, r3⟩ := HFIN.out _ hmf6 hU6
          go_roundw
          case rel => exact ⟨k + 1, by omega, by go_num, by rw [HF.out]; exact r1, r2, r3⟩
          case measure => simp [intOf]; omega
        · obtain ⟨n0, hn0⟩ : ∃ n0, f q = n0 := ⟨_, rfl⟩
          have HQ0 := Lib.hid hn0
          rw [hn0] at hqn
          have hneq : ((n0 : Int) != (n : Int)) = true := by rw [bne_iff_ne]; intro e; exact hqn (by exact_mod_cast e)
          have HBF : Hid (ibB m s t = false) := by
            show _ = _
            rw [HIB.out]
            refine ba_false HPS.out hmem (List.mem_of_mem_take hq) hal ?_
            rw [HF.out, HN.out, HQ0.out]
            exact fun e => hqn e.symm
          have hBf := hD.trans ((hBl.trans (hb05.mono (by omega))).mono hz1.2)
          clear hn0 hqn
          go_wp2_with (first
            | (at_lookup; refine wpList_lookF1 rfl _ _ rfl w1.heap.size k rfl hmf5 l hll rfl q hq hal n0 HQ0.out ?_)
            | go_in)
          go_ret
          exact ⟨by rw [HBF.out]; rfl, hBf⟩
    · have hkM : ps.take k = ps := List.take_of_length_le (by have := HNN.out; omega)
      rw [hkM] at hmf
      have HBT : Hid (ibB m s t = true) := by
        show _ = _
        rw [HIB.out]
        exact ba_true HPS.out hmf.same
      have hBf := hD.trans (hBl.mono hz1.2)
      clear hkM
      go_wp2
      go_ret
      exact ⟨by rw [HBT.out]; rfl, hBf⟩

end Go.Proofs.Ytehoagbpgahopaa
