/- Walks: kept, possible patterns. -/
import Derived.Test.YtehoagbpgahopaaZk
import Derived.Test.YtehoagbpgahopaaYd
namespace Go.Proofs.Ytehoagbpgahopaa
open Go.RowKit

set_option maxRecDepth 100000 in
set_option maxHeartbeats 2000000 in
theorem i_keptPos {ps : List (List Int)} {v : Value} {B : Nat} {w0 w : World} (rec : Value) (q : List Int → Bool) (ho : OwnP w0 B v ps) (hb0 : Below w0.heap.size w0 w) (hl : ps.length ≤ 1048576)
    (hcl : ∀ l ∈ ps, ∀ w', Below w.heap.size w w' → Calls Try.prog 132 #[rec, .agg #[.int .i64 (at5 l 0), .int .i64 (at5 l 1), .int .i64 (at5 l 2), .int .i64 (at5 l 3), .int .i64 (at5 l 4)]] w' (NewV w' (.bool (q l)))) :
    Calls Try.prog 192 #[v, .func (.func 132) #[rec] #[]] w (NewP w (ps.filter q)) := by
  obtain ⟨a, c, rfl, hat⟩ := ho.at
  have HAT := Lib.hid hat
  have HCL := Lib.hid hcl
  obtain ⟨M, hM⟩ : ∃ M, ps.length = M := ⟨_, rfl⟩
  have HNN := Lib.hid hM
  have hMl : M ≤ 1048576 := by omega
  have hs0 := hb0.size
  rw [hM]
  clear hat ho hM hl hcl
  go_enter Try.func192, Try.ntmps192
  go_wp2
  go_loopw [5, 10] (fun v i wr => ∃ k : Nat, k ≤ M ∧ i = .int .i64 k ∧ OwnP wr w.heap.size v ((ps.take k).filter q) ∧ Below w.heap.size w wr) (fun _ i _ => M - (intOf i).toNat)
  case atStart => exact ⟨0, Nat.zero_le _, rfl, OwnP.nil _ _, Below.refl _ _⟩
  case round =>
    obtain ⟨k, hk, rfl, hown, hB3⟩ := hrel
    have hz3 := hB3.size
    by_cases hlt : k < M
    · obtain ⟨l, hx⟩ := at_of_lt (show k < ps.length by have := HNN.out; omega)
      obtain ⟨g, hg1, hg2, hidx, hcs⟩ := HAT.out k l hx
      have HX := Lib.hid hx
      rw [HNN.out] at hidx
      have hBl3 : Below w0.heap.size w0 wr := hb0.trans (hB3.mono (by omega))
      have hc (j : Nat) (hj : j < 5) : wr.cell? ⟨g, k * 5 + j, none⟩ = some (.int .i64 (at5 l j)) := (hBl3.cell (p := ⟨g, k * 5 + j, none⟩) hg2).trans (hcs j hj)
      have hc0 := hc 0 (by omega)
      have hc1 := hc 1 (by omega)
      have hc2 := hc 2 (by omega)
      have hc3' := hc 3 (by omega)
      have hc4 := hc 4 (by omega)
      simp only [Nat.add_zero] at hc0
      clear hc hcs
      have hbA := (Below.refl wr.heap.size wr).alloc (Nat.le_refl _) (.cells #[.int .i64 (at5 l 0), .int .i64 (at5 l 1), .int .i64 (at5 l 2), .int .i64 (at5 l 3), .int .i64 (at5 l 4)] 97)
      have hml := flt_len q ps k
      have hln := HNN.out
      have hownA : OwnP (wr.alloc (.cells #[.int .i64 (at5 l 0), .int .i64 (at5 l 1), .int .i64 (at5 l 2), .int .i64 (at5 l 3), .int .i64 (at5 l 4)] 97)) w.heap.size _ ((ps.take k).filter q) := hown.kept fun j hj _ => hbA.block j hj
      have hlt' := hown.lt
      have hcall := Lib.hid (HCL.out l (List.mem_of_getElem? hx) (wr.alloc (.cells #[.int .i64 (at5 l 0), .int .i64 (at5 l 1), .int .i64 (at5 l 2), .int .i64 (at5 l 3), .int .i64 (at5 l 4)] 97)) (hB3.trans (hbA.mono (by omega))))
      clear hx
      cases hm : q l
      · have HM := Lib.hid hm
        have HU := Lib.hid (flt_skip (f := q) HX.out hm)
        clear hm
        go_wp2_with fail
        refine hcall.out.mono ?_
        rintro e w2 ⟨rfl, hb2⟩
        rw [HM.out]
        have hown2 : OwnP w2 w.heap.size _ ((ps.take k).filter q) := hownA.kept fun j hj _ => hb2.block j hj
        have hb02 := hbA.trans (hb2.mono (by simp))
        rw [← HU.out] at hown2
        have hB5 : Below w.heap.size w w2 := hB3.trans (hb02.mono (by omega))
        clear hownA hown hc0 hc1 hc2 hc3' hc4 hbA hb2 hlt' hb02 hB3
        go_wp2
        go_roundw
        case rel => exact ⟨k + 1, by omega, by go_num, hown2, hB5⟩
        case measure => simp [intOf]; omega
      · have HM := Lib.hid hm
        have HU := Lib.hid (flt_step (f := q) HX.out hm)
        clear hm
        go_wp2_with fail
        refine hcall.out.mono ?_
        rintro e w2 ⟨rfl, hb2⟩
        rw [HM.out]
        have hown2 : OwnP w2 w.heap.size _ ((ps.take k).filter q) := hownA.kept fun j hj _ => hb2.block j hj
        have hb02 := hbA.trans (hb2.mono (by simp))
        have hs2 := hb02.size
        obtain ⟨e0, e1, e2, e3, e4⟩ := cells5 ((hb2.block wr.heap.size (by simp)).trans (heap_alloc_new wr (.cells #[.int .i64 (at5 l 0), .int .i64 (at5 l 1), .int .i64 (at5 l 2), .int .i64 (at5 l 3), .int .i64 (at5 l 4)] 97)))
        clear hownA hown hc0 hc1 hc2 hc3' hc4 hbA hb2
        go_wp2_with (first
          | (at_builtin; refine wpList_appP rfl _ _ rfl w.heap.size _ ((ps.take k).filter q) rfl hown2 l _ rfl rfl (by omega) (by omega) ?_; intro v5 w5 hown5 hg5)
          | go_in)
        rw [← HU.out] at hown5
        have hB5 : Below w.heap.size w w5 := (hB3.trans (hb02.mono (by omega))).trans (hg5.below (fun g hg => (hlt' g hg).1) (by omega))
        clear hg5 hlt' hown2 hb02 hB3
        go_roundw
        case rel => exact ⟨k + 1, by omega, by go_num, hown5, hB5⟩
        case measure => simp [intOf]; omega
    · have HKE : Hid (ps.take k = ps) := List.take_of_length_le (by have := HNN.out; omega)
      go_wp2
      go_ret
      rw [HKE.out] at hown
      exact ⟨_, rfl, hown, hB3⟩


set_option maxRecDepth 100000 in
set_option maxHeartbeats 2000000 in
theorem i_keptLst {ps : List (List Int)} {v : Value} {B : Nat} {w0 w : World} (rec : Value) (q : List Int → Bool) (ho : OwnP w0 B v ps) (hb0 : Below w0.heap.size w0 w) (hl : ps.length ≤ 1048576)
    (hcl : ∀ l ∈ ps, ∀ w', Below w.heap.size w w' → Calls Try.prog 193 #[rec, .agg #[.int .i64 (at5 l 0), .int .i64 (at5 l 1), .int .i64 (at5 l 2), .int .i64 (at5 l 3), .int .i64 (at5 l 4)]] w' (NewV w' (.bool (q l)))) :
    Calls Try.prog 192 #[v, .func (.func 193) #[rec] #[]] w (NewP w (ps.filter q)) := by
  obtain ⟨a, c, rfl, hat⟩ := ho.at
  have HAT := Lib.hid hat
  have HCL := Lib.hid hcl
  obtain ⟨M, hM⟩ : ∃ M, ps.length = M := ⟨_, rfl⟩
  have HNN := Lib.hid hM
  have hMl : M ≤ 1048576 := by omega
  have hs0 := hb0.size
  rw [hM]
  clear hat ho hM hl hcl
  go_enter Try.func192, Try.ntmps192
  go_wp2
  go_loopw [5, 10] (fun v i wr => ∃ k : Nat, k ≤ M ∧ i = .int .i64 k ∧ OwnP wr w.heap.size v ((ps.take k).filter q) ∧ Below w.heap.size w wr) (fun _ i _ => M - (intOf i).toNat)
  case atStart => exact ⟨0, Nat.zero_le _, rfl, OwnP.nil _ _, Below.refl _ _⟩
  case round =>
    obtain ⟨k, hk, rfl, hown, hB3⟩ := hrel
    have hz3 := hB3.size
    by_cases hlt : k < M
    · obtain ⟨l, hx⟩ := at_of_lt (show k < ps.length by have := HNN.out; omega)
      obtain ⟨g, hg1, hg2, hidx, hcs⟩ := HAT.out k l hx
      have HX := Lib.hid hx
      rw [HNN.out] at hidx
      have hBl3 : Below w0.heap.size w0 wr := hb0.trans (hB3.mono (by omega))
      have hc (j : Nat) (hj : j < 5) : wr.cell? ⟨g, k * 5 + j, none⟩ = some (.int .i64 (at5 l j)) := (hBl3.cell (p := ⟨g, k * 5 + j, none⟩) hg2).trans (hcs j hj)
      have hc0 := hc 0 (by omega)
      have hc1 := hc 1 (by omega)
      have hc2 := hc 2 (by omega)
      have hc3' := hc 3 (by omega)
      have hc4 := hc 4 (by omega)
      simp only [Nat.add_zero] at hc0
      clear hc hcs
      have hbA := (Below.refl wr.heap.size wr).alloc (Nat.le_refl _) (.cells #[.int .i64 (at5 l 0), .int .i64 (at5 l 1), .int .i64 (at5 l 2), .int .i64 (at5 l 3), .int .i64 (at5 l 4)] 97)
      have hml := flt_len q ps k
      have hln := HNN.out
      have hownA : OwnP (wr.alloc (.cells #[.int .i64 (at5 l 0), .int .i64 (at5 l 1), .int .i64 (at5 l 2), .int .i64 (at5 l 3), .int .i64 (at5 l 4)] 97)) w.heap.size _ ((ps.take k).filter q) := hown.kept fun j hj _ => hbA.block j hj
      have hlt' := hown.lt
      have hcall := Lib.hid (HCL.out l (List.mem_of_getElem? hx) (wr.alloc (.cells #[.int .i64 (at5 l 0), .int .i64 (at5 l 1), .int .i64 (at5 l 2), .int .i64 (at5 l 3), .int .i64 (at5 l 4)] 97)) (hB3.trans (hbA.mono (by omega))))
      clear hx
      cases hm : q l
      · have HM := Lib.hid hm
        have HU := Lib.hid (flt_skip (f := q) HX.out hm)
        clear hm
        go_wp2_with fail
        refine hcall.out.mono ?_
        rintro e w2 ⟨rfl, hb2⟩
        rw [HM.out]
        have hown2 : OwnP w2 w.heap.size _ ((ps.take k).filter q) := hownA.kept fun j hj _ => hb2.block j hj
        have hb02 := hbA.trans (hb2.mono (by simp))
        rw [← HU.out] at hown2
        have hB5 : Below w.heap.size w w2 := hB3.trans (hb02.mono (by omega))
        clear hownA hown hc0 hc1 hc2 hc3' hc4 hbA hb2 hlt' hb02 hB3
        go_wp2
        go_roundw
        case rel => exact ⟨k + 1, by omega, by go_num, hown2, hB5⟩
        case measure => simp [intOf]; omega
      · have HM := Lib.hid hm
        have HU := Lib.hid (flt_step (f := q) HX.out hm)
        clear hm
        go_wp2_with fail
        refine hcall.out.mono ?_
        rintro e w2 ⟨rfl, hb2⟩
        rw [HM.out]
        have hown2 : OwnP w2 w.heap.size _ ((ps.take k).filter q) := hownA.kept fun j hj _ => hb2.block j hj
        have hb02 := hbA.trans (hb2.mono (by simp))
        have hs2 := hb02.size
        obtain ⟨e0, e1, e2, e3, e4⟩ := cells5 ((hb2.block wr.heap.size (by simp)).trans (heap_alloc_new wr (.cells #[.int .i64 (at5 l 0), .int .i64 (at5 l 1), .int .i64 (at5 l 2), .int .i64 (at5 l 3), .int .i64 (at5 l 4)] 97)))
        clear hownA hown hc0 hc1 hc2 hc3' hc4 hbA hb2
        go_wp2_with (first
          | (at_builtin; refine wpList_appP rfl _ _ rfl w.heap.size _ ((ps.take k).filter q) rfl hown2 l _ rfl rfl (by omega) (by omega) ?_; intro v5 w5 hown5 hg5)
          | go_in)
        rw [← HU.out] at hown5
        have hB5 : Below w.heap.size w w5 := (hB3.trans (hb02.mono (by omega))).trans (hg5.below (fun g hg => (hlt' g hg).1) (by omega))
        clear hg5 hlt' hown2 hb02 hB3
        go_roundw
        case rel => exact ⟨k + 1, by omega, by go_num, hown5, hB5⟩
        case measure => simp [intOf]; omega
    · have HKE : Hid (ps.take k = ps) := List.take_of_length_le (by have := HNN.out; omega)
      go_wp2
      go_ret
      rw [HKE.out] at hown
      exact ⟨_, rfl, hown, hB3⟩


set_option maxRecDepth 100000 in
set_option maxHeartbeats 2000000 in
theorem s_possiblePatterns {m : List Int} {s : List (List Int)} {a a' : Option Addr} {c c' lo hi lo' hi' : Nat} {w : World} {t : Int} (hok : okM m = true) (hm : RI w lo hi a m) (hB : hi ≤ w.heap.size) (hs : RII w lo' hi' a' s) (hB' : hi' ≤ w.heap.size) (hsl : s.length ≤ 1048576) (hr : ∀ r ∈ s, r.length = m.length) (ht0 : 0 ≤ t) (ht1 : t ≤ m.length) :
    Calls Try.prog 143 #[.slice a m.length c, .slice a' s.length c', .int .i64 t] w (GotII w (posP m s t)) := by
  have hm5 := okM_len hok
  have HOK := Lib.hid hok; clear hok
  have HR := Lib.hid hr; clear hr
  have HRow := Lib.hid (patS_row (m := m) (t := t))
  have HLN := Lib.hid (patS_len (head := []) HOK.out t)
  have hbA := (Below.refl w.heap.size w).alloc (Nat.le_refl _) (.cells #[] 23)
  have hmA := hm.below hbA hB
  have hsA := hs.below hbA hB'
  have HAL := Lib.hid (alL_len2 (b := s) HOK.out)
  have HAR := Lib.hid (alL_row (m := m) (b := s))
  obtain ⟨AL, hAL⟩ : ∃ AL, alL m s = AL := ⟨_, rfl⟩
  have HAA := Lib.hid hAL
  go_enter Try.func143, Try.ntmps143
  go_wp2_with fail
  refine (s_allowedTests HOK.out hmA (by simp; omega) hsA (by simp; omega) hsl HR.out).mono ?_
  rintro e w0 ⟨a0, c0, rfl, h0, hb0⟩
  have hb00 : Below (w.heap.size + 1) (w.alloc (.cells #[] 23)) w0 := hb0.mono (by simp)
  have hs0 := hb0.size
  simp only [World.size_alloc] at hs0
  have hbW0 : Below w.heap.size w w0 := hbA.trans (hb00.mono (by omega))
  have hal := h0.rii
  rw [hAL] at hal HAL HAR ⊢
  have hall0 := HAL.out
  have hbB := (Below.refl w0.heap.size w0).alloc (Nat.le_refl _) (.cells #[] 3)
  have hm3 := (hm.below hbW0 hB).below hbB (by omega)
  clear h0 hb0 hAL hmA hsA
  go_wp2_with fail
  refine (s_patterns HOK.out m.length [] a ⟨w0.heap.size, 0, none⟩ c 0 lo hi 0 0 _ t (by simp) hm3 (by simp; omega) (RI.nil _ _ _ _) (by simp) (by omega) (by omega)).mono ?_
  rintro e w1 ⟨ad1, c1, rfl, h1, hb1⟩
  obtain ⟨ps, hps⟩ : ∃ ps, patS m [] t = ps := ⟨_, rfl⟩
  have HPS := Lib.hid hps
  rw [hps] at h1 HRow HLN ⊢
  clear hps
  have hb1a : Below w0.heap.size w0 w1 := hbB.trans (hb1.mono (by simp))
  have hb01 : Below w.heap.size w w1 := hbW0.trans (hb1a.mono (by omega))
  have hs1 := hb1.size
  simp only [World.size_alloc] at hs1
  have hall : RII w1 (w.heap.size + 1) w1.heap.size (some ad1) ps := by have := h1.rii; simp only [World.size_alloc] at this; exact this.wide (by omega) (Nat.le_refl _)
  have hst : OwnRR w1 w.heap.size (w.heap.size + 1) w1.heap.size (.slice (some ⟨w.heap.size, 0, none⟩) 0 0) [] := OwnRR.start (Nat.le_refl _) (by omega) (hb00.trans (hb1a.mono (by omega)))
  have hs2 : RII w1 (w.heap.size + 1) w1.heap.size a0 AL := (hal.below hb1a (Nat.le_refl _)).wide (by simp) (by have := hb1a.size; omega)
  have hpl := HLN.out
  clear h1 hb1 hbA hbB hm3 hm hs hal
  go_wp2
  go_loopw [7, 10] (fun v i wr => ∃ k : Nat, k ≤ ps.length ∧ i = .int .i64 k ∧ OwnRR wr w.heap.size (w.heap.size + 1) w1.heap.size v ((ps.take k).filter (hasP AL)) ∧ Kp w.heap.size (w.heap.size + 1) w1.heap.size w1 wr) (fun _ i _ => ps.length - (intOf i).toNat)
  case atStart => exact ⟨0, Nat.zero_le _, rfl, by simpa using hst, Kp.refl _ _ _ _⟩
  case round =>
    clear hst
    obtain ⟨k, hk, rfl, hown, hK⟩ := hrel
    have hsz := hK.size
    by_cases hlt : k < ps.length
    · obtain ⟨b, o, a2, c2, r, ha, _, hbh, hcell, hr1, hx, hcp⟩ := (hall.kp hK (Nat.le_refl _)).atc hlt
      have hidx := idxII ha hlt c1
      have HRL := Lib.hid (HRow.out r (List.mem_of_getElem? hx.out))
      have hs3 := hs2.kp hK (Nat.le_refl _)
      have hml := flt_len (hasP AL) ps k
      have H5 : Hid (∀ q ∈ AL, r.length ≤ q.length ∧ q.length ≤ 9223372036854775807) := by
        intro q hq
        have := HAR.out q hq
        have := HRL.out
        omega
      clear ha hall hs2
      cases hc : hasP AL r
      · have HC := Lib.hid hc; clear hc
        have HM := Lib.hid (flt_skip (f := hasP AL) hx.out HC.out)
        go_wp2_with fail
        refine (s_covers hs3 hr1 (by omega) H5.out).mono ?_
        rintro e w2 ⟨rfl, hd⟩
        rw [HC.out]
        have hown2 := hown.below (Dr.below hd _) (by omega)
        rw [← HM.out] at hown2
        have hK2 := hK.trans (Kp.ofBelow (Dr.below hd _))
        clear hK hown
        go_wp2
        go_roundw
        case rel => exact ⟨k + 1, by omega, by go_num, hown2, hK2⟩
        case measure => simp [intOf]; omega
      · have HC := Lib.hid hc; clear hc
        have HM := Lib.hid (flt_step (f := hasP AL) hx.out HC.out)
        go_wp2_with (first
          | (go_at_call 154; refine (s_covers hs3 hr1 (by omega) H5.out).mono ?_; rintro e w2 ⟨rfl, hd⟩; rw [HC.out]; have hown2 := hown.below (Dr.below hd _) (by omega); have hz2 := Dr.le hd; have hr2 := hr1.dr hd; have hcell2 : w2.cell? ⟨b, o + k, none⟩ = _ := ((Dr.below hd wr.heap.size).cell (p := ⟨b, o + k, none⟩) (by show b < _; omega)).trans hcell; have hB02 := Dr.below hd wr.heap.size; clear hd)
          | (at_builtin; refine wpList_appR1 rfl (.tmp 31) (.tmp 36) rfl w.heap.size (w.heap.size + 1) w1.heap.size _ ((ps.take k).filter (hasP AL)) rfl hown2 (by omega) (by omega) r a2 r.length c2 rfl hr2 hcp w2.heap.size rfl rfl (by omega) ?_; intro v3 w3 hown3 hk3 _)
          | go_in)
        rw [← HM.out] at hown3
        have hK3 := hK.trans ((Kp.ofBelow hB02).trans hk3)
        clear hK hk3 hown hown2
        go_roundw
        case rel => exact ⟨k + 1, by omega, by go_num, hown3, hK3⟩
        case measure => simp [intOf]; omega
    · have HKE : Hid (ps.take k = ps) := List.take_of_length_le (by omega)
      have HMI : Hid (posP m s t = ps.filter (hasP AL)) := by show _ = _; unfold posP; rw [HPS.out, HAA.out]
      go_wp2
      rw [HKE.out] at hown
      obtain ⟨a4, c4, rfl, ho4⟩ := hown.slice (by omega) (by omega)
      go_ret
      rw [HMI.out]
      exact ⟨_, _, rfl, ho4, hb01.trans ((hK.below (by omega)))⟩


set_option maxHeartbeats 2000000 in
theorem s_PossiblePatterns {m : List Int} {a : Option Addr} {c lo hi : Nat} {s : List (List Int)} {a1 : Option Addr} {c1 lo1 hi1 : Nat} {t : Int} {w : World} (hm : RI w lo hi a m) (hlm : m.length ≤ 9223372036854775807) (hs : RII w lo1 hi1 a1 s) (hls : s.length ≤ 9223372036854775807) (hg : ∀ r ∈ s, r.length ≤ 9223372036854775807) (_ht0 : -9223372036854775808 ≤ t) (_ht1 : t ≤ 9223372036854775807) (hB : hi ≤ w.heap.size) (hB1 : hi1 ≤ w.heap.size)  :
    Calls Try.prog 38 #[.slice a m.length c, .slice a1 s.length c1, .int .i64 t] w (GotII w (poL m s t)) := by
  have HG := Lib.hid hg; clear hg
  have D0 : Dr w w := Dr.refl w
  cases hHOK : okM m
  · have HOK := Lib.hid hHOK; clear hHOK
    go_enter Try.func38, Try.ntmps38
    go_wp2_with fail
    refine (s_validModel (hm.dr D0) hlm).mono ?_
    rintro e w1 ⟨rfl, d1⟩
    rw [HOK.out]
    have D1 := Dr.trans D0 d1
    clear d1
    go_wp2
    go_ret
    exact GotII.none (po_no (show bnT m s t = false by unfold bnT; first | (rw [HOK.out]; rfl) | (rw [HOK.out, HOK.out]; rfl) | (rw [HOK.out, HOB.out, HOK.out]; rfl))) (Dr.below D1 _)
  have HOK := Lib.hid hHOK; clear hHOK
  cases hHOB : okBn m s
  · have HOB := Lib.hid hHOB; clear hHOB
    go_enter Try.func38, Try.ntmps38
    go_wp2_with fail
    refine (s_validModel (hm.dr D0) hlm).mono ?_
    rintro e w1 ⟨rfl, d1⟩
    rw [HOK.out]
    have D1 := Dr.trans D0 d1
    clear d1
    go_wp2_with fail
    refine (s_validBans (hm.dr D1) (hs.dr D1) HOK.out hls HG.out).mono ?_
    rintro e w2 ⟨rfl, d2⟩
    rw [HOB.out]
    have D2 := Dr.trans D1 d2
    clear d2
    go_wp2
    go_ret
    exact GotII.none (po_no (show bnT m s t = false by unfold bnT; first | (rw [HOB.out]; rfl) | (rw [HOK.out, HOB.out]; rfl) | (rw [HOK.out, HOB.out, HOB.out]; rfl))) (Dr.below D2 _)
  have HOB := Lib.hid hHOB; clear hHOB
  cases hHIN : inR t 0 m.length
  · have HIN := Lib.hid hHIN; clear hHIN
    go_enter Try.func38, Try.ntmps38
    go_wp2_with fail
    refine (s_validModel (hm.dr D0) hlm).mono ?_
    rintro e w1 ⟨rfl, d1⟩
    rw [HOK.out]
    have D1 := Dr.trans D0 d1
    clear d1
    go_wp2_with fail
    refine (s_validBans (hm.dr D1) (hs.dr D1) HOK.out hls HG.out).mono ?_
    rintro e w2 ⟨rfl, d2⟩
    rw [HOB.out]
    have D2 := Dr.trans D1 d2
    clear d2
    go_wp2_with fail
    refine (s_inRange _ _ _ _).mono ?_
    rintro e w3 ⟨rfl, d3⟩
    rw [HIN.out]
    have D3 := Dr.trans D2 d3
    clear d3
    go_wp2
    go_ret
    exact GotII.none (po_no (show bnT m s t = false by unfold bnT; first | (rw [HIN.out]; rfl) | (rw [HOK.out, HIN.out]; rfl) | (rw [HOK.out, HOB.out, HIN.out]; rfl))) (Dr.below D3 _)
  have HIN := Lib.hid hHIN; clear hHIN
  have HR := Lib.hid (bn_rows HOB.out)
  have hsl := okBn_len HOB.out
  have ht := inR_true.1 HIN.out
  have HPO := Lib.hid (po_yes (bnT_mk HOK.out HOB.out ht.1 ht.2))
  go_enter Try.func38, Try.ntmps38
  go_wp2_with fail
  refine (s_validModel (hm.dr D0) hlm).mono ?_
  rintro e w1 ⟨rfl, d1⟩
  rw [HOK.out]
  have D1 := Dr.trans D0 d1
  clear d1
  go_wp2_with fail
  refine (s_validBans (hm.dr D1) (hs.dr D1) HOK.out hls HG.out).mono ?_
  rintro e w2 ⟨rfl, d2⟩
  rw [HOB.out]
  have D2 := Dr.trans D1 d2
  clear d2
  go_wp2_with fail
  refine (s_inRange _ _ _ _).mono ?_
  rintro e w3 ⟨rfl, d3⟩
  rw [HIN.out]
  have D3 := Dr.trans D2 d3
  clear d3
  have Z3 := Dr.le D3
  go_wp2_with fail
  refine (s_possiblePatterns HOK.out (hm.dr D3) (by omega) (hs.dr D3) (by omega) (by omega) HR.out ht.1 ht.2).mono ?_
  rintro e w4 ⟨a4, c4, rfl, h4, hb4⟩
  have hb03 := (Dr.below D3 w.heap.size).trans (hb4.mono (by omega))
  go_wp2
  go_ret
  rw [HPO.out]
  exact ⟨_, _, rfl, h4.wide (by omega) (Nat.le_refl _), hb03⟩

/- Walks: what is possible, by the program. -/
open Go.RowKit

set_option maxRecDepth 100000 in
set_option maxHeartbeats 2000000 in
theorem i_possible {m : List Int} {b : List (List Int)} {v : Value} {a : Option Addr} {c lo hi B : Nat} {w0 w : World} {t : Int} (hm : RI w lo hi a m) (hhi : hi ≤ w.heap.size) (ho : OwnBn w0 B v b) (hb0 : Below w0.heap.size w0 w) (hok : okM m = true) (hob : okBn m b = true) (ht0 : 0 ≤ t) (ht1 : t ≤ m.length) :
    Calls Try.prog 141 #[.agg #[.slice a m.length c, v], .int .i64 t] w (NewP w (posP m b t)) := by
  have hs0 := hb0.size
  have hm5 := okM_len hok
  have HOK := Lib.hid hok; have HOB := Lib.hid hob
  have hA := Lib.hid (heap_alloc_new w (.cells #[.slice a m.length c, v] 93))
  have hbA := (Below.refl w.heap.size w).alloc (Nat.le_refl _) (.cells #[.slice a m.length c, v] 93)
  obtain ⟨W, hWe⟩ : ∃ W, w.alloc (.cells #[.slice a m.length c, v] 93) = W := ⟨_, rfl⟩
  have hWs : W.heap.size = w.heap.size + 1 := by rw [← hWe]; simp
  rw [hWe] at hA hbA
  have hmW := hm.below hbA hhi
  have HS : Hid (∀ w', Below W.heap.size W w' → w'.cell? ⟨w.heap.size, 0, none⟩ = some (.slice a m.length c) ∧ w'.cell? ⟨w.heap.size, 1, none⟩ = some v) := fun w' hb => by
    have h := (hb.block w.heap.size (by omega)).trans hA.out
    rw [cell_of_row _ _ 0 _ _ _ h, cell_of_row _ _ 1 _ _ _ h]; exact ⟨rfl, rfl⟩
  have hmD : RI W.drew lo hi a m := hmW.below ((Below.refl W.heap.size W).drew) (by omega)
  have hPat := Lib.hid (patS_len (head := []) HOK.out t)
  have hq1 : Below W.heap.size W W := Below.refl _ _
  obtain ⟨ps, hps⟩ : ∃ ps, patS m [] t = ps := ⟨_, rfl⟩
  have HP := Lib.hid hps
  have HC1 : Hid (Calls Try.prog 144 #[.slice a m.length c, .int .i64 t] W.drew (NewP W.drew ps)) := by
    rw [← hps]; exact i_patternsOf HOK.out hmD (by simp; omega) ht0 ht1
  have HC2 : Hid (∀ w2 v2, Below W.heap.size W w2 → OwnP w2 W.heap.size v2 ps → Calls Try.prog 192 #[v2, .func (.func 132) #[.agg #[.slice a m.length c, v]] #[]] w2 (NewP w2 (posP m b t))) := fun w2 v2 hb hop => by
    have hq : posP m b t = ps.filter (hasP (alL m b)) := by unfold posP; rw [hps]
    rw [hq]
    refine i_keptPos (B := W.heap.size) _ _ hop (Below.refl _ _) (by rw [← hps]; exact Nat.le_trans hPat.out (by omega)) fun l hl w' hb' => ?_
    have hz := hb.size
    have hbb : Below W.heap.size W w' := hb.trans (hb'.mono hz)
    rw [← hps] at hl
    exact i_isPossible (hmW.below hbb (by omega)) (by have := hbb.size; omega) ho (hb0.trans ((hbA.trans (hbb.mono (by omega))).mono hs0)) HOK.out HOB.out ((mem_patS HOK.out).1 hl).1
  clear hok hob hm hmW hmD hps
  go_enter Try.func141, Try.ntmps141
  go_wp2_with fail
  try rw [hWe]
  clear hWe
  go_region_held3 (fun w' => w'.cell? ⟨w.heap.size, 0, none⟩ = some (.slice a m.length c) ∧ w'.cell? ⟨w.heap.size, 1, none⟩ = some v)
    (first | exact HS.out _ (by first | exact hq3 | exact hq2 | exact hq1.drew | exact hq1) | go_keep) ((first
    | (go_at_call 144; refine HC1.out.mono ?_; rintro e w2 ⟨v2, rfl, ho2, hb2⟩; have hq2 : Below W.heap.size W w2 := hq1.drew.trans hb2; have hz2 := hq2.size)
    | (go_at_call 192; refine (HC2.out w2 v2 hq2 ho2).mono ?_; rintro e w3 ⟨v3, rfl, ho3, hb3⟩; have hq3 : Below W.heap.size W w3 := hq2.trans (hb3.mono hz2))))
  all_goals
    have hbF := hbA.trans (hq3.mono (by omega))
    go_wp2
    go_ret
    exact ⟨_, rfl, ho3.mono (by omega), hbF⟩


set_option maxHeartbeats 2000000 in
theorem i_PossiblePatterns {m : List Int} {a : Option Addr} {c lo hi : Nat} {s : List (List Int)} {a1 : Option Addr} {c1 lo1 hi1 : Nat} {t : Int} {w : World} (hm : RI w lo hi a m) (hlm : m.length ≤ 9223372036854775807) (hs : RII w lo1 hi1 a1 s) (hls : s.length ≤ 9223372036854775807) (hg : ∀ r ∈ s, r.length ≤ 9223372036854775807) (_ht0 : -9223372036854775808 ≤ t) (_ht1 : t ≤ 9223372036854775807) (hB : hi ≤ w.heap.size) (hB1 : hi1 ≤ w.heap.size)  :
    Calls Try.prog 36 #[.slice a m.length c, .slice a1 s.length c1, .int .i64 t] w (NewII w (poL m s t)) := by
  have HG := Lib.hid hg; clear hg
  have D0 : Dr w w := Dr.refl w
  cases hHIB : okM m && okBn m s
  · have HIB := Lib.hid hHIB; clear hHIB
    go_enter Try.func36, Try.ntmps36
    go_wp2_with fail
    refine (i_ValidBans (hm.dr D0) hlm (hs.dr D0) hls HG.out).mono ?_
    rintro e w1 ⟨rfl, d1⟩
    rw [HIB.out]
    have D1 := Dr.trans D0 d1
    clear d1
    go_wp2
    go_ret
    exact NewII.none (po_no (show bnT m s t = false by unfold bnT; first | (rw [HIB.out]; rfl) | (rw [HIB.out, HIB.out]; rfl))) (Dr.below D1 _)
  have HIB := Lib.hid hHIB; clear hHIB
  cases hHIN : inR t 0 m.length
  · have HIN := Lib.hid hHIN; clear hHIN
    go_enter Try.func36, Try.ntmps36
    go_wp2_with fail
    refine (i_ValidBans (hm.dr D0) hlm (hs.dr D0) hls HG.out).mono ?_
    rintro e w1 ⟨rfl, d1⟩
    rw [HIB.out]
    have D1 := Dr.trans D0 d1
    clear d1
    go_wp2_with fail
    refine (i_isStrength hlm).mono ?_
    rintro e w2 ⟨rfl, d2⟩
    rw [HIN.out]
    have D2 := Dr.trans D1 d2
    clear d2
    go_wp2
    go_ret
    exact NewII.none (po_no (show bnT m s t = false by unfold bnT; first | (rw [HIN.out]; rfl) | (rw [HIB.out, HIN.out]; rfl))) (Dr.below D2 _)
  have HIN := Lib.hid hHIN; clear hHIN
  have hE := HIB.out
  rw [Bool.and_eq_true] at hE
  have HOK := Lib.hid hE.1
  have HOB := Lib.hid hE.2
  clear hE
  have hsl := okBn_len HOB.out
  have HR := Lib.hid (bn_rows HOB.out)
  have hm5 := okM_len HOK.out
  have ht := inR_true.1 HIN.out
  have HPO := Lib.hid (po_yes (bnT_mk HOK.out HOB.out ht.1 ht.2))
  have HLN := Lib.hid (poL_len (m := m) (b := s) (t := t))
  have HRW := Lib.hid (poL_row (m := m) (b := s) (t := t))
  rw [HPO.out] at HLN HRW
  go_enter Try.func36, Try.ntmps36
  go_wp2_with fail
  refine (i_ValidBans (hm.dr D0) hlm (hs.dr D0) hls HG.out).mono ?_
  rintro e w1 ⟨rfl, d1⟩
  rw [HIB.out]
  have D1 := Dr.trans D0 d1
  clear d1
  go_wp2_with fail
  refine (i_isStrength hlm).mono ?_
  rintro e w2 ⟨rfl, d2⟩
  rw [HIN.out]
  have D2 := Dr.trans D1 d2
  clear d2
  have Z2 := Dr.le D2
  go_wp2_with fail
  refine (i_rulesOf m.length (hs.dr D2) (by omega) hsl (fun r hr => by have := HR.out r hr; omega)).mono ?_
  rintro e w3 ⟨v, rfl, ho3, hb3⟩
  have hz3 := hb3.size
  have hm3 := (hm.dr D2).below hb3 (by omega)
  go_wp2_with fail
  refine (i_possible hm3 (by omega) ho3 (Below.refl _ _) HOK.out HOB.out ht.1 ht.2).mono ?_
  rintro e w4 ⟨v4, rfl, ho4, hb4⟩
  have hz4 := hb4.size
  go_wp2_with fail
  refine (i_listsOf ho4 hm5.1 hm5.2 (Nat.le_trans HLN.out (by omega)) (fun l hl => (HRW.out l hl).1)).mono ?_
  rintro e w5 ⟨a5, c5, rfl, h5, hb5⟩
  have hb03 := (Dr.below D2 w.heap.size).trans ((hb3.trans ((hb4.trans (hb5.mono (by omega))).mono (by omega))).mono (by omega))
  go_wp2
  go_ret
  rw [HPO.out]
  exact ⟨_, _, rfl, h5.wide (by omega) (Nat.le_refl _), hb03⟩


theorem mis_more {s ps : List (List Int)} {k : Nat} {x : List Int} (hx : s[k]? = some x) : rstP (misP (s.take k) ps) x = misP (s.take (k + 1)) ps := by
  unfold rstP misP
  rw [List.filter_filter]
  apply List.filter_congr
  intro p _
  unfold hasP
  rw [take_snoc hx, List.any_append]
  simp [Bool.and_comm]
theorem mis_zero (ps : List (List Int)) : misP [] ps = ps := by
  unfold misP hasP; rw [List.filter_eq_self]; simp
theorem mis_all (s ps : List (List Int)) : decide ((((misP s ps).length : Nat) : Int) = 0) = ps.all (hasP s) := by
  rw [Bool.eq_iff_iff, decide_eq_true_eq, List.all_eq_true]
  constructor
  · intro h p hp
    have h0 : misP s ps = [] := List.eq_nil_of_length_eq_zero (by omega)
    unfold misP at h0
    rw [List.filter_eq_nil_iff] at h0
    simpa using h0 p hp
  · intro h
    have h0 : misP s ps = [] := by
      unfold misP; rw [List.filter_eq_nil_iff]
      intro p hp; simp [h p hp]
    rw [h0]; rfl

set_option maxRecDepth 100000 in
set_option maxHeartbeats 2000000 in
theorem s_IsAllowedCovering {m : List Int} {a : Option Addr} {c lo hi : Nat} {s : List (List Int)} {a1 : Option Addr} {c1 lo1 hi1 : Nat} {u : List (List Int)} {a2 : Option Addr} {c2 lo2 hi2 : Nat} {t : Int} {w : World} (hm : RI w lo hi a m) (hlm : m.length ≤ 9223372036854775807) (hs : RII w lo1 hi1 a1 s) (hls : s.length ≤ 9223372036854775807) (hg : ∀ r ∈ s, r.length ≤ 9223372036854775807) (hu : RII w lo2 hi2 a2 u) (hlu : u.length ≤ 9223372036854775807) (hgu : ∀ r ∈ u, r.length ≤ 9223372036854775807) (_ht0 : -9223372036854775808 ≤ t) (_ht1 : t ≤ 9223372036854775807) (hB : hi ≤ w.heap.size) (hB1 : hi1 ≤ w.heap.size) (hB2 : hi2 ≤ w.heap.size)  :
    Calls Try.prog 43 #[.slice a m.length c, .slice a1 s.length c1, .slice a2 u.length c2, .int .i64 t] w (NewV w (.bool (iaB m s u t))) := by
  have HG := Lib.hid hg; clear hg
  have HGU := Lib.hid hgu; clear hgu
  have D0 : Dr w w := Dr.refl w
  cases hHOC : okC m u t
  · have HOC := Lib.hid hHOC; clear hHOC
    go_enter Try.func43, Try.ntmps43
    go_wp2_with fail
    refine (s_good (hm.dr D0) hlm (hu.dr D0) hlu HGU.out).mono ?_
    rintro e w1 ⟨rfl, d1⟩
    rw [HOC.out]
    have D1 := Dr.trans D0 d1
    clear d1
    go_wp2
    go_ret
    exact ⟨by rw [ia_no (m := m) (b := s) (s := u) (t := t) (by first | (rw [HOC.out]; rfl) | (rw [HOC.out, HOC.out]; rfl) | (rw [HOC.out]; simp))]; rfl, Dr.below D1 _⟩
  have HOC := Lib.hid hHOC; clear hHOC
  have HOK := Lib.hid (okC_parts HOC.out).1
  cases hHOB : okBn m s
  · have HOB := Lib.hid hHOB; clear hHOB
    go_enter Try.func43, Try.ntmps43
    go_wp2_with fail
    refine (s_good (hm.dr D0) hlm (hu.dr D0) hlu HGU.out).mono ?_
    rintro e w1 ⟨rfl, d1⟩
    rw [HOC.out]
    have D1 := Dr.trans D0 d1
    clear d1
    go_wp2_with fail
    refine (s_validBans (hm.dr D1) (hs.dr D1) HOK.out hls HG.out).mono ?_
    rintro e w2 ⟨rfl, d2⟩
    rw [HOB.out]
    have D2 := Dr.trans D1 d2
    clear d2
    go_wp2
    go_ret
    exact ⟨by rw [ia_no (m := m) (b := s) (s := u) (t := t) (by first | (rw [HOB.out]; rfl) | (rw [HOC.out, HOB.out]; rfl) | (rw [HOB.out]; simp))]; rfl, Dr.below D2 _⟩
  have HOB := Lib.hid hHOB; clear hHOB
  have hp := okC_parts HOC.out
  have hul := hp.2.2.1
  have ht := hp.2.1
  have HRU := Lib.hid hp.2.2.2
  clear hp
  have hsl := okBn_len HOB.out
  have HR := Lib.hid (bn_rows HOB.out)
  have hm5 := okM_len HOK.out
  obtain ⟨PP, hPP⟩ : ∃ PP, posP m s t = PP := ⟨_, rfl⟩
  have HPP := Lib.hid hPP
  have HPL : Hid (PP.length ≤ 1024) := by show _ ≤ _; rw [← hPP]; exact patS_flt_len HOK.out
  have HPR : Hid (∀ r ∈ PP, r.length = m.length) := fun r hr => by rw [← hPP] at hr; exact patS_flt_row r hr
  clear hPP
  go_enter Try.func43, Try.ntmps43
  go_wp2_with fail
  refine (s_good (hm.dr D0) hlm (hu.dr D0) hlu HGU.out).mono ?_
  rintro e w1 ⟨rfl, d1⟩
  rw [HOC.out]
  have D1 := Dr.trans D0 d1
  clear d1
  go_wp2_with fail
  refine (s_validBans (hm.dr D1) (hs.dr D1) HOK.out hls HG.out).mono ?_
  rintro e w2 ⟨rfl, d2⟩
  rw [HOB.out]
  have D2 := Dr.trans D1 d2
  clear d2
  have Z2 := Dr.le D2
  go_wp2
  go_loopw [9] (fun i wr => ∃ k : Nat, k ≤ u.length ∧ i = .int .i64 k ∧ Dr w2 wr ∧ Hid ((u.take k).all (fun x => !bnB s x) = true)) (fun i _ => u.length - (intOf i).toNat)
  case atStart => exact ⟨0, Nat.zero_le _, rfl, Dr.refl _, by simp [Hid]⟩
  case round =>
    obtain ⟨k, hk, rfl, hd, hA⟩ := hrel
    have hDD := Dr.trans D2 hd
    have hzz := Dr.le hDD
    by_cases hlt : k < u.length
    · obtain ⟨b, o, a5, c5, r, ha, _, _, hcell, hr, hx⟩ := (hu.dr hDD).at hlt
      have hidx := idxII ha hlt c2
      have hrl : r.length = m.length := HRU.out r (List.mem_of_getElem? hx.out)
      have hrl5 : r.length ≤ 9223372036854775807 := by omega
      have H5 : Hid (∀ q ∈ s, q.length ≤ r.length) := fun q hq => by have := HR.out q hq; omega
      have hsd := hs.dr hDD
      replace hrl := Lib.hid hrl
      clear ha hu hs hm
      cases hb : bnB s r
      · have HBN := Lib.hid hb; clear hb
        go_wp2_with fail
        refine (s_allowed hsd hr (by omega) H5.out hrl5).mono ?_
        rintro e w5 ⟨rfl, d5⟩
        rw [HBN.out]
        go_wp2
        go_roundw
        case rel => exact ⟨k + 1, by omega, by go_num, Dr.trans hd d5, all_snoc hx.out hA.out (by rw [HBN.out]; rfl)⟩
        case measure => simp [intOf]; omega
      · have HBN := Lib.hid hb; clear hb
        go_wp2_with fail
        refine (s_allowed hsd hr (by omega) H5.out hrl5).mono ?_
        rintro e w5 ⟨rfl, d5⟩
        rw [HBN.out]
        go_wp2
        go_ret
        exact ⟨by rw [ia_ban (m := m) (b := s) (t := t) (all_fails hx.out (by rw [HBN.out]; rfl))]; rfl, Dr.below (Dr.trans hDD d5) _⟩
    · have HAL := Lib.hid (all_whole hA.out (show u.length ≤ k by omega))
      have HIA := Lib.hid (ia_yes HOC.out HOB.out HAL.out)
      have hmd := hm.dr hDD
      have hsd := hs.dr hDD
      have hud := hu.dr hDD
      clear hm hs hu
      go_wp2_with fail
      refine (s_possiblePatterns HOK.out hmd (by omega) hsd (by omega) (by omega) HR.out ht.1 ht.2).mono ?_
      rintro e w6 ⟨a6, c6, rfl, h6, hb6⟩
      have hall := h6.rii
      rw [HPP.out] at hall ⊢
      have hPl := HPL.out
      have hu6 := hud.below hb6 (by omega)
      have hb06 : Below w.heap.size w w6 := (Dr.below hDD w.heap.size).trans (hb6.mono (by omega))
      clear h6 hmd hsd hud hb6
      go_wp2
      go_loopw [11] (fun i wr => ∃ k : Nat, k ≤ PP.length ∧ i = .int .i64 k ∧ Dr w6 wr ∧ Hid ((PP.take k).all (hasP u) = true)) (fun i _ => PP.length - (intOf i).toNat)
      case atStart => exact ⟨0, Nat.zero_le _, rfl, Dr.refl _, by simp [Hid]⟩
      case round =>
        obtain ⟨j, hj, rfl, hd2, hA2⟩ := hrel
        have hbw := hb06.trans (Dr.below hd2 _)
        by_cases hlt2 : j < PP.length
        · obtain ⟨b, o, a5, c5, r, ha, _, _, hcell, hr, hx⟩ := (hall.dr hd2).at hlt2
          have hidx := idxII ha hlt2 c6
          have hrl : r.length = m.length := HPR.out r (List.mem_of_getElem? hx.out)
          have H5 : Hid (∀ q ∈ u, r.length ≤ q.length ∧ q.length ≤ 9223372036854775807) := fun q hq => by have := HRU.out q hq; omega
          have hud := hu6.dr hd2
          replace hrl := Lib.hid hrl
          clear ha hall hu6
          cases hb : hasP u r
          · have HBN := Lib.hid hb; clear hb
            go_wp2_with fail
            refine (s_covers hud hr (by omega) H5.out).mono ?_
            rintro e w7 ⟨rfl, d7⟩
            rw [HBN.out]
            go_wp2
            go_ret
            refine ⟨?_, hbw.trans (Dr.below d7 _)⟩
            rw [HIA.out, HPP.out, all_fails hx.out HBN.out]; rfl
          · have HBN := Lib.hid hb; clear hb
            go_wp2_with fail
            refine (s_covers hud hr (by omega) H5.out).mono ?_
            rintro e w7 ⟨rfl, d7⟩
            rw [HBN.out]
            go_wp2
            go_roundw
            case rel => exact ⟨j + 1, by omega, by go_num, Dr.trans hd2 d7, all_snoc hx.out hA2.out HBN.out⟩
            case measure => simp [intOf]; omega
        · have HEN := Lib.hid (all_whole hA2.out (show PP.length ≤ j by omega))
          go_wp2
          go_ret
          refine ⟨?_, hbw⟩
          rw [HIA.out, HPP.out, HEN.out]; rfl

set_option maxRecDepth 100000 in
set_option maxHeartbeats 2000000 in
theorem i_IsAllowedCovering {m : List Int} {a : Option Addr} {c lo hi : Nat} {s : List (List Int)} {a1 : Option Addr} {c1 lo1 hi1 : Nat} {u : List (List Int)} {a2 : Option Addr} {c2 lo2 hi2 : Nat} {t : Int} {w : World} (hm : RI w lo hi a m) (hlm : m.length ≤ 9223372036854775807) (hs : RII w lo1 hi1 a1 s) (hls : s.length ≤ 9223372036854775807) (hg : ∀ r ∈ s, r.length ≤ 9223372036854775807) (hu : RII w lo2 hi2 a2 u) (hlu : u.length ≤ 9223372036854775807) (hgu : ∀ r ∈ u, r.length ≤ 9223372036854775807) (_ht0 : -9223372036854775808 ≤ t) (_ht1 : t ≤ 9223372036854775807) (hB : hi ≤ w.heap.size) (hB1 : hi1 ≤ w.heap.size) (hB2 : hi2 ≤ w.heap.size)  :
    Calls Try.prog 42 #[.slice a m.length c, .slice a1 s.length c1, .slice a2 u.length c2, .int .i64 t] w (NewV w (.bool (iaB m s u t))) := by
  have HG := Lib.hid hg; clear hg
  have HGU := Lib.hid hgu; clear hgu
  have D0 : Dr w w := Dr.refl w
  cases hHIB : okM m && okBn m s
  · have HIB := Lib.hid hHIB; clear hHIB
    go_enter Try.func42, Try.ntmps42
    go_wp2_with fail
    refine (i_ValidBans (hm.dr D0) hlm (hs.dr D0) hls HG.out).mono ?_
    rintro e w1 ⟨rfl, d1⟩
    rw [HIB.out]
    have D1 := Dr.trans D0 d1
    clear d1
    go_wp2
    go_ret
    exact ⟨by rw [ia_no (m := m) (b := s) (s := u) (t := t) (by first | (rw [HIB.out]; rfl) | (have := HIB.out; revert this; unfold okC; cases okM m <;> cases okBn m s <;> simp))]; rfl, Dr.below D1 _⟩
  have HIB := Lib.hid hHIB; clear hHIB
  cases hHOC : okC m u t
  · have HOC := Lib.hid hHOC; clear hHOC
    go_enter Try.func42, Try.ntmps42
    go_wp2_with fail
    refine (i_ValidBans (hm.dr D0) hlm (hs.dr D0) hls HG.out).mono ?_
    rintro e w1 ⟨rfl, d1⟩
    rw [HIB.out]
    have D1 := Dr.trans D0 d1
    clear d1
    go_wp2_with fail
    refine (i_canCover (hm.dr D1) hlm (hu.dr D1) hlu HGU.out).mono ?_
    rintro e w2 ⟨rfl, d2⟩
    rw [HOC.out]
    have D2 := Dr.trans D1 d2
    clear d2
    go_wp2
    go_ret
    exact ⟨by rw [ia_no (m := m) (b := s) (s := u) (t := t) (by first | (rw [HOC.out]; rfl) | (have := HOC.out; revert this; unfold okC; cases okM m <;> cases okBn m s <;> simp))]; rfl, Dr.below D2 _⟩
  have HOC := Lib.hid hHOC; clear hHOC
  have hE := HIB.out
  rw [Bool.and_eq_true] at hE
  have HOK := Lib.hid hE.1
  have HOB := Lib.hid hE.2
  clear hE
  have hsl := okBn_len HOB.out
  have HR := Lib.hid (bn_rows HOB.out)
  have hm5 := okM_len HOK.out
  have hp := okC_parts HOC.out
  have hul := hp.2.2.1
  have ht := hp.2.1
  have HRU := Lib.hid hp.2.2.2
  clear hp
  obtain ⟨PP, hPP⟩ : ∃ PP, posP m s t = PP := ⟨_, rfl⟩
  have HPP := Lib.hid hPP
  have HPL : Hid (PP.length ≤ 1024) := by show _ ≤ _; rw [← hPP]; exact patS_flt_len HOK.out
  have HPR : Hid (∀ r ∈ PP, r.length = m.length) := fun r hr => by rw [← hPP] at hr; exact patS_flt_row r hr
  clear hPP
  go_enter Try.func42, Try.ntmps42
  go_wp2_with fail
  refine (i_ValidBans (hm.dr D0) hlm (hs.dr D0) hls HG.out).mono ?_
  rintro e w1 ⟨rfl, d1⟩
  rw [HIB.out]
  have D1 := Dr.trans D0 d1
  clear d1
  go_wp2_with fail
  refine (i_canCover (hm.dr D1) hlm (hu.dr D1) hlu HGU.out).mono ?_
  rintro e w2 ⟨rfl, d2⟩
  rw [HOC.out]
  have D2 := Dr.trans D1 d2
  clear d2
  have Z2 := Dr.le D2
  go_wp2_with fail
  refine (i_rulesOf m.length (hs.dr D2) (by omega) hsl (fun r hr => by have := HR.out r hr; omega)).mono ?_
  rintro e w3 ⟨v, rfl, ho3, hb3⟩
  have hz3 := hb3.size
  obtain ⟨vB, vc, rfl, ho3⟩ := ho3.slice
  have hA3 := Lib.hid (heap_alloc_new w3 (.cells #[.slice a m.length c, .slice vB s.length vc] 93))
  have hbA3 := (Below.refl w3.heap.size w3).alloc (Nat.le_refl _) (.cells #[.slice a m.length c, .slice vB s.length vc] 93)
  have hbw4 : Below w.heap.size w (w3.alloc (.cells #[.slice a m.length c, .slice vB s.length vc] 93)) := ((Dr.below D2 w.heap.size).trans (hb3.mono (by omega))).trans (hbA3.mono (by omega))
  have hm4 := hm.below hbw4 hB
  have hu4 := hu.below hbw4 hB2
  go_wp2_with fail
  refine (i_possible hm4 (by simp; omega) ho3 hbA3 HOK.out HOB.out ht.1 ht.2).mono ?_
  rintro e w5 ⟨v5, rfl, ho5, hb5⟩
  have hz5 := hb5.size
  simp only [World.size_alloc] at hz5
  rw [HPP.out] at ho5
  have hbw5 : Below w.heap.size w w5 := hbw4.trans (hb5.mono (by simp; omega))
  have hR5 := Lib.hid ((hb5.block w3.heap.size (by simp)).trans hA3.out)
  have hbA5 : Below w3.heap.size w3 w5 := hbA3.trans (hb5.mono (by simp))
  have ho5 : OwnP w5 (w3.heap.size + 1) v5 PP := by simpa using ho5
  have hu5 := hu.below hbw5 hB2
  clear hm hs hu hm4 hu4 hbA3 hbw4 hb5
  go_wp2
  go_loopw [10, 33] (fun x i wr => ∃ k : Nat, k ≤ u.length ∧ i = .int .i64 k ∧ OwnP wr (w3.heap.size + 1) x (misP (u.take k) PP) ∧ Below (w3.heap.size + 1) w5 wr ∧ Hid ((u.take k).all (fun x => !bnB s x) = true)) (fun _ i _ => u.length - (intOf i).toNat)
  case atStart => exact ⟨0, Nat.zero_le _, rfl, by simpa [mis_zero] using ho5, Below.refl _ _, by simp [Hid]⟩
  case round =>
    obtain ⟨k, hk, rfl, hown, hBr, hA⟩ := hrel
    have hzr := hBr.size
    have hbwr : Below w.heap.size w wr := hbw5.trans (hBr.mono (by omega))
    by_cases hlt : k < u.length
    · obtain ⟨b, o, a6, c6, r, ha, _, _, hcell, hr, hx⟩ := (hu5.below (hBr.mono (show w.heap.size ≤ _ by omega)) hB2).at hlt
      have hidx := idxII ha hlt c2
      have hrl : r.length = m.length := HRU.out r (List.mem_of_getElem? hx.out)
      have hrl5 : r.length ≤ 5 := by omega
      have HRL := Lib.hid hrl
      clear hrl ha hu5
      have hml := flt_len (fun p => !hasP (u.take k) p) PP PP.length
      have hmL : (misP (u.take k) PP).length ≤ 1048576 := by have := HPL.out; have h2 : (misP (u.take k) PP).length ≤ PP.length := List.length_filter_le _ _; omega
      clear hml
      go_wp2_with fail
      refine (i_patternOf hr (by omega) hrl5).mono ?_
      rintro e w6 ⟨rfl, hb6⟩
      have hz6 := hb6.size
      have hbA6 := (Below.refl w6.heap.size w6).alloc (Nat.le_refl _) (.cells #[.int .i64 (at5 r 0), .int .i64 (at5 r 1), .int .i64 (at5 r 2), .int .i64 (at5 r 3), .int .i64 (at5 r 4)] 97)
      have hcr := Lib.hid (heap_alloc_new w6 (.cells #[.int .i64 (at5 r 0), .int .i64 (at5 r 1), .int .i64 (at5 r 2), .int .i64 (at5 r 3), .int .i64 (at5 r 4)] 97))
      have hb56 : Below (w3.heap.size + 1) w5 (w6.alloc (.cells #[.int .i64 (at5 r 0), .int .i64 (at5 r 1), .int .i64 (at5 r 2), .int .i64 (at5 r 3), .int .i64 (at5 r 4)] 97)) := (hBr.trans (hb6.mono (by omega))).trans (hbA6.mono (by omega))
      obtain ⟨p0, p1, p2, p3, p4⟩ := cells5' hcr.out
      have hR6 := (hb56.block w3.heap.size (by omega)).trans hR5.out
      have q0 : (w6.alloc (.cells #[.int .i64 (at5 r 0), .int .i64 (at5 r 1), .int .i64 (at5 r 2), .int .i64 (at5 r 3), .int .i64 (at5 r 4)] 97)).cell? ⟨w3.heap.size, 0, none⟩ = some (.slice a m.length c) := by rw [cell_of_row _ _ 0 _ _ _ hR6]; rfl
      have q1 : (w6.alloc (.cells #[.int .i64 (at5 r 0), .int .i64 (at5 r 1), .int .i64 (at5 r 2), .int .i64 (at5 r 3), .int .i64 (at5 r 4)] 97)).cell? ⟨w3.heap.size, 1, none⟩ = some (.slice vB s.length vc) := by rw [cell_of_row _ _ 1 _ _ _ hR6]; rfl
      have hfb := Lib.hid (fun w9 (h : Below w3.heap.size w3 w9) => i_forbid (mv := .slice a m.length c) (w := w9) (at5 r) ho3 h (by omega))
      have hb36 : Below w3.heap.size w3 (w6.alloc (.cells #[.int .i64 (at5 r 0), .int .i64 (at5 r 1), .int .i64 (at5 r 2), .int .i64 (at5 r 3), .int .i64 (at5 r 4)] 97)) := hbA5.trans (hb56.mono (by omega))
      have hown6 : OwnP (w6.alloc (.cells #[.int .i64 (at5 r 0), .int .i64 (at5 r 1), .int .i64 (at5 r 2), .int .i64 (at5 r 3), .int .i64 (at5 r 4)] 97)) (w3.heap.size + 1) _ (misP (u.take k) PP) := (hown.kept fun j hj _ => hb6.block j hj).kept fun j hj _ => hbA6.block j hj
      clear hR6 hr hcell
      have hfe : fbB s (at5 r) = bnB s r := by
        unfold fbB bnB
        rw [Bool.eq_iff_iff, List.any_eq_true, List.any_eq_true]
        constructor
        · rintro ⟨q, hq, h⟩; exact ⟨q, hq, by rwa [meet5_mB (by have := HR.out q hq; have := HRL.out; omega) (by have := HR.out q hq; omega)] at h⟩
        · rintro ⟨q, hq, h⟩; exact ⟨q, hq, by rwa [meet5_mB (by have := HR.out q hq; have := HRL.out; omega) (by have := HR.out q hq; omega)]⟩
      replace hfe := Lib.hid hfe
      cases hb : bnB s r
      · have HBN := Lib.hid hb; clear hb
        go_wp2_with fail
        refine (hfb.out _ hb36).mono ?_
        rintro e w7 ⟨rfl, hb7⟩
        rw [hfe.out, HBN.out]
        have hz7 := hb7.size
        simp only [World.size_alloc] at hz7
        obtain ⟨e0, e1, e2, e3, e4⟩ := cells5' ((hb7.block _ (by simp)).trans hcr.out)
        have hown7 := hown6.kept fun j hj _ => hb7.block j hj
        have hb57 := hb56.trans (hb7.mono (by simp; omega))
        clear p0 p1 p2 p3 p4 q0 q1 hown6 hown
        go_wp2_with fail
        refine (i_unmetBy (at5 r) hown7 (Below.refl _ _) hmL).mono ?_
        rintro e w8 ⟨v8, rfl, ho8, hb8⟩
        rw [un_rst hrl5 (fun p hp => by have := HPR.out p (List.mem_filter.1 hp).1; have := HRL.out; omega), mis_more hx.out] at ho8
        have hb58 := hb57.trans (hb8.mono (by omega))
        have ho8 := ho8.mono (show w3.heap.size + 1 ≤ _ by omega)
        clear hown7
        go_wp2
        go_roundw
        case rel => exact ⟨k + 1, by omega, by go_num, ho8, hb58, all_snoc hx.out hA.out (by rw [HBN.out]; rfl)⟩
        case measure => simp [intOf]; omega
      · have HBN := Lib.hid hb; clear hb
        go_wp2_with fail
        refine (hfb.out _ hb36).mono ?_
        rintro e w7 ⟨rfl, hb7⟩
        rw [hfe.out, HBN.out]
        have hbw7 := (hbw5.trans (hb56.mono (by omega))).trans (hb7.mono (B' := w.heap.size) (by simp; omega))
        go_wp2
        go_ret
        exact ⟨by rw [ia_ban (m := m) (b := s) (t := t) (all_fails hx.out (by rw [HBN.out]; rfl))]; rfl, hbw7⟩
    · have HKE : Hid (u.take k = u) := List.take_of_length_le (by omega)
      have HAL := Lib.hid (all_whole hA.out (show u.length ≤ k by omega))
      have HIA := Lib.hid (ia_yes HOC.out HOB.out HAL.out)
      rw [HKE.out] at hown
      have hown := hown
      obtain ⟨av, cv, rfl, _⟩ := hown.at
      have HMA := Lib.hid (mis_all u PP)
      go_wp2
      go_ret
      refine ⟨?_, hbwr⟩
      rw [HIA.out, HPP.out, ← HMA.out]; rfl

end Go.Proofs.Ytehoagbpgahopaa
