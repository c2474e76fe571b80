/- Walks: what is missing, by the program. -/
import Derived.Test.YtpioldgpfpmjiaaGreatDoorWz
import Derived.Test.YtpioldgpfpmjiaaGreatDoorWy
namespace Go.Proofs.YtpioldgpfpmjiaaGreatDoor
open Go.RowKit

/-- the first k tests do not match q -/
def opn (s : List (List Int)) (k : Nat) (q : List Int) : Bool := (s.take k).all fun r => !meet5 (at5 q) (at5 r)
theorem opn_step {s : List (List Int)} {k : Nat} {r : List Int} (hx : s[k]? = some r) (q : List Int) : (opn s k q && !meet5 (at5 q) (at5 r)) = opn s (k + 1) q := by
  unfold opn; rw [take_snoc hx, List.all_append]; simp
theorem opn_end {s : List (List Int)} {k : Nat} (hk : s.length ≤ k) {q : List Int} (h5 : q.length ≤ 5) (hr : ∀ r ∈ s, q.length = r.length) : opn s k q = !hasP s q := by
  have e : ∀ r ∈ s, meet5 (at5 q) (at5 r) = mB q r := fun r h => meet5_mB (hr r h) h5
  rw [Bool.eq_iff_iff]
  unfold opn hasP
  rw [List.take_of_length_le hk]
  simp only [List.all_eq_true, Bool.not_eq_true', List.any_eq_false, Bool.not_eq_true]
  exact ⟨fun h r hr' => by rw [← e r hr']; exact h r hr', fun h r hr' => by rw [e r hr']; exact h r hr'⟩
theorem contains_snoc {l : List (List Int)} {x : List Int} (p : List Int) : (p == x || l.contains p) = (l ++ [x]).contains p := by
  rw [Bool.eq_iff_iff]
  simp [or_comm]
theorem OwnP.mono {w : World} {B B' : Nat} {v : Value} {ps : List (List Int)} (h : OwnP w B v ps) (hB : B' ≤ B) : OwnP w B' v ps := by
  obtain ⟨h1, h2⟩ := h
  refine ⟨h1, ?_⟩
  rcases h2 with h2 | ⟨g, cap, cur, e, hg, rest⟩
  · exact .inl h2
  · exact .inr ⟨g, cap, cur, e, Nat.le_trans hB hg, rest⟩
theorem GrP.below {w w' : World} {v v' : Value} {B : Nat} (h : GrP w w' v v') (hl : ∀ g, v.ownBlock = some g → B ≤ g) (hB : B ≤ w.heap.size) : Below B w w' :=
  ⟨h.gr.os, h.gr.tape, h.gr.output, h.gr.size, fun k hk => h.gr.block k (by omega) (by intro e; have := hl k e.symm; omega)⟩
theorem patS_ps {m : List Int} {t : Int} (h : okM m = true) : PS (patS m [] t) m.length where
  len := patS_row
  n5 := (okM_len h).2
  lv := fun p hp => by
    obtain ⟨r, hr, rfl⟩ := List.mem_map.1 hp
    exact patsR_lv (fun y hy => okM_le3 h y (by simpa using hy)) hr

theorem run_makeMapN (wx : World) (n : Int) : (Instr.makeMap 131 (some (.int .i64 n))).run Tryz.prog wx = .ok (.map (some wx.heap.size)) (wx.alloc (.map #[] 0)) := by
  simp [Instr.makeMap, run_underlying undMap, asInt, asIntOf, Result.andThen]

set_option maxRecDepth 100000 in
set_option maxHeartbeats 4000000 in
theorem i_missingPatterns {m : List Int} {s : List (List Int)} {a a' : Option Addr} {c c' lo hi lo' hi' : Nat} {w : World} {t : Int} (hok : okM m = true) (hm : RI w lo hi a m) (hB : hi ≤ w.heap.size) (hs : RII w lo' hi' a' s) (hB' : hi' ≤ w.heap.size) (hsl : s.length ≤ 1048576) (hr : ∀ r ∈ s, r.length = m.length) (ht0 : 0 ≤ t) (ht1 : t ≤ m.length) :
    Calls Tryz.prog 82 #[.slice a m.length c, .slice a' s.length c', .int .i64 t] w (NewP w (misL m s t)) := by
  have hm5 := okM_len hok
  have HPSS := Lib.hid (patS_ps (t := t) hok)
  have HLN := Lib.hid (patS_len (head := []) hok t)
  have HOK := Lib.hid hok; clear hok
  have HR := Lib.hid hr; clear hr
  have hmm := fun (wx : World) (n : Int) => run_makeMapN wx n
  go_enter Tryz.func82, Tryz.ntmps82
  go_wp2_with fail
  refine (i_patternsOf HOK.out hm hB ht0 ht1).mono ?_
  rintro e w1 ⟨v1, rfl, h1, hb1⟩
  obtain ⟨ps, hps⟩ : ∃ ps, patS m [] t = ps := ⟨_, rfl⟩
  have HPS := Lib.hid hps
  rw [hps] at h1 HPSS HLN
  clear hps
  obtain ⟨a1, c1, rfl, hat⟩ := h1.at
  have H1 := Lib.hid h1; clear h1
  have HAT := Lib.hid hat
  obtain ⟨M, hM⟩ : ∃ M, ps.length = M := ⟨_, rfl⟩
  have HNN := Lib.hid hM
  have hMl : M ≤ 1024 := by have := HLN.out; omega
  have hs1 := hb1.size
  have hs' := hs.below hb1 hB'
  clear hat hs hm HLN
  have hst : Mp (w1.alloc (.map #[] 0)) w1.heap.size 0 ps (fun q => (ps.take 0).contains q) := (Mp.made w1 ps).congr fun p _ => by simp
  have hbM := (Below.refl w1.heap.size w1).alloc (Nat.le_refl _) (.map #[] 0)
  rw [hM]
  clear hM
  go_wp2
  go_loopw [24] (fun i wr => ∃ k : Nat, k ≤ M ∧ i = .int .i64 k ∧ Mp wr w1.heap.size k ps (fun q => (ps.take k).contains q) ∧ Below w1.heap.size w1 wr ∧ w1.heap.size < wr.heap.size) (fun i _ => M - (intOf i).toNat)
  case atStart => exact ⟨0, Nat.zero_le _, rfl, hst, hbM, by simp⟩
  case round =>
    clear hst hbM hmm
    obtain ⟨k, hk, rfl, hmpk, hBl, hsz⟩ := hrel
    by_cases hlt : k < M
    · obtain ⟨l, hx⟩ := at_of_lt (show k < ps.length by have := HNN.out; omega)
      obtain ⟨g, hg1, hg2, hidx, hcs⟩ := HAT.out k l hx
      have HX := Lib.hid hx
      rw [HNN.out] at hidx
      have hc (j : Nat) (hj : j < 5) : wr.cell? ⟨g, k * 5 + j, none⟩ = some (.int .i64 (at5 l j)) := (hBl.cell (p := ⟨g, k * 5 + j, none⟩) hg2).trans (hcs j hj)
      have hc0 := hc 0 (by omega)
      have hc1 := hc 1 (by omega)
      have hc2 := hc 2 (by omega)
      have hc3' := hc 3 (by omega)
      have hc4 := hc 4 (by omega)
      simp only [Nat.add_zero] at hc0
      clear hc hcs hx
      have hbA := (Below.refl wr.heap.size wr).alloc (Nat.le_refl _) (.cells #[.int .i64 (at5 l 0), .int .i64 (at5 l 1), .int .i64 (at5 l 2), .int .i64 (at5 l 3), .int .i64 (at5 l 4)] 130)
      have hmpA := hmpk.below hbA hsz
      have hmem := List.mem_of_getElem? HX.out
      go_wp2_with (first
        | (at_mapUpdate; refine wpList_putP rfl _ _ _ rfl w1.heap.size k HPSS.out rfl hmpA (by omega) l hmem rfl rfl ?_; intro w3 hmp3 hU3)
        | go_in)
      have hmp4 := hmp3.congr (S' := fun q => (ps.take (k + 1)).contains q) fun p _ => by rw [take_snoc HX.out]; exact contains_snoc p
      have hBl3 : Below w1.heap.size w1 w3 := (hBl.trans (hbA.mono (by omega))).trans ⟨hU3.os, hU3.tape, hU3.output, hU3.size, fun j hj => hU3.block j (by simp; omega) (.inl hj)⟩
      have hs3 := hU3.size
      simp only [World.size_alloc] at hs3
      clear hmp3 hU3 hbA hmpA hmpk hBl hc0 hc1 hc2 hc3' hc4
      go_roundw
      case rel => exact ⟨k + 1, by omega, by go_num, hmp4, hBl3, by omega⟩
      case measure => simp [intOf]; omega
    · have hmp2 : Mp wr w1.heap.size M ps (opn s 0) := (hmpk.mono (by omega)).congr fun p hp => by
        rw [List.take_of_length_le (by have := HNN.out; omega)]
        simp [opn, List.contains_eq_mem, hp]
      clear hmpk
      go_wp2
      go_loopw [33] (fun i wr2 => ∃ k : Nat, k ≤ s.length ∧ i = .int .i64 k ∧ Mp wr2 w1.heap.size M ps (opn s k) ∧ Below w1.heap.size w1 wr2 ∧ w1.heap.size < wr2.heap.size) (fun i _ => s.length - (intOf i).toNat)
      case atStart => exact ⟨0, Nat.zero_le _, rfl, hmp2, hBl, hsz⟩
      case round =>
        clear hmp2 hBl hsz
        obtain ⟨k2, hk2, rfl, hmpk, hBl, hsz⟩ := hrel
        by_cases hlt2 : k2 < s.length
        · obtain ⟨b, o, a2, c2, r, ha, _, _, hcell, hr1, hx⟩ := (hs'.below hBl (by omega)).at hlt2
          have hidx := idxII ha hlt2 c'
          have hr5 : r.length ≤ 5 := by have := HR.out r (List.mem_of_getElem? hx.out); omega
          clear ha
          go_wp2_with fail
          refine (i_patternOf hr1 (by omega) hr5).mono ?_
          rintro e w4 ⟨rfl, hb4⟩
          have hs4 := hb4.size
          have hmp4 := hmpk.below hb4 hsz
          have hBl4 := hBl.trans (hb4.mono (by omega))
          go_wp2_with fail
          have hcm := i_closeMatched (at5 r) (w := w4) H1.out hBl4 (Nat.le_refl _) HPSS.out hmp4 (by have := HNN.out; omega)
          rw [HNN.out] at hcm
          refine hcm.mono ?_
          rintro e w5 ⟨rfl, hmp5, hU5⟩
          have hmp6 := hmp5.congr fun p _ => opn_step hx.out p
          have hs5 := hU5.size
          have hBl5 : Below w1.heap.size w1 w5 := hBl4.trans ⟨hU5.os, hU5.tape, hU5.output, hU5.size, fun j hj => hU5.block j (by omega) (.inl hj)⟩
          clear hcm hmp5 hU5 hBl4 hmp4 hb4 hBl hmpk
          go_wp2
          go_roundw
          case rel => exact ⟨k2 + 1, by omega, by go_num, hmp6, hBl5, by omega⟩
          case measure => simp [intOf]; omega
        · have hmp3 : Mp wr w1.heap.size M ps (fun q => !hasP s q) := hmpk.congr fun p hp => opn_end (by omega) (by rw [HPSS.out.len p hp]; exact HPSS.out.n5) (fun r hr => by rw [HPSS.out.len p hp, HR.out r hr])
          clear hmpk
          obtain ⟨wr2, rfl⟩ : ∃ x, x = wr := ⟨_, rfl⟩
          go_wp2
          go_loopw [13, 45] (fun v i wr3 => ∃ k : Nat, k ≤ M ∧ i = .int .i64 k ∧ OwnP wr3 (w1.heap.size + 1) v (misP s (ps.take k)) ∧ Below (w1.heap.size + 1) wr2 wr3) (fun _ i _ => M - (intOf i).toNat)
          case atStart => exact ⟨0, Nat.zero_le _, rfl, OwnP.nil _ _, Below.refl _ _⟩
          case round =>
            obtain ⟨k3, hk3, rfl, hown, hB3⟩ := hrel
            have hz3 := hB3.size
            by_cases hlt3 : k3 < M
            · obtain ⟨l, hx⟩ := at_of_lt (show k3 < ps.length by have := HNN.out; omega)
              obtain ⟨g, hg1, hg2, hidx, hcs⟩ := HAT.out k3 l hx
              have HX := Lib.hid hx
              rw [HNN.out] at hidx
              have hBl3 := hBl.trans (hB3.mono (by omega))
              have hc (j : Nat) (hj : j < 5) : wr.cell? ⟨g, k3 * 5 + j, none⟩ = some (.int .i64 (at5 l j)) := (hBl3.cell (p := ⟨g, k3 * 5 + j, none⟩) hg2).trans (hcs j hj)
              have hc0 := hc 0 (by omega)
              have hc1 := hc 1 (by omega)
              have hc2 := hc 2 (by omega)
              have hc3' := hc 3 (by omega)
              have hc4 := hc 4 (by omega)
              simp only [Nat.add_zero] at hc0
              clear hc hcs hx
              have hbA := (Below.refl wr.heap.size wr).alloc (Nat.le_refl _) (.cells #[.int .i64 (at5 l 0), .int .i64 (at5 l 1), .int .i64 (at5 l 2), .int .i64 (at5 l 3), .int .i64 (at5 l 4)] 130)
              have hmpA := (hmp3.below hB3 (by omega)).below hbA (by omega)
              have hmem := List.mem_of_getElem? HX.out
              have hml := misP_len s ps k3
              have hln := HNN.out
              cases hc : hasP s l
              · have HC := Lib.hid hc; clear hc
                have HM := Lib.hid (misP_step HX.out HC.out)
                have hownA : OwnP (wr.alloc (.cells #[.int .i64 (at5 l 0), .int .i64 (at5 l 1), .int .i64 (at5 l 2), .int .i64 (at5 l 3), .int .i64 (at5 l 4)] 130)) (w1.heap.size + 1) _ (misP s (ps.take k3)) := hown.kept fun j hj _ => hbA.block j hj
                have hlt' := hown.lt
                go_wp2_with (first
                  | (at_lookup; refine wpList_lookP rfl _ _ rfl w1.heap.size M HPSS.out rfl hmpA l hmem rfl true (by rw [HC.out]; rfl) ?_)
                  | (at_builtin; refine wpList_appP rfl _ _ rfl (w1.heap.size + 1) _ (misP s (ps.take k3)) rfl hownA l _ rfl (by simp) (by omega) (by simp; omega) ?_; intro v5 w5 hown5 hg5)
                  | go_in)
                rw [← HM.out] at hown5
                have hB5 : Below (w1.heap.size + 1) wr2 w5 := (hB3.trans (hbA.mono (by omega))).trans (hg5.below (fun g hg => (hlt' g hg).1) (by simp; omega))
                clear hg5 hlt' hownA hmpA hbA hown hB3 hc0 hc1 hc2 hc3' hc4
                go_roundw
                case rel => exact ⟨k3 + 1, by omega, by go_num, hown5, hB5⟩
                case measure => simp [intOf]; omega
              · have HC := Lib.hid hc; clear hc
                have HM := Lib.hid (misP_skip HX.out HC.out)
                have hownA : OwnP (wr.alloc (.cells #[.int .i64 (at5 l 0), .int .i64 (at5 l 1), .int .i64 (at5 l 2), .int .i64 (at5 l 3), .int .i64 (at5 l 4)] 130)) (w1.heap.size + 1) _ (misP s (ps.take k3)) := hown.kept fun j hj _ => hbA.block j hj
                go_wp2_with (first
                  | (at_lookup; refine wpList_lookP rfl _ _ rfl w1.heap.size M HPSS.out rfl hmpA l hmem rfl false (by rw [HC.out]; rfl) ?_)
                  | go_in)
                rw [← HM.out] at hownA
                have hB5 : Below (w1.heap.size + 1) wr2 (wr.alloc (.cells #[.int .i64 (at5 l 0), .int .i64 (at5 l 1), .int .i64 (at5 l 2), .int .i64 (at5 l 3), .int .i64 (at5 l 4)] 130)) := hB3.trans (hbA.mono (by omega))
                clear hmpA hbA hown hB3 hc0 hc1 hc2 hc3' hc4
                go_roundw
                case rel => exact ⟨k3 + 1, by omega, by go_num, hownA, hB5⟩
                case measure => simp [intOf]; omega
            · have HKE : Hid (ps.take k3 = ps) := List.take_of_length_le (by have := HNN.out; omega)
              have HMI : Hid (misL m s t = misP s ps) := by show _ = _; unfold misL; rw [HPS.out]
              go_wp2
              go_ret
              rw [HKE.out] at hown
              rw [HMI.out]
              exact ⟨_, rfl, hown.mono (by omega), hb1.trans ((hBl.mono (by omega)).trans (hB3.mono (by omega)))⟩

end Go.Proofs.YtpioldgpfpmjiaaGreatDoor
