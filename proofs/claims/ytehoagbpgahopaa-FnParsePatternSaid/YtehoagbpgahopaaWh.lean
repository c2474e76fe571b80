/- Walks: how many tests match a pattern. -/
import Derived.Test.YtehoagbpgahopaaWg
namespace Go.Proofs.Ytehoagbpgahopaa
open Go.RowKit

theorem cells5 {w : World} {b t : Nat} {P : Nat → Int} (h : w.heap[b]? = some (.cells #[.int .i64 (P 0), .int .i64 (P 1), .int .i64 (P 2), .int .i64 (P 3), .int .i64 (P 4)] t (0, 0))) :
    w.cell? ⟨b, 0, none⟩ = some (.int .i64 (P 0)) ∧ w.cell? ⟨b, 1, none⟩ = some (.int .i64 (P 1)) ∧ w.cell? ⟨b, 2, none⟩ = some (.int .i64 (P 2)) ∧ w.cell? ⟨b, 3, none⟩ = some (.int .i64 (P 3)) ∧ w.cell? ⟨b, 4, none⟩ = some (.int .i64 (P 4)) :=
  ⟨cell5 h (by omega), cell5 h (by omega), cell5 h (by omega), cell5 h (by omega), cell5 h (by omega)⟩

theorem kept2 {w wr w1 w2 : World} {o : Obj} (hw : Hid (wr.heap[w.heap.size]? = some o)) (hBl : Below w.heap.size w wr) (hsz : w.heap.size + 1 ≤ wr.heap.size) (hb1 : Below wr.heap.size wr.drew w1) (hb2 : Below w1.heap.size w1 w2) :
    Hid (w2.heap[w.heap.size]? = some o) ∧ Below w.heap.size w w2 ∧ w.heap.size + 1 ≤ w2.heap.size := by
  have s1 : wr.heap.size ≤ w1.heap.size := hb1.size
  have s2 := hb2.size
  refine ⟨?_, ?_, by omega⟩
  · show _ = _
    rw [hb2.block _ (by omega), hb1.block _ (by omega)]
    exact hw.out
  · exact (hBl.drew.trans (hb1.mono (by omega))).trans (hb2.mono (by omega))

set_option maxHeartbeats 1000000 in
theorem i_countMatches {t : List (List Int)} {a' : Option Addr} {c' lo' hi' : Nat} {w : World} (P : Nat → Int) (ht : RII w lo' hi' a' t) (hB : hi' ≤ w.heap.size) (hl : t.length ≤ 4611686018427387904) (h5 : ∀ r ∈ t, r.length ≤ 5) :
    Calls Try.prog 163 #[.slice a' t.length c', .agg #[.int .i64 (P 0), .int .i64 (P 1), .int .i64 (P 2), .int .i64 (P 3), .int .i64 (P 4)]] w (NewV w (.int .i64 (t.countP fun r => meet5 P (at5 r)))) := by
  have H5 := Lib.hid h5; clear h5
  have hw1 : (w.alloc (.cells #[.int .i64 (P 0), .int .i64 (P 1), .int .i64 (P 2), .int .i64 (P 3), .int .i64 (P 4)] 97)).heap[w.heap.size]? = some (.cells #[.int .i64 (P 0), .int .i64 (P 1), .int .i64 (P 2), .int .i64 (P 3), .int .i64 (P 4)] 97 (0, 0)) := heap_alloc_new _ _
  go_enter Try.func163, Try.ntmps163
  go_wp2
  go_loopw [5, 10] (fun v i wr => ∃ (k q : Nat), k ≤ t.length ∧ i = .int .i64 k ∧ v = .int .i64 q ∧ q ≤ k ∧ Hid (q = (t.take k).countP fun r => meet5 P (at5 r)) ∧ Hid (wr.heap[w.heap.size]? = some (.cells #[.int .i64 (P 0), .int .i64 (P 1), .int .i64 (P 2), .int .i64 (P 3), .int .i64 (P 4)] 97 (0, 0))) ∧ Below w.heap.size w wr ∧ w.heap.size + 1 ≤ wr.heap.size) (fun _ i _ => t.length - (intOf i).toNat)
  case atStart => exact ⟨0, 0, Nat.zero_le _, rfl, rfl, Nat.le_refl _, by simp [Hid], hw1, (Below.refl _ _).alloc (Nat.le_refl _) _, by simp⟩
  case round =>
    clear hw1
    obtain ⟨k, q, hk, rfl, rfl, hqk, hq, hw1, hBl, hsz⟩ := hrel
    by_cases hlt : k < t.length
    · obtain ⟨b, o, a1, c1, r, ha, _, _, hcell, hr, hx⟩ := (ht.below hBl hB).at hlt
      have hidx := idxII ha hlt c'
      have hr5 := H5.out r (List.mem_of_getElem? hx.out)
      obtain ⟨g0, g1, g2, g3, g4⟩ := cells5 hw1.out
      clear ha ht
      cases hm : meet5 P (at5 r)
      · have HM := Lib.hid hm; clear hm
        go_wp2_with fail
        go_region_with (first | (go_at_call 133; refine (i_patternOf (w := wr.drew) hr (by simp; omega) hr5).mono ?_; rintro e w1 ⟨rfl, hb1⟩; obtain ⟨f0, f1, f2, f3, f4⟩ := cells5 ((hb1.block w.heap.size (by simp; omega)).trans hw1.out)) | (go_at_call 167; refine (i_meets P (at5 r) _).mono ?_; rintro e w2 ⟨rfl, hb2⟩; rw [HM.out]))
        all_goals
          have hk2 := kept2 hw1 hBl hsz hb1 hb2
          have HQ : Hid (q = (t.take (k + 1)).countP fun r => meet5 P (at5 r)) := by
            show _ = _; rw [take_snoc hx.out, List.countP_append, ← hq.out]; simp [HM.out]
          clear hb1 hb2 hBl hw1 hq
          go_wp2
          go_roundw
          case rel => exact ⟨k + 1, q, by omega, by go_num, rfl, by omega, HQ, hk2.1, hk2.2.1, hk2.2.2⟩
          case measure => simp [intOf]; omega
      · have HM := Lib.hid hm; clear hm
        go_wp2_with fail
        go_region_with (first | (go_at_call 133; refine (i_patternOf (w := wr.drew) hr (by simp; omega) hr5).mono ?_; rintro e w1 ⟨rfl, hb1⟩; obtain ⟨f0, f1, f2, f3, f4⟩ := cells5 ((hb1.block w.heap.size (by simp; omega)).trans hw1.out)) | (go_at_call 167; refine (i_meets P (at5 r) _).mono ?_; rintro e w2 ⟨rfl, hb2⟩; rw [HM.out]))
        all_goals
          have hk2 := kept2 hw1 hBl hsz hb1 hb2
          have HQ : Hid (q + 1 = (t.take (k + 1)).countP fun r => meet5 P (at5 r)) := by
            show _ = _; rw [take_snoc hx.out, List.countP_append, ← hq.out]; simp [HM.out]
          clear hb1 hb2 hBl hw1 hq
          go_wp2
          go_roundw
          case rel => exact ⟨k + 1, q + 1, by omega, by go_num, by go_num, by omega, HQ, hk2.1, hk2.2.1, hk2.2.2⟩
          case measure => simp [intOf]; omega
    · go_wp2
      go_ret
      refine ⟨?_, hBl⟩
      have h := hq.out
      rw [List.take_of_length_le (by omega)] at h
      rw [← h]; rfl

end Go.Proofs.Ytehoagbpgahopaa
