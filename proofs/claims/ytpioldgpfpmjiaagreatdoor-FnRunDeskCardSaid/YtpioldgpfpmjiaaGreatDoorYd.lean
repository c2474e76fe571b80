/- Walks: FreshOf. -/
import Derived.Test.YtpioldgpfpmjiaaGreatDoorYb
namespace Go.Proofs.YtpioldgpfpmjiaaGreatDoor
open Go.RowKit


set_option maxRecDepth 100000 in
set_option maxHeartbeats 2000000 in
theorem i_unmetBy {ps : List (List Int)} {v : Value} {B : Nat} {w0 w : World} (T : Nat → Int) (ho : OwnP w0 B v ps) (hb0 : Below w0.heap.size w0 w) (hl : ps.length ≤ 1048576) :
    Calls Tryz.prog 103 #[v, .agg #[.int .i64 (T 0), .int .i64 (T 1), .int .i64 (T 2), .int .i64 (T 3), .int .i64 (T 4)]] w (NewP w (unP ps T)) := by
  obtain ⟨a, c, rfl, hat⟩ := ho.at
  have HAT := Lib.hid hat
  obtain ⟨M, hM⟩ : ∃ M, ps.length = M := ⟨_, rfl⟩
  have HNN := Lib.hid hM
  have hMl : M ≤ 1048576 := by omega
  have hs0 := hb0.size
  rw [hM]
  clear hat ho hM hl
  have hw1 : (w.alloc (.cells #[.int .i64 (T 0), .int .i64 (T 1), .int .i64 (T 2), .int .i64 (T 3), .int .i64 (T 4)] 130)).heap[w.heap.size]? = some (.cells #[.int .i64 (T 0), .int .i64 (T 1), .int .i64 (T 2), .int .i64 (T 3), .int .i64 (T 4)] 130 (0, 0)) := heap_alloc_new _ _
  have hst : Below (w.heap.size + 1) (w.alloc (.cells #[.int .i64 (T 0), .int .i64 (T 1), .int .i64 (T 2), .int .i64 (T 3), .int .i64 (T 4)] 130)) (w.alloc (.cells #[.int .i64 (T 0), .int .i64 (T 1), .int .i64 (T 2), .int .i64 (T 3), .int .i64 (T 4)] 130)) := Below.refl _ _
  have hbW := (Below.refl w.heap.size w).alloc (Nat.le_refl _) (.cells #[.int .i64 (T 0), .int .i64 (T 1), .int .i64 (T 2), .int .i64 (T 3), .int .i64 (T 4)] 130)
  obtain ⟨W, hW⟩ : ∃ W, w.alloc (.cells #[.int .i64 (T 0), .int .i64 (T 1), .int .i64 (T 2), .int .i64 (T 3), .int .i64 (T 4)] 130) = W := ⟨_, rfl⟩
  have hWs : w.heap.size + 1 ≤ W.heap.size := by rw [← hW]; simp
  rw [hW] at hw1 hst hbW
  go_enter Tryz.func103, Tryz.ntmps103
  go_wp2
  clear hW
  go_loopw [5, 10] (fun v i wr => ∃ k : Nat, k ≤ M ∧ i = .int .i64 k ∧ OwnP wr (w.heap.size + 1) v (unP (ps.take k) T) ∧ Below (w.heap.size + 1) W wr) (fun _ i _ => M - (intOf i).toNat)
  case atStart => exact ⟨0, Nat.zero_le _, rfl, OwnP.nil _ _, hst⟩
  case round =>
    clear hst
    obtain ⟨k, hk, rfl, hown, hB3⟩ := hrel
    have hz3 := hB3.size
    by_cases hlt : k < M
    · obtain ⟨l, hx⟩ := at_of_lt (show k < ps.length by have := HNN.out; omega)
      obtain ⟨g, hg1, hg2, hidx, hcs⟩ := HAT.out k l hx
      have HX := Lib.hid hx
      rw [HNN.out] at hidx
      have hBl3 : Below w0.heap.size w0 wr := (hb0.trans (hbW.mono (by omega))).trans (hB3.mono (by omega))
      have hc (j : Nat) (hj : j < 5) : wr.cell? ⟨g, k * 5 + j, none⟩ = some (.int .i64 (at5 l j)) := (hBl3.cell (p := ⟨g, k * 5 + j, none⟩) hg2).trans (hcs j hj)
      have hc0 := hc 0 (by omega)
      have hc1 := hc 1 (by omega)
      have hc2 := hc 2 (by omega)
      have hc3' := hc 3 (by omega)
      have hc4 := hc 4 (by omega)
      simp only [Nat.add_zero] at hc0
      clear hc hcs hx
      have hbA := (Below.refl wr.heap.size wr).alloc (Nat.le_refl _) (.cells #[.int .i64 (at5 l 0), .int .i64 (at5 l 1), .int .i64 (at5 l 2), .int .i64 (at5 l 3), .int .i64 (at5 l 4)] 130)
      have hw1A : (wr.alloc (.cells #[.int .i64 (at5 l 0), .int .i64 (at5 l 1), .int .i64 (at5 l 2), .int .i64 (at5 l 3), .int .i64 (at5 l 4)] 130)).heap[w.heap.size]? = some (.cells #[.int .i64 (T 0), .int .i64 (T 1), .int .i64 (T 2), .int .i64 (T 3), .int .i64 (T 4)] 130 (0, 0)) := (hbA.block _ (by omega)).trans ((hB3.block _ (by omega)).trans hw1)
      obtain ⟨f0, f1, f2, f3, f4⟩ := cells5 hw1A
      have hml := unP_len ps T k
      have hln := HNN.out
      have hownA : OwnP (wr.alloc (.cells #[.int .i64 (at5 l 0), .int .i64 (at5 l 1), .int .i64 (at5 l 2), .int .i64 (at5 l 3), .int .i64 (at5 l 4)] 130)) (w.heap.size + 1) _ (unP (ps.take k) T) := hown.kept fun j hj _ => hbA.block j hj
      have hlt' := hown.lt
      clear hw1A
      cases hm : meet5 (at5 l) T
      · have HM := Lib.hid hm; clear hm
        have HU := Lib.hid (unP_step HX.out HM.out)
        go_wp2_with fail
        refine (i_meets (at5 l) T _).mono ?_
        rintro e w2 ⟨rfl, hb2⟩
        rw [HM.out]
        have hown2 : OwnP w2 (w.heap.size + 1) _ (unP (ps.take k) T) := hownA.kept fun j hj _ => hb2.block j hj
        have hb02 := hbA.trans (hb2.mono (by simp))
        have hs2 := hb02.size
        obtain ⟨e0, e1, e2, e3, e4⟩ := cells5 ((hb2.block wr.heap.size (by simp)).trans (heap_alloc_new wr (.cells #[.int .i64 (at5 l 0), .int .i64 (at5 l 1), .int .i64 (at5 l 2), .int .i64 (at5 l 3), .int .i64 (at5 l 4)] 130)))
        clear hownA hown f0 f1 f2 f3 f4 hc0 hc1 hc2 hc3' hc4 hbA hb2
        go_wp2_with (first
          | (at_builtin; refine wpList_appP rfl _ _ rfl (w.heap.size + 1) _ (unP (ps.take k) T) rfl hown2 l _ rfl rfl (by omega) (by omega) ?_; intro v5 w5 hown5 hg5)
          | go_in)
        rw [← HU.out] at hown5
        have hB5 : Below (w.heap.size + 1) W w5 := (hB3.trans (hb02.mono (by omega))).trans (hg5.below (fun g hg => (hlt' g hg).1) (by omega))
        clear hg5 hlt' hown2 hb02 hB3
        go_roundw
        case rel => exact ⟨k + 1, by omega, by go_num, hown5, hB5⟩
        case measure => simp [intOf]; omega
      · have HM := Lib.hid hm; clear hm
        have HU := Lib.hid (unP_skip HX.out HM.out)
        go_wp2_with fail
        refine (i_meets (at5 l) T _).mono ?_
        rintro e w2 ⟨rfl, hb2⟩
        rw [HM.out]
        have hown2 : OwnP w2 (w.heap.size + 1) _ (unP (ps.take k) T) := hownA.kept fun j hj _ => hb2.block j hj
        have hb02 := hbA.trans (hb2.mono (by simp))
        rw [← HU.out] at hown2
        have hB5 : Below (w.heap.size + 1) W w2 := hB3.trans (hb02.mono (by omega))
        clear hownA hown f0 f1 f2 f3 f4 hc0 hc1 hc2 hc3' hc4 hbA hb2 hlt' hb02 hB3
        go_wp2
        go_roundw
        case rel => exact ⟨k + 1, by omega, by go_num, hown2, hB5⟩
        case measure => simp [intOf]; omega
    · have HKE : Hid (ps.take k = ps) := List.take_of_length_le (by have := HNN.out; omega)
      go_wp2
      go_ret
      rw [HKE.out] at hown
      exact ⟨_, rfl, hown.mono (by omega), hbW.trans (hB3.mono (by omega))⟩


set_option maxHeartbeats 1000000 in
theorem s_fresh {ps : List (List Int)} {x : List Int} {a a' : Option Addr} {c c' lo hi lo' hi' : Nat} {w : World} (hp : RII w lo hi a ps) (hx : RI w lo' hi' a' x) (hl : ps.length ≤ 1048576) (hxl : x.length ≤ 1048576) (hr : ∀ p ∈ ps, p.length ≤ x.length) :
    Calls Tryz.prog 64 #[.slice a ps.length c, .slice a' x.length c'] w (RO w (.int .i64 (frP ps x))) := by
  have HR := Lib.hid hr; clear hr
  go_enter Tryz.func64, Tryz.ntmps64
  go_wp2
  go_loopw [5, 6] (fun v i wr => ∃ k q : Nat, k ≤ ps.length ∧ i = .int .i64 k ∧ v = .int .i64 q ∧ q ≤ k ∧ Hid (q = frP (ps.take k) x) ∧ Dr w wr) (fun _ i _ => ps.length - (intOf i).toNat)
  case atStart => exact ⟨0, 0, Nat.zero_le _, rfl, rfl, Nat.le_refl _, by simp [Hid, frP], Dr.refl _⟩
  case round =>
    obtain ⟨k, q, hk, rfl, rfl, hqk, hq, hd⟩ := hrel
    by_cases hlt : k < ps.length
    · obtain ⟨b, o, a1, c1, r, ha, _, _, hcell, hr1, hxx⟩ := (hp.dr hd).at hlt
      have hidx := idxII ha hlt c
      have hrl := HR.out r (List.mem_of_getElem? hxx.out)
      have hx1 := hx.dr hd
      have HF := Lib.hid (frP_step (x := x) hxx.out)
      clear ha hp hx
      cases hm : mB r x
      · have HM := Lib.hid hm; clear hm
        have HQ : Hid (q = frP (ps.take (k + 1)) x) := by show _ = _; rw [HF.out, HM.out, ← hq.out]; rfl
        go_wp2_with fail
        refine (s_matches hr1 hx1 hrl (by omega)).mono ?_
        rintro e w1 ⟨rfl, hd1⟩
        rw [HM.out]
        go_wp2
        go_roundw
        case rel => exact ⟨k + 1, q, by omega, by go_num, rfl, by omega, HQ, Dr.trans hd hd1⟩
        case measure => simp [intOf]; omega
      · have HM := Lib.hid hm; clear hm
        have HQ : Hid (q + 1 = frP (ps.take (k + 1)) x) := by show _ = _; rw [HF.out, HM.out, ← hq.out]; rfl
        go_wp2_with fail
        refine (s_matches hr1 hx1 hrl (by omega)).mono ?_
        rintro e w1 ⟨rfl, hd1⟩
        rw [HM.out]
        go_wp2
        go_roundw
        case rel => exact ⟨k + 1, q + 1, by omega, by go_num, by go_num, by omega, HQ, Dr.trans hd hd1⟩
        case measure => simp [intOf]; omega
    · go_wp2
      go_ret
      refine hd.intD ?_
      have h := hq.out
      rw [List.take_of_length_le (by omega)] at h
      rw [h]

def frV (m : List Int) (s : List (List Int)) (x : List Int) (t : Int) : Int := if okC m s t && okT m x then frP (misL m s t) x else -1
theorem fr_yes {m : List Int} {s : List (List Int)} {x : List Int} {t : Int} (h : okC m s t = true) (h' : okT m x = true) : frV m s x t = frP (misL m s t) x := by unfold frV; rw [h, h']; rfl
theorem fr_no {m : List Int} {s : List (List Int)} {x : List Int} {t : Int} (h : okC m s t = false ∨ okT m x = false) : frV m s x t = -1 := by unfold frV; rcases h with h | h <;> rw [h] <;> simp
theorem fr_un {m : List Int} {s : List (List Int)} {x : List Int} {t : Int} (hx : x.length = m.length) (h5 : m.length ≤ 5) : ((misL m s t).length : Int) - (unP (misL m s t) (at5 x)).length = frP (misL m s t) x := by
  have h1 := filt_len (misL m s t) fun p => meet5 (at5 p) (at5 x)
  have h2 : (misL m s t).countP (fun p => meet5 (at5 p) (at5 x)) = frP (misL m s t) x := by
    unfold frP
    apply List.countP_congr
    intro p hp
    rw [meet5_mB (by rw [misL_row p hp, hx]) (by rw [misL_row p hp]; exact h5)]
  rw [h2] at h1
  unfold unP
  omega

end Go.Proofs.YtpioldgpfpmjiaaGreatDoor
