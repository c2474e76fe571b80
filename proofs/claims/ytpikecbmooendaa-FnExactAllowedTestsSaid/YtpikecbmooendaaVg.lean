/- Walks: the tests that are not banned, by the program. -/
import Derived.Test.YtpikecbmooendaaVf
import Derived.Test.YtpikecbmooendaaZy
import Derived.Test.YtpikecbmooendaaZd
namespace Go.Proofs.Ytpikecbmooendaa
open Go.RowKit

/-- those of some patterns in which none of the bans is -/
def ubP (b ps : List (List Int)) : List (List Int) := ps.filter fun l => !fbB b (at5 l)
theorem ub_zero (ps : List (List Int)) : ubP [] ps = ps := by
  unfold ubP fbB; rw [List.filter_eq_self]; intro x _; rfl
theorem ub_step {b ps : List (List Int)} {k : Nat} {p : List Int} (hx : b[k]? = some p) : (ubP (b.take k) ps).filter (fun l => !meet5 (at5 p) (at5 l)) = ubP (b.take (k + 1)) ps := by
  unfold ubP fbB
  rw [List.filter_filter]
  apply List.filter_congr
  intro l _
  rw [take_snoc hx, List.any_append]
  simp [Bool.and_comm]
theorem ub_len (b ps : List (List Int)) : (ubP b ps).length ≤ ps.length := List.length_filter_le _ _

set_option maxRecDepth 100000 in
set_option maxHeartbeats 4000000 in
theorem i_unbanned {b ps : List (List Int)} {vb v mv : Value} {Bn B : Nat} {w0 w : World} (ho : OwnBn w0 Bn vb b) (hb0 : Below w0.heap.size w0 w) (hbl : b.length ≤ 1048576) (hp : OwnP w B v ps) (hB : w0.heap.size ≤ B) (hl : ps.length ≤ 1048576) :
    Calls Try.prog 118 #[.agg #[mv, vb], v] w (fun e w' => ∃ v', e = .returned v' ∧ OwnP w' B v' (ubP b ps) ∧ GrP w w' v v') := by
  obtain ⟨a, c, rfl, hat⟩ := ho.at
  obtain ⟨av, cv, rfl, _⟩ := hp.at
  have HAT := Lib.hid hat
  obtain ⟨M, hM⟩ : ∃ M, b.length = M := ⟨_, rfl⟩
  have HNN := Lib.hid hM
  have hMl : M ≤ 1048576 := by omega
  have hs0 := hb0.size
  have hltp := hp.lt
  rw [hM]
  clear hat ho hM hbl
  have hA := heap_alloc_new w (.cells #[mv, .slice a M c] 98)
  have h1 := cell_of_row _ _ 1 _ _ _ hA
  have h0 := cell_of_row _ _ 0 _ _ _ hA
  simp at h0 h1
  have hbA := (Below.refl w.heap.size w).alloc (Nat.le_refl _) (.cells #[mv, .slice a M c] 98)
  have hpA : OwnP (w.alloc (.cells #[mv, .slice a M c] 98)) B (.slice av ps.length cv) ps := hp.kept fun k hk _ => hbA.block k hk
  have hgA : GrP w (w.alloc (.cells #[mv, .slice a M c] 98)) (.slice av ps.length cv) (.slice av ps.length cv) := (GrP.refl w _).alloc _
  clear hA hp
  go_enter Try.func118, Try.ntmps118
  go_wp2
  clear h0 h1
  go_loopw [1, 10] (fun v i wr => ∃ (k : Nat) (a1 : Option Addr) (c1 : Nat) (l : List (List Int)), k ≤ M ∧ i = .int .i64 k ∧ v = .slice a1 l.length c1 ∧ OwnP wr B (.slice a1 l.length c1) l ∧ GrP w wr (.slice av ps.length cv) (.slice a1 l.length c1) ∧ Hid (l = ubP (b.take k) ps)) (fun _ i _ => M - (intOf i).toNat)
  case atStart => exact ⟨0, av, cv, ps, Nat.zero_le _, rfl, rfl, hpA, hgA, (ub_zero ps).symm⟩
  case round =>
    clear hpA hgA
    obtain ⟨k, a1, c1, l, hk, rfl, rfl, hpr, hgr, hL⟩ := hrel
    have hz := hgr.gr.size
    have hll : l.length ≤ 1048576 := by rw [hL.out]; exact Nat.le_trans (ub_len _ _) hl
    by_cases hlt : k < M
    · obtain ⟨p, hx⟩ := at_of_lt (show k < b.length by have := HNN.out; omega)
      obtain ⟨g, hg1, hg2, hidx, hcs⟩ := HAT.out k p hx
      have HX := Lib.hid hx
      rw [HNN.out] at hidx
      have hbW : Below w0.heap.size w0 wr := hb0.trans (hgr.below (fun g hg => by have := (hltp g hg).1; omega) hs0)
      have hc (j : Nat) (hj : j < 10) : wr.cell? ⟨g, k * 10 + j, none⟩ = (csB p)[j]? := (hbW.cell (p := ⟨g, k * 10 + j, none⟩) hg2).trans (hcs j hj)
      have hc0 : wr.cell? ⟨g, k * 10, none⟩ = some (.bool (bF (at5 p) 0)) := hc 0 (by omega)
      have hc1 : wr.cell? ⟨g, k * 10 + 1, none⟩ = some (.bool (bF (at5 p) 1)) := hc 1 (by omega)
      have hc2 : wr.cell? ⟨g, k * 10 + 2, none⟩ = some (.bool (bF (at5 p) 2)) := hc 2 (by omega)
      have hc3 : wr.cell? ⟨g, k * 10 + 3, none⟩ = some (.bool (bF (at5 p) 3)) := hc 3 (by omega)
      have hc4 : wr.cell? ⟨g, k * 10 + 4, none⟩ = some (.bool (bF (at5 p) 4)) := hc 4 (by omega)
      have hc5 : wr.cell? ⟨g, k * 10 + 5, none⟩ = some (.int .i64 (bnL (bF (at5 p)) (at5 p) 0)) := hc 5 (by omega)
      have hc6 : wr.cell? ⟨g, k * 10 + 6, none⟩ = some (.int .i64 (bnL (bF (at5 p)) (at5 p) 1)) := hc 6 (by omega)
      have hc7 : wr.cell? ⟨g, k * 10 + 7, none⟩ = some (.int .i64 (bnL (bF (at5 p)) (at5 p) 2)) := hc 7 (by omega)
      have hc8 : wr.cell? ⟨g, k * 10 + 8, none⟩ = some (.int .i64 (bnL (bF (at5 p)) (at5 p) 3)) := hc 8 (by omega)
      have hc9 : wr.cell? ⟨g, k * 10 + 9, none⟩ = some (.int .i64 (bnL (bF (at5 p)) (at5 p) 4)) := hc 9 (by omega)
      have hbox := heap_alloc_new wr (.cells #[.bool (bF (at5 p) 0), .bool (bF (at5 p) 1), .bool (bF (at5 p) 2), .bool (bF (at5 p) 3), .bool (bF (at5 p) 4), .int .i64 (bnL (bF (at5 p)) (at5 p) 0), .int .i64 (bnL (bF (at5 p)) (at5 p) 1), .int .i64 (bnL (bF (at5 p)) (at5 p) 2), .int .i64 (bnL (bF (at5 p)) (at5 p) 3), .int .i64 (bnL (bF (at5 p)) (at5 p) 4)] 108)
      obtain ⟨⟨e0, e1, e2, e3, e4⟩, e5, e6, e7, e8, e9⟩ := cells10 hbox
      have hbB := (Below.refl wr.heap.size wr).alloc (Nat.le_refl _) (.cells #[.bool (bF (at5 p) 0), .bool (bF (at5 p) 1), .bool (bF (at5 p) 2), .bool (bF (at5 p) 3), .bool (bF (at5 p) 4), .int .i64 (bnL (bF (at5 p)) (at5 p) 0), .int .i64 (bnL (bF (at5 p)) (at5 p) 1), .int .i64 (bnL (bF (at5 p)) (at5 p) 2), .int .i64 (bnL (bF (at5 p)) (at5 p) 3), .int .i64 (bnL (bF (at5 p)) (at5 p) 4)] 108)
      have hpB : OwnP (wr.alloc (.cells #[.bool (bF (at5 p) 0), .bool (bF (at5 p) 1), .bool (bF (at5 p) 2), .bool (bF (at5 p) 3), .bool (bF (at5 p) 4), .int .i64 (bnL (bF (at5 p)) (at5 p) 0), .int .i64 (bnL (bF (at5 p)) (at5 p) 1), .int .i64 (bnL (bF (at5 p)) (at5 p) 2), .int .i64 (bnL (bF (at5 p)) (at5 p) 3), .int .i64 (bnL (bF (at5 p)) (at5 p) 4)] 108)) B (.slice a1 l.length c1) l := hpr.kept fun k hk _ => hbB.block k hk
      have hcall := Lib.hid (x_DelIn (.agg #[.bool (bF (at5 p) 0), .bool (bF (at5 p) 1), .bool (bF (at5 p) 2), .bool (bF (at5 p) 3), .bool (bF (at5 p) 4), .int .i64 (bnL (bF (at5 p)) (at5 p) 0), .int .i64 (bnL (bF (at5 p)) (at5 p) 1), .int .i64 (bnL (bF (at5 p)) (at5 p) 2), .int .i64 (bnL (bF (at5 p)) (at5 p) 3), .int .i64 (bnL (bF (at5 p)) (at5 p) 4)]) (fun q => meet5 (at5 p) (at5 q)) hpB hll (fun q _ w' _ => by
        have h := i_isIn (bF (at5 p)) (bnL (bF (at5 p)) (at5 p)) (at5 q) w'
        rw [mt_meet] at h; exact h))
      have HU := Lib.hid (ub_step (ps := ps) hx)
      clear hc hcs hx hbox hpB hpr
      go_wp2_with fail
      refine hcall.out.mono ?_
      rintro e w2 ⟨v2, rfl, hp2, hg2⟩
      obtain ⟨a2, c2, rfl, _⟩ := hp2.at
      have hL2 : Hid (l.filter (fun q => !meet5 (at5 p) (at5 q)) = ubP (b.take (k + 1)) ps) := by
        show _ = _; rw [hL.out]; exact HU.out
      have hgr2 := (hgr.alloc (.cells #[.bool (bF (at5 p) 0), .bool (bF (at5 p) 1), .bool (bF (at5 p) 2), .bool (bF (at5 p) 3), .bool (bF (at5 p) 4), .int .i64 (bnL (bF (at5 p)) (at5 p) 0), .int .i64 (bnL (bF (at5 p)) (at5 p) 1), .int .i64 (bnL (bF (at5 p)) (at5 p) 2), .int .i64 (bnL (bF (at5 p)) (at5 p) 3), .int .i64 (bnL (bF (at5 p)) (at5 p) 4)] 108)).trans hg2
      clear hc0 hc1 hc2 hc3 hc4 hc5 hc6 hc7 hc8 hc9 e0 e1 e2 e3 e4 e5 e6 e7 e8 e9 hgr hbB hbW hg2
      go_wp2
      go_roundw
      case rel => exact ⟨k + 1, a2, c2, _, by omega, by go_num, rfl, hp2, hgr2, hL2.out⟩
      case measure => simp [intOf]; omega
    · have HKE : Hid (l = ubP b ps) := by show _ = _; rw [hL.out, List.take_of_length_le (by have := HNN.out; omega)]
      go_wp2
      go_ret
      rw [← HKE.out]
      exact ⟨_, rfl, hpr, hgr⟩

theorem ub_ext {m : List Int} {b : List (List Int)} (hok : okM m = true) (hob : okBn m b = true) : ubP b (extS m []) = alL m b := by
  unfold ubP alL
  apply List.filter_congr
  intro x hx
  have hxl := ext_row x hx
  have hm5 := (okM_len hok).2
  congr 1
  unfold fbB bnB
  rw [Bool.eq_iff_iff, List.any_eq_true, List.any_eq_true]
  constructor
  · rintro ⟨p, h1, h2⟩
    exact ⟨p, h1, by rwa [meet5_mB (by rw [okW_len (okBn_all hob h1), hxl]) (by rw [okW_len (okBn_all hob h1)]; exact hm5)] at h2⟩
  · rintro ⟨p, h1, h2⟩
    exact ⟨p, h1, by rwa [meet5_mB (by rw [okW_len (okBn_all hob h1), hxl]) (by rw [okW_len (okBn_all hob h1)]; exact hm5)]⟩

set_option maxRecDepth 100000 in
set_option maxHeartbeats 4000000 in
theorem i_allowed {m : List Int} {b : List (List Int)} {v : Value} {a : Option Addr} {c lo hi B : Nat} {w0 w : World} (hm : RI w lo hi a m) (hhi : hi ≤ w.heap.size) (ho : OwnBn w0 B v b) (hb0 : Below w0.heap.size w0 w) (hok : okM m = true) (hob : okBn m b = true) :
    Calls Try.prog 115 #[.agg #[.slice a m.length c, v]] w (NewP w (alL m b)) := by
  have hs0 := hb0.size
  have hm5 := okM_len hok
  have HOK := Lib.hid hok; have HOB := Lib.hid hob
  have hA := Lib.hid (heap_alloc_new w (.cells #[.slice a m.length c, v] 98))
  have hbA := (Below.refl w.heap.size w).alloc (Nat.le_refl _) (.cells #[.slice a m.length c, v] 98)
  obtain ⟨W, hWe⟩ : ∃ W, w.alloc (.cells #[.slice a m.length c, v] 98) = W := ⟨_, rfl⟩
  have hWs : W.heap.size = w.heap.size + 1 := by rw [← hWe]; simp
  rw [hWe] at hA hbA
  have hmW := hm.below hbA hhi
  have HS : Hid (∀ w', Below W.heap.size W w' → w'.cell? ⟨w.heap.size, 0, none⟩ = some (.slice a m.length c) ∧ w'.cell? ⟨w.heap.size, 1, none⟩ = some v) := fun w' hb => by
    have h := (hb.block w.heap.size (by omega)).trans hA.out
    rw [cell_of_row _ _ 0 _ _ _ h, cell_of_row _ _ 1 _ _ _ h]; exact ⟨rfl, rfl⟩
  have hq1 : Below W.heap.size W W := Below.refl _ _
  obtain ⟨ps, hps⟩ : ∃ ps, extS m [] = ps := ⟨_, rfl⟩
  have hpl : ps.length ≤ 1024 := by rw [← hps]; exact ext_len hok
  have HC1 : Hid (Calls Try.prog 86 #[.slice a m.length c] W.drew (fun e w' => e = .returned (.func (.func 160) #[] #[.pointer (some ⟨W.heap.size, 0, none⟩)]) ∧ w'.heap[W.heap.size]? = some (.cells #[.slice a m.length c] 22 (0, 0)) ∧ Below W.heap.size W w' ∧ W.heap.size + 1 ≤ w'.heap.size)) := by
    refine (i_testsOf (m := m) (a := a) (c := c) (w := W.drew)).mono ?_
    rintro e w' ⟨rfl, rfl⟩
    refine ⟨rfl, heap_alloc_new W.drew _, ((Below.refl _ W).drew).alloc (Nat.le_refl _) _, by simp⟩
  have HC2 : Hid (∀ w2, Below W.heap.size W w2 → W.heap.size + 1 ≤ w2.heap.size → w2.heap[W.heap.size]? = some (.cells #[.slice a m.length c] 22 (0, 0)) → Calls Try.prog 98 #[.func (.func 160) #[] #[.pointer (some ⟨W.heap.size, 0, none⟩)]] w2 (NewP w2 ps)) := fun w2 hb hz hbx => by
    rw [← hps]
    exact x_CollectP (enters_of Try.func160 (by kernel_rfl) rfl) (testsOf1_seq (n₀ := w2.heap.size) HOK.out (hmW.below hb (by omega)) (by omega) hbx (by omega) (Nat.le_refl _)) (Nat.le_refl _) (Below.refl _ _) (by rw [hps]; omega)
  have HC3 : Hid (∀ w3 v3, Below W.heap.size W w3 → OwnP w3 W.heap.size v3 ps → Calls Try.prog 118 #[.agg #[.slice a m.length c, v], v3] w3 (fun e w' => ∃ v', e = .returned v' ∧ OwnP w' W.heap.size v' (alL m b) ∧ GrP w3 w' v3 v')) := fun w3 v3 hb hop => by
    rw [← ub_ext HOK.out HOB.out, hps]
    exact i_unbanned ho (hb0.trans ((hbA.trans (hb.mono (by omega))).mono hs0)) (by have := okBn_len HOB.out; omega) hop (by omega) (by omega)
  have hWl : w.heap.size + 1 ≤ W.heap.size ∧ W.heap.size ≤ w.heap.size + 1 := by omega
  clear hok hob hm hmW hps hWs
  go_enter Try.func115, Try.ntmps115
  go_wp2_with fail
  try rw [hWe]
  clear hWe
  go_region_held3 (fun w' => w'.cell? ⟨w.heap.size, 0, none⟩ = some (.slice a m.length c) ∧ w'.cell? ⟨w.heap.size, 1, none⟩ = some v)
    (first | exact HS.out _ (by first | exact hq4 | exact hq3 | exact hq2 | exact hq1.drew | exact hq1) | go_keep) ((first
    | (go_at_call 86; refine HC1.out.mono ?_; rintro e w2 ⟨rfl, hbx2, hq2, hz2⟩)
    | (go_at_call 98; refine (HC2.out w2 hq2 hz2 hbx2).mono ?_; rintro e w3 ⟨v3, rfl, ho3, hb3⟩; have hq3 : Below W.heap.size W w3 := hq2.trans (hb3.mono (by omega)))
    | (go_at_call 118; refine (HC3.out w3 v3 hq3 (ho3.mono (by omega))).mono ?_; rintro e w4 ⟨v4, rfl, ho4, hg4⟩; have hq4 : Below W.heap.size W w4 := hq3.trans (hg4.below (fun g hg => by have := (ho3.lt g hg).1; omega) (by have := hq3.size; omega)))))
  all_goals
    have hbF := hbA.trans (hq4.mono (by omega))
    go_wp2
    go_ret
    exact ⟨_, rfl, ho4.mono (by omega), hbF⟩

end Go.Proofs.Ytpikecbmooendaa
