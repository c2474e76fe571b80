/- Walks: the elements of a slice of patterns by an iterator; GrowAllowed. -/
import Derived.Test.YtehoagbpgahopaaVb
import Derived.Test.YtehoagbpgahopaaVe
import Derived.Test.YtehoagbpgahopaaZl
import Derived.Test.YtehoagbpgahopaaZu
import Derived.Test.YtehoagbpgahopaaYh
namespace Go.Proofs.Ytehoagbpgahopaa
open Go.RowKit Go.Shelf

attribute [local go_sem] Oper.semAt_some

theorem x_ValuesP {a : Option Addr} {n c : Nat} {w : World} :
    Calls Try.prog 194 #[.slice a n c] w (fun e w' => e = .returned (.func (.func 245) #[] #[.pointer (some ⟨w.heap.size, 0, none⟩)]) ∧ w' = w.alloc (.cells #[.slice a n c] 105)) := by
  go_enter Try.func194, Try.ntmps194
  go_wp2
  go_ret
  exact ⟨rfl, rfl⟩

set_option maxRecDepth 100000 in
set_option maxHeartbeats 2000000 in
theorem valuesP_seq {xs : List (List Int)} {v : Value} {B b n₀ : Nat} {w0 w : World} (ho : OwnP w0 B v xs) (hb0 : Below w0.heap.size w0 w) (hn0 : w0.heap.size ≤ n₀) (hl : xs.length ≤ 1048576) (hb : w.heap[b]? = some (.cells #[v] 105 (0, 0))) (hbn : b < n₀) (hn : n₀ ≤ w.heap.size) :
    SeqO Try.prog 245 #[.pointer (some ⟨b, 0, none⟩)] (fun x : List Int => #[.agg #[.int .i64 (at5 x 0), .int .i64 (at5 x 1), .int .i64 (at5 x 2), .int .i64 (at5 x 3), .int .i64 (at5 x 4)]]) xs n₀ 0 0 0 w := by
  intro n l J Jx W hW hJ hY h0
  obtain ⟨a, c, rfl, hat⟩ := ho.at
  have HAT := Lib.hid hat
  obtain ⟨M, hM⟩ : ∃ M, xs.length = M := ⟨_, rfl⟩
  have HNN := Lib.hid hM
  have hMl : M ≤ 1048576 := by omega
  rw [hM] at hb
  have hws := hW.size
  have hcb : W.cell? ⟨b, 0, none⟩ = some (.slice a M c) := by
    rw [cell_of_row _ _ 0 _ _ _ ((hW.block b hbn).trans hb)]; rfl
  clear hat ho hM hl
  refine callsIn_of_wp Try.func245 rfl trivial ?_ rfl
  simp only [Try.ntmps245, List.size_toArray, List.length_cons, List.length_nil, Nat.reduceAdd, Nat.reduceSub, Array.replicate_succ, Array.replicate_zero, List.push_toArray, List.append_toArray, List.nil_append, List.cons_append]
  gi_wp2
  gi_loopw [7] (fun i wr => ∃ k : Nat, k ≤ M ∧ i = .int .i64 k ∧ J (xs.take k) wr ∧ Below n₀ w wr ∧ W.heap.size ≤ wr.heap.size) (fun i _ => M - (intOf i).toNat)
  case atStart => exact ⟨0, Nat.zero_le _, rfl, by simpa using h0, hW, Nat.le_refl _⟩
  case round =>
    obtain ⟨k, hk, rfl, hj, hbw, hsz⟩ := hrel
    by_cases hlt : k < M
    · obtain ⟨x, hx⟩ := at_of_lt (show k < xs.length by have := HNN.out; omega)
      obtain ⟨g, hg1, hg2, hidx, hcs⟩ := HAT.out k x hx
      have HX := Lib.hid hx
      rw [HNN.out] at hidx
      have hbx : Below w0.heap.size w0 wr := hb0.trans (hbw.mono hn0)
      have hc (j : Nat) (hj : j < 5) : wr.cell? ⟨g, k * 5 + j, none⟩ = some (.int .i64 (at5 x j)) := (hbx.cell (p := ⟨g, k * 5 + j, none⟩) hg2).trans (hcs j hj)
      have hc0 := hc 0 (by omega)
      have hc1 := hc 1 (by omega)
      have hc2 := hc 2 (by omega)
      have hc3 := hc 3 (by omega)
      have hc4 := hc 4 (by omega)
      simp only [Nat.add_zero] at hc0
      obtain ⟨e0, e1, e2, e3, e4⟩ := cells5' (heap_alloc_new wr (.cells #[.int .i64 (at5 x 0), .int .i64 (at5 x 1), .int .i64 (at5 x 2), .int .i64 (at5 x 3), .int .i64 (at5 x 4)] 97))
      obtain ⟨fn, tmps, assign, body, hy, hR⟩ := hY (xs.take k) x (wr.alloc (.cells #[.int .i64 (at5 x 0), .int .i64 (at5 x 1), .int .i64 (at5 x 2), .int .i64 (at5 x 3), .int .i64 (at5 x 4)] 97)) (hJ _ _ _ hj ((Up2.refl _ _ _ _ wr).alloc _)) (by rw [← take_snoc hx]; exact List.take_prefix _ _) (by simp; omega)
      rw [← take_snoc hx] at hR
      try dsimp only at hy
      clear hc hcs hx
      gi_wp2
      refine hR.mono ?_
      rintro e W3 (⟨rfl, hj3, hk3, hb3⟩ | ⟨rfl, hx3⟩)
      · clear hR hy hc0 hc1 hc2 hc3 hc4 e0 e1 e2 e3 e4
        have hbA := (Below.refl n₀ wr).alloc (by omega) (.cells #[.int .i64 (at5 x 0), .int .i64 (at5 x 1), .int .i64 (at5 x 2), .int .i64 (at5 x 3), .int .i64 (at5 x 4)] 97)
        have hz3 := hb3.size
        simp only [World.size_alloc] at hz3
        have hbw3 := (hbw.trans hbA).trans hb3
        gi_wp2
        go_roundw
        case rel => exact ⟨k + 1, by omega, by go_num, hj3, hbw3, by omega⟩
        case measure => simp [intOf]; omega
      · gi_wp2
        refine bodyPost_ret (results_none rfl _ _ _) rfl ?_
        exact ⟨⟨_, rfl⟩, .inr ⟨_, List.take_prefix _ _, hx3⟩⟩
    · gi_wp2
      go_end0
      rw [List.take_of_length_le (by have := HNN.out; omega)] at hj
      exact ⟨⟨_, rfl⟩, .inl hj⟩

theorem pos_none {m : List Int} {b : List (List Int)} {t : Int} (h : alL m b = []) : posP m b t = [] := by
  unfold posP; rw [h, List.filter_eq_nil_iff]; intro x _; simp [hasP]

set_option maxRecDepth 100000 in
set_option maxHeartbeats 4000000 in
theorem i_GrowAllowed {m : List Int} {a : Option Addr} {c lo hi : Nat} {s : List (List Int)} {a1 : Option Addr} {c1 lo1 hi1 : Nat} {t : Int} {w : World} (hm : RI w lo hi a m) (hlm : m.length ≤ 9223372036854775807) (hs : RII w lo1 hi1 a1 s) (hls : s.length ≤ 9223372036854775807) (hg : ∀ r ∈ s, r.length ≤ 9223372036854775807) (_ht0 : -9223372036854775808 ≤ t) (_ht1 : t ≤ 9223372036854775807) (hB : hi ≤ w.heap.size) (hB1 : hi1 ≤ w.heap.size)  :
    Calls Try.prog 83 #[.slice a m.length c, .slice a1 s.length c1, .int .i64 t] w (NewIIB w (gaL m s t) (gaB m s t)) := by
  have HG := Lib.hid hg; clear hg
  have D0 : Dr w w := Dr.refl w
  cases hHIB : okM m && okBn m s
  · have HIB := Lib.hid hHIB; clear hHIB
    go_enter Try.func83, Try.ntmps83
    go_wp2_with fail
    refine (i_ValidBans (hm.dr D0) hlm (hs.dr D0) hls HG.out).mono ?_
    rintro e w1 ⟨rfl, d1⟩
    rw [HIB.out]
    have D1 := Dr.trans D0 d1
    clear d1
    go_wp2
    go_ret2
    exact NewIIB.none (ga_no (.inl (show bnT m s t = false by unfold bnT; rw [HIB.out]; rfl))) (Dr.below D1 _)
  have HIB := Lib.hid hHIB; clear hHIB
  cases hHIN : inR t 0 m.length
  · have HIN := Lib.hid hHIN; clear hHIN
    go_enter Try.func83, Try.ntmps83
    go_wp2_with fail
    refine (i_ValidBans (hm.dr D0) hlm (hs.dr D0) hls HG.out).mono ?_
    rintro e w1 ⟨rfl, d1⟩
    rw [HIB.out]
    have D1 := Dr.trans D0 d1
    clear d1
    go_wp2_with fail
    refine (i_isStrength hlm).mono ?_
    rintro e w2 ⟨rfl, d2⟩
    rw [HIN.out]
    have D2 := Dr.trans D1 d2
    clear d2
    go_wp2
    go_ret2
    exact NewIIB.none (ga_no (.inl (show bnT m s t = false by unfold bnT; rw [HIB.out, HIN.out]; rfl))) (Dr.below D2 _)
  have HIN := Lib.hid hHIN; clear hHIN
  have hE := HIB.out
  rw [Bool.and_eq_true] at hE
  have HOK := Lib.hid hE.1
  have HOB := Lib.hid hE.2
  clear hE
  have hsl := okBn_len HOB.out
  have HR := Lib.hid (bn_rows HOB.out)
  have hm5 := okM_len HOK.out
  have ht := inR_true.1 HIN.out
  have hbt := bnT_mk HOK.out HOB.out ht.1 ht.2
  have HGS : Hid (gaL m s t = grL (gaR m s t) ∧ gaB m s t = grB (gaR m s t)) := by
    show _ ∧ _
    unfold gaL gaB grL grB; rw [hbt, Bool.true_and]; exact ⟨rfl, rfl⟩
  have HPO := Lib.hid (po_yes hbt)
  have hln := poL_len (m := m) (b := s) (t := t)
  have hrw := poL_row (m := m) (b := s) (t := t)
  rw [HPO.out] at hln hrw
  have hal := alL_len2 (b := s) HOK.out
  have har := alL_row (m := m) (b := s)
  have hge : gaR m s t = grS (alL m s) 21 [] (posP m s t) := rfl
  have hnn := pos_none (m := m) (b := s) (t := t)
  obtain ⟨q, hq⟩ : ∃ q, posP m s t = q := ⟨_, rfl⟩
  obtain ⟨xs, hxs⟩ : ∃ xs, alL m s = xs := ⟨_, rfl⟩
  rw [hq] at hln hrw hge hnn
  rw [hxs] at hal har hge hnn
  have HLN := Lib.hid hln; have HRW := Lib.hid hrw; have HAL := Lib.hid hal; have HAR := Lib.hid har; have HGE := Lib.hid hge; have HNN := Lib.hid hnn; have HQ := Lib.hid hq; have HXS := Lib.hid hxs
  clear hln hrw hal har hge hnn hbt hq hxs
  go_enter Try.func83, Try.ntmps83
  go_wp2_with fail
  refine (i_ValidBans (hm.dr D0) hlm (hs.dr D0) hls HG.out).mono ?_
  rintro e w1 ⟨rfl, d1⟩
  rw [HIB.out]
  have D1 := Dr.trans D0 d1
  clear d1
  go_wp2_with fail
  refine (i_isStrength hlm).mono ?_
  rintro e w2 ⟨rfl, d2⟩
  rw [HIN.out]
  have D2 := Dr.trans D1 d2
  clear d2
  have Z2 := Dr.le D2
  go_wp2_with fail
  refine (i_rulesOf m.length (hs.dr D2) (by omega) hsl (fun r hr => by have := HR.out r hr; omega)).mono ?_
  rintro e w3 ⟨v, rfl, ho3, hb3⟩
  obtain ⟨va, vc, hv3, ho3⟩ := ho3.slice
  subst hv3
  have hz3 := hb3.size
  have hm3 := (hm.dr D2).below hb3 (by omega)
  have hA := Lib.hid (heap_alloc_new w3 (.cells #[.slice a m.length c, .slice va s.length vc] 93))
  have hbA := (Below.refl w3.heap.size w3).alloc (Nat.le_refl _) (.cells #[.slice a m.length c, .slice va s.length vc] 93)
  obtain ⟨W, hWe⟩ : ∃ W, w3.alloc (.cells #[.slice a m.length c, .slice va s.length vc] 93) = W := ⟨_, rfl⟩
  have hWs : W.heap.size = w3.heap.size + 1 := by rw [← hWe]; simp
  rw [hWe] at hA hbA
  have hWl : w3.heap.size + 1 ≤ W.heap.size ∧ W.heap.size ≤ w3.heap.size + 1 := by omega
  have HS : Hid (∀ w', Below W.heap.size W w' → w'.cell? ⟨w3.heap.size, 0, none⟩ = some (.slice a m.length c) ∧ w'.cell? ⟨w3.heap.size, 1, none⟩ = some (.slice va s.length vc)) := fun w' hb => by
    have h := (hb.block w3.heap.size (by omega)).trans hA.out
    rw [cell_of_row _ _ 0 _ _ _ h, cell_of_row _ _ 1 _ _ _ h]; exact ⟨rfl, rfl⟩
  have HMW : Hid (∀ w', Below W.heap.size W w' → RI w' lo hi a m) := fun w' hb => (hm3.below hbA (by omega)).below hb (by omega)
  have HC1 : Hid (∀ w', Below W.heap.size W w' → Calls Try.prog 195 #[.agg #[.slice a m.length c, .slice va s.length vc]] w' (NewP w' xs)) := fun w' hb => by
    rw [← HXS.out]
    exact i_allowed (HMW.out w' hb) (by have := hb.size; omega) ho3 (hbA.trans (hb.mono (by omega))) HOK.out HOB.out
  have HC3 : Hid (∀ w', Below W.heap.size W w' → Calls Try.prog 141 #[.agg #[.slice a m.length c, .slice va s.length vc], .int .i64 t] w' (NewP w' q)) := fun w' hb => by
    rw [← HQ.out]
    exact i_possible (HMW.out w' hb) (by have := hb.size; omega) ho3 (hbA.trans (hb.mono (by omega))) HOK.out HOB.out ht.1 ht.2
  have HC2 : Hid (∀ w' a n c', Calls Try.prog 194 #[.slice a n c'] w' (fun e w'' => e = .returned (.func (.func 245) #[] #[.pointer (some ⟨w'.heap.size, 0, none⟩)]) ∧ w''.heap[w'.heap.size]? = some (.cells #[.slice a n c'] 105 (0, 0)) ∧ Below w'.heap.size w' w'' ∧ w'.heap.size + 1 ≤ w''.heap.size)) := fun w' a n c' =>
    (x_ValuesP (a := a) (n := n) (c := c') (w := w')).mono fun e w'' ⟨h1, h2⟩ => ⟨h1, by rw [h2]; exact heap_alloc_new _ _, by rw [h2]; exact (Below.refl _ _).alloc (Nat.le_refl _) _, by rw [h2]; simp⟩
  have HC4 : Hid (∀ (w5 w6 w7 : World) (v5 v7 : Value) (b6 : Nat), OwnP w5 W.heap.size v5 xs → Below w5.heap.size w5 w6 → w6.heap[b6]? = some (.cells #[v5] 105 (0, 0)) → OwnP w7 W.heap.size v7 q → Below w6.heap.size w6 w7 →
      Calls Try.prog 178 #[.slice none 0 0, .func (.func 245) #[] #[.pointer (some ⟨b6, 0, none⟩)], v7, .int .i64 (m.length : Int)] w7 (NewIIB w7 (grL (gaR m s t)) (grB (gaR m s t)))) := fun w5 w6 w7 v5 v7 b6 h5 h56 hb6 h7 h67 => by
    have hb6l := (Array.getElem?_eq_some_iff.1 hb6).1
    rw [HGE.out]
    exact i_grow (s := []) (lo := 0) (hi := 0) (enters_of Try.func245 (by kernel_rfl) rfl) (valuesP_seq (n₀ := w6.heap.size) h5 h56 h56.size (by have := HAL.out; omega) hb6 hb6l (Nat.le_refl _)) h67.size h67 h7 (Below.refl _ _) (by have := HLN.out; omega) hm5.1 hm5.2 HNN.out HAR.out (fun p hp => (HRW.out p hp).1) (RII.nil _ _ _ _) (by omega) (by simp) (by simp)
  have hbW : Below w.heap.size w W := ((Dr.below D2 w.heap.size).trans (hb3.mono (by omega))).trans (hbA.mono (by omega))
  have hq1 : Below W.heap.size W W := Below.refl _ _
  clear hbA hm3 hm hs hWs hb3 ho3 HMW
  go_wp2_with fail
  try rw [hWe]
  clear hWe
  go_region_held3 (fun w' => w'.cell? ⟨w3.heap.size, 0, none⟩ = some (.slice a m.length c) ∧ w'.cell? ⟨w3.heap.size, 1, none⟩ = some (.slice va s.length vc))
    (first | exact HS.out _ (by first | exact hq8 | exact hq7 | exact hq6 | exact hq5 | exact hq1.drew | exact hq1) | go_keep) ((first
    | (go_at_call 195; refine (HC1.out _ (by first | exact hq1.drew | exact hq1)).mono ?_; rintro e w5 ⟨v5, rfl, ho5, hb5⟩; obtain ⟨a5, c5, rfl, _⟩ := ho5.at; have hq5 : Below W.heap.size W w5 := (by first | exact hq1.drew.trans hb5 | exact hq1.trans hb5))
    | (go_at_call 194; refine (HC2.out w5 _ _ _).mono ?_; rintro e w6 ⟨rfl, hbx6, hb6, hz6⟩; have hq6 : Below W.heap.size W w6 := hq5.trans (hb6.mono hq5.size))
    | (go_at_call 141; refine (HC3.out w6 hq6).mono ?_; rintro e w7 ⟨v7, rfl, ho7, hb7⟩; obtain ⟨a7, c7, rfl, _⟩ := ho7.at; have hq7 : Below W.heap.size W w7 := hq6.trans (hb7.mono hq6.size))
    | (go_at_call 178; refine (HC4.out w5 w6 w7 _ _ _ (ho5.mono (by simp)) hb6 hbx6 (ho7.mono (by have := hq6.size; omega)) hb7).mono ?_; rintro e w8 ⟨a8, c8, rfl, h8, hb8⟩; have hq8 : Below W.heap.size W w8 := hq7.trans (hb8.mono hq7.size))))
  all_goals
    have hz7 := hq7.size
    have hzW := hbW.size
    have hbF := hbW.trans (hq8.mono (by omega))
    go_wp2
    go_ret2
    rw [HGS.out.1, HGS.out.2]
    exact ⟨a8, c8, rfl, ⟨h8.oii.wide (by omega) (Nat.le_refl _), h8.cap⟩, hbF⟩

/- Walks: GrowAllowed, by the model. -/
open Go.RowKit

set_option maxHeartbeats 2000000 in
theorem s_GrowAllowed {m : List Int} {a : Option Addr} {c lo hi : Nat} {s : List (List Int)} {a1 : Option Addr} {c1 lo1 hi1 : Nat} {t : Int} {w : World} (hm : RI w lo hi a m) (hlm : m.length ≤ 9223372036854775807) (hs : RII w lo1 hi1 a1 s) (hls : s.length ≤ 9223372036854775807) (hg : ∀ r ∈ s, r.length ≤ 9223372036854775807) (_ht0 : -9223372036854775808 ≤ t) (_ht1 : t ≤ 9223372036854775807) (hB : hi ≤ w.heap.size) (hB1 : hi1 ≤ w.heap.size)  :
    Calls Try.prog 84 #[.slice a m.length c, .slice a1 s.length c1, .int .i64 t] w (NewIIB w (gaL m s t) (gaB m s t)) := by
  have HG := Lib.hid hg; clear hg
  have D0 : Dr w w := Dr.refl w
  cases hHOK : okM m
  · have HOK := Lib.hid hHOK; clear hHOK
    go_enter Try.func84, Try.ntmps84
    go_wp2_with fail
    refine (s_validModel (hm.dr D0) hlm).mono ?_
    rintro e w1 ⟨rfl, d1⟩
    rw [HOK.out]
    have D1 := Dr.trans D0 d1
    clear d1
    go_wp2
    go_ret2
    exact NewIIB.none (ga_no (.inl (show bnT m s t = false by unfold bnT; first | (rw [HOK.out]; rfl) | (rw [HOK.out, HOK.out]; rfl) | (rw [HOK.out, HOB.out, HOK.out]; rfl)))) (Dr.below D1 _)
  have HOK := Lib.hid hHOK; clear hHOK
  cases hHOB : okBn m s
  · have HOB := Lib.hid hHOB; clear hHOB
    go_enter Try.func84, Try.ntmps84
    go_wp2_with fail
    refine (s_validModel (hm.dr D0) hlm).mono ?_
    rintro e w1 ⟨rfl, d1⟩
    rw [HOK.out]
    have D1 := Dr.trans D0 d1
    clear d1
    go_wp2_with fail
    refine (s_validBans (hm.dr D1) (hs.dr D1) HOK.out hls HG.out).mono ?_
    rintro e w2 ⟨rfl, d2⟩
    rw [HOB.out]
    have D2 := Dr.trans D1 d2
    clear d2
    go_wp2
    go_ret2
    exact NewIIB.none (ga_no (.inl (show bnT m s t = false by unfold bnT; first | (rw [HOB.out]; rfl) | (rw [HOK.out, HOB.out]; rfl) | (rw [HOK.out, HOB.out, HOB.out]; rfl)))) (Dr.below D2 _)
  have HOB := Lib.hid hHOB; clear hHOB
  cases hHIN : inR t 0 m.length
  · have HIN := Lib.hid hHIN; clear hHIN
    go_enter Try.func84, Try.ntmps84
    go_wp2_with fail
    refine (s_validModel (hm.dr D0) hlm).mono ?_
    rintro e w1 ⟨rfl, d1⟩
    rw [HOK.out]
    have D1 := Dr.trans D0 d1
    clear d1
    go_wp2_with fail
    refine (s_validBans (hm.dr D1) (hs.dr D1) HOK.out hls HG.out).mono ?_
    rintro e w2 ⟨rfl, d2⟩
    rw [HOB.out]
    have D2 := Dr.trans D1 d2
    clear d2
    go_wp2_with fail
    refine (s_inRange _ _ _ _).mono ?_
    rintro e w3 ⟨rfl, d3⟩
    rw [HIN.out]
    have D3 := Dr.trans D2 d3
    clear d3
    go_wp2
    go_ret2
    exact NewIIB.none (ga_no (.inl (show bnT m s t = false by unfold bnT; first | (rw [HIN.out]; rfl) | (rw [HOK.out, HIN.out]; rfl) | (rw [HOK.out, HOB.out, HIN.out]; rfl)))) (Dr.below D3 _)
  have HIN := Lib.hid hHIN; clear hHIN
  have HR := Lib.hid (bn_rows HOB.out)
  have hsl := okBn_len HOB.out
  have ht := inR_true.1 HIN.out
  have hm5 := okM_len HOK.out
  have hbt := bnT_mk HOK.out HOB.out ht.1 ht.2
  have HGS : Hid (gaL m s t = grL (gaR m s t) ∧ gaB m s t = grB (gaR m s t)) := by
    show _ ∧ _
    unfold gaL gaB grL grB; rw [hbt, Bool.true_and]; exact ⟨rfl, rfl⟩
  have hln := poL_len (m := m) (b := s) (t := t)
  have hrw := poL_row (m := m) (b := s) (t := t)
  rw [po_yes hbt] at hln hrw
  have hal := alL_len2 (b := s) HOK.out
  have har := alL_row (m := m) (b := s)
  have hge : gaR m s t = grS (alL m s) 21 [] (posP m s t) := rfl
  have hnn := posP_none (m := m) (b := s) (t := t)
  have hgl := (grS_len (alL m s) 21 [] (posP m s t)).2
  have HLN := Lib.hid hln; have HRW := Lib.hid hrw; have HAL := Lib.hid hal; have HAR := Lib.hid har; have HGE := Lib.hid hge; have HNN := Lib.hid hnn; have HGL := Lib.hid hgl
  clear hln hrw hal har hge hnn hbt hgl
  go_enter Try.func84, Try.ntmps84
  go_wp2_with fail
  refine (s_validModel (hm.dr D0) hlm).mono ?_
  rintro e w1 ⟨rfl, d1⟩
  rw [HOK.out]
  have D1 := Dr.trans D0 d1
  clear d1
  go_wp2_with fail
  refine (s_validBans (hm.dr D1) (hs.dr D1) HOK.out hls HG.out).mono ?_
  rintro e w2 ⟨rfl, d2⟩
  rw [HOB.out]
  have D2 := Dr.trans D1 d2
  clear d2
  go_wp2_with fail
  refine (s_inRange _ _ _ _).mono ?_
  rintro e w3 ⟨rfl, d3⟩
  rw [HIN.out]
  have D3 := Dr.trans D2 d3
  clear d3
  have Z3 := Dr.le D3
  go_wp2_with fail
  have hbA := (Below.refl w3.heap.size w3).alloc (Nat.le_refl _) (.cells #[] 23)
  have hm3 := hm.dr D3
  have hs3 := hs.dr D3
  refine (s_allowedTests HOK.out (hm3.below hbA (by omega)) (by simp; omega) (hs3.below hbA (by omega)) (by simp; omega) (by omega) HR.out).mono ?_
  rintro e w4 ⟨a4, c4, rfl, h4, hb4⟩
  have hb04 : Below w3.heap.size w3 w4 := hbA.trans (hb4.mono (by simp))
  have hz4 := hb04.size
  have hz44 := hb4.size
  simp only [World.size_alloc] at hz44
  have h4w : RII w4 w3.heap.size w4.heap.size a4 (alL m s) := h4.rii.wide (by simp) (Nat.le_refl _)
  obtain ⟨xs, hxs⟩ : ∃ xs, alL m s = xs := ⟨_, rfl⟩
  rw [hxs] at h4w HAL HAR HGE HNN HGL ⊢
  clear hxs h4
  go_wp2_with fail
  refine (s_possiblePatterns HOK.out (hm3.below hb04 (by omega)) (by omega) (hs3.below hb04 (by omega)) (by omega) (by omega) HR.out ht.1 ht.2).mono ?_
  rintro e w5 ⟨a5, c5, rfl, h5, hb5⟩
  have hz5 := hb5.size
  obtain ⟨q, hq⟩ : ∃ q, posP m s t = q := ⟨_, rfl⟩
  rw [hq] at h5 HLN HRW HGE HNN HGL ⊢
  clear hq
  have hal := HAL.out
  have hln := HLN.out
  go_wp2_with fail
  refine (s_greedyA (n := m.length) (h4w.below hb5 (Nat.le_refl _)) (by omega) h5.rii (by omega) HNN.out (by omega) (by omega) HAR.out (fun p hp => by have := (HRW.out p hp).1; omega) hm5.1 (by omega)).mono ?_
  rintro e w6 ⟨v6, rfl, ho6, hn6, hb6⟩
  obtain ⟨R, hR⟩ : ∃ R, grS xs 21 [] q = R := ⟨_, rfl⟩
  have hgl := HGL.out
  rw [hR] at ho6 HGE hgl
  rw [HGE.out] at HGS
  clear hR
  simp at hgl
  obtain ⟨ad6, c6, rfl, h6⟩ := ho6.some hn6.out
  have hB6 : Below w.heap.size w w6 := (Dr.below D3 w.heap.size).trans ((hb04.trans ((hb5.trans (hb6.mono (by omega))).mono (by omega))).mono (by omega))
  clear h4w h5 hb04 hb5 hb6 hm3 hs3 hb4 hbA
  by_cases hR20 : R.length ≤ 20
  · have HE : Hid (grL R = R ∧ grB R = true) := by unfold Hid grL grB; rw [decide_eq_true hR20]; exact ⟨rfl, rfl⟩
    have hdec : decide (20 < R.length) = false := decide_eq_false (by omega)
    go_wp2
    go_ret2
    rw [HGS.out.1, HGS.out.2]
    exact NewIIB.some HE.out rfl ⟨h6.oii.wide (by omega) (Nat.le_refl _), h6.cap⟩ hB6
  · have HE : Hid (grL R = [] ∧ grB R = false) := by unfold Hid grL grB; rw [decide_eq_false hR20]; exact ⟨rfl, rfl⟩
    have hdec : decide (20 < R.length) = true := decide_eq_true (by omega)
    go_wp2
    go_ret2
    rw [HGS.out.1, HGS.out.2]
    exact NewIIB.none HE.out hB6

end Go.Proofs.Ytehoagbpgahopaa
