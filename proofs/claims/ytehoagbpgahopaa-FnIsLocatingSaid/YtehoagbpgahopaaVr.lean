/- Walks: ResultsOf, by both sides. -/
import Derived.Test.YtehoagbpgahopaaVq
import Derived.Test.YtehoagbpgahopaaZb
import Derived.Test.YtehoagbpgahopaaZa
namespace Go.Proofs.Ytehoagbpgahopaa
open Go.RowKit

/-- which tests fail -/
def roL (m : List Int) (s b : List (List Int)) : List Bool := if okM m && okS m s && okBn m b then s.map (bnB b) else []
theorem ro_no {m : List Int} {s b : List (List Int)} (h : (okM m && okS m s && okBn m b) = false) : roL m s b = [] := by unfold roL; rw [h]; rfl
theorem ro_yes {m : List Int} {s b : List (List Int)} (h : okM m = true) (h1 : okS m s = true) (h2 : okBn m b = true) : roL m s b = s.map (bnB b) := by unfold roL; rw [h, h1, h2]; rfl
theorem roL_len {m : List Int} {s b : List (List Int)} : (roL m s b).length ≤ s.length := by
  unfold roL; split <;> simp
theorem fb_at {m x : List Int} {b : List (List Int)} (hok : okM m = true) (hob : okBn m b = true) (hx : x.length = m.length) : fbB b (at5 x) = bnB b x := by
  have hm5 := (okM_len hok).2
  unfold fbB bnB
  rw [Bool.eq_iff_iff, List.any_eq_true, List.any_eq_true]
  constructor
  · rintro ⟨p, h1, h2⟩
    exact ⟨p, h1, by rwa [meet5_mB (by rw [okW_len (okBn_all hob h1), hx]) (by rw [okW_len (okBn_all hob h1)]; exact hm5)] at h2⟩
  · rintro ⟨p, h1, h2⟩
    exact ⟨p, h1, by rwa [meet5_mB (by rw [okW_len (okBn_all hob h1), hx]) (by rw [okW_len (okBn_all hob h1)]; exact hm5)]⟩

/-- append of one bool at a step of a region that draws its order -/
theorem step_app1B {wr : World} {ops : Array Oper} {o : Oper} {a : Act} {K : Act → World → Prop} {Q : Exit → Act → World → Prop} {E : Prop} (hgd : o.guard = none) (s t : Operand)
    (ho : o.op = .call { callee := .builtin .append, args := #[s, t], argTypes := #[70, 70] }) (B : Nat) (v : Value) (l : List Bool) (hs : a.eval s = v) (hown : OwnBo wr B v l) (x : Bool)
    (nw : Nat) (hx : a.eval t = .slice (some ⟨nw, 0, none⟩) 1 1) (hnw : nw = wr.heap.size) (hl : l.length ≤ 1099511627776) (hB : B ≤ wr.heap.size)
    (h : ∀ v' w', OwnBo w' B v' (l ++ [x]) → Below B wr w' → K (a.put o.dst v') w') :
    if Region.wanted o (yielded ops a.tmps) = true then Oper.wp Try.prog o a (wr.alloc (.cells #[.bool x] 4)) K Q else E := by
  subst hnw
  obtain ⟨i0, hi, hz0, hz1, hz2⟩ := info_parts infoBool
  have hw : Region.wanted o (yielded ops a.tmps) = true := by simp [Region.wanted, hgd]
  rw [if_pos hw]
  refine wp_append_own _ s t 70 ho B 4 i0 (.bool false) 1 1 undB hi hz0 hz1 hz2 rfl (by decide) v l.length (bols l) hs (World.ownsRow.alloc hown _) ⟨wr.heap.size, 0, none⟩ 1 1 [.bool x] hx rfl ?_ ?_ ?_ ?_ ?_ ?_
  · exact cell_one_new _ _ _
  · intro u hu; simp at hu; subst hu; rfl
  · unfold maxLen; omega
  · omega
  · simp; omega
  · intro v' w' h1 h2 _
    refine h v' w' ?_ ?_
    · unfold OwnBo; rw [bols_snoc, List.length_append]; exact h1
    · refine (((Below.refl B wr).alloc hB _).grown h2 (by simp; omega) fun k hk => ?_)
      exact ((World.ownsRow.lt hown) k hk).1

set_option maxRecDepth 100000 in
set_option maxHeartbeats 2000000 in
theorem s_results {s b : List (List Int)} {a a' : Option Addr} {c c' lo hi lo' hi' n : Nat} {w : World} (hs : RII w lo hi a s) (hB : hi ≤ w.heap.size) (hb : RII w lo' hi' a' b) (hB' : hi' ≤ w.heap.size) (hl : s.length ≤ 1048576) (hl' : b.length ≤ 1048576) (hr : ∀ r ∈ s, r.length = n) (hr' : ∀ r ∈ b, r.length = n) (hn : n ≤ 1048576) :
    Calls Try.prog 199 #[.slice a s.length c, .slice a' b.length c'] w (NewBo w (s.map (bnB b))) := by
  have HR := Lib.hid hr; have HR' := Lib.hid hr'; clear hr hr'
  obtain ⟨N, hN⟩ : ∃ N, s.length = N := ⟨_, rfl⟩
  have HN := Lib.hid hN
  have hNl : N ≤ 1048576 := by omega
  have hst := OwnBo.made w w.heap.size (Nat.le_refl _)
  rw [hN]
  clear hN hl
  go_enter Try.func199, Try.ntmps199
  go_wp2
  go_loopw [5, 6] (fun v i wr => ∃ (k : Nat) (a : Option Addr) (cc : Nat), k ≤ N ∧ i = .int .i64 k ∧ v = .slice a k cc ∧ OwnBo wr w.heap.size v ((s.take k).map (bnB b)) ∧ Below w.heap.size w wr) (fun _ i _ => N - (intOf i).toNat)
  case atStart => exact ⟨0, _, _, Nat.zero_le _, rfl, rfl, hst, (Below.refl _ _).alloc (Nat.le_refl _) _⟩
  case round =>
    clear hst
    obtain ⟨k, av, cv, hk, rfl, rfl, hown, hBl⟩ := hrel
    have hsz := hBl.size
    by_cases hlt : k < N
    · obtain ⟨b1, o1, a3, c3, r, ha, _, _, hcell, hrr, hx⟩ := (hs.below hBl hB).at (show k < s.length by have := HN.out; omega)
      have hidx := idxII ha hlt c
      have hrl : r.length ≤ n ∧ n ≤ r.length := by have := HR.out r (List.mem_of_getElem? hx.out); omega
      have hbq := hb.below hBl hB'
      obtain ⟨X, hX⟩ : ∃ X, bnB b r = X := ⟨_, rfl⟩
      have HC := s_allowed (c := c3) (c' := c') hbq hrr (by omega) (fun q hq => by have := HR'.out q hq; omega) (by omega)
      rw [hX] at HC
      have HC := Lib.hid HC
      have HX := Lib.hid hX
      have hkl : ((s.take k).map (bnB b)).length ≤ 1099511627776 := by simp; omega
      clear ha hs hb hbq hrr hX
      go_wp2_with fail
      refine HC.out.mono ?_
      rintro e w2 ⟨rfl, d2⟩
      have d2 : Dr wr w2 := d2
      have b2 := Dr.below d2 wr.heap.size
      have hz2 := Dr.le d2
      have hown2 := hown.below b2
      have HNX : Hid ((s.take k).map (bnB b) ++ [X] = (s.take (k + 1)).map (bnB b)) := by show _ = _; rw [take_snoc hx.out, List.map_append, List.map_singleton, HX.out]
      obtain ⟨l, hl⟩ : ∃ l, (s.take k).map (bnB b) = l := ⟨_, rfl⟩
      rw [hl] at hown2 hkl HNX
      clear hown hl
      have hnn : (!(!X)) = X := by cases X <;> rfl
      go_wp2_with (first
        | (at_builtin; refine wpList_app1B rfl (.tmp 14) (.tmp 22) rfl w.heap.size _ l rfl hown2 X rfl hkl (by omega) ?_; intro v4 w4 hown4 hb4)
        | go_in)
      rw [HNX.out] at hown4
      have hBl4 := (hBl.trans (b2.mono (by omega))).trans hb4
      obtain ⟨a4, c4, rfl, _⟩ := hown4.slice
      have hlen : ((s.take (k + 1)).map (bnB b)).length = k + 1 := by have := HN.out; simp; omega
      rw [hlen] at hown4 ⊢
      go_wp2
      go_roundw
      case rel => exact ⟨k + 1, a4, c4, by omega, by go_num, rfl, hown4, hBl4⟩
      case measure => simp [intOf]; omega
    · have HTK : Hid (s.take k = s) := List.take_of_length_le (by have := HN.out; omega)
      rw [HTK.out] at hown
      have hkN : k = N := by omega
      subst hkN
      obtain ⟨a4, c4, e4, ho4⟩ := hown.slice
      have E4 := Lib.hid e4
      clear e4
      go_wp2
      go_ret
      have e4 := E4.out
      cases e4
      exact ⟨_, _, rfl, ho4, hBl⟩

set_option maxRecDepth 100000 in
set_option maxHeartbeats 2000000 in
theorem s_ResultsOf {m : List Int} {s b : List (List Int)} {a a1 a2 : Option Addr} {c c1 c2 lo hi lo1 hi1 lo2 hi2 : Nat} {w : World} (hm : RI w lo hi a m) (hlm : m.length ≤ 9223372036854775807) (hs : RII w lo1 hi1 a1 s) (hls : s.length ≤ 9223372036854775807) (hg : ∀ r ∈ s, r.length ≤ 9223372036854775807) (hb : RII w lo2 hi2 a2 b) (hlb : b.length ≤ 9223372036854775807) (hgb : ∀ r ∈ b, r.length ≤ 9223372036854775807) (hB1 : hi1 ≤ w.heap.size) (hB2 : hi2 ≤ w.heap.size) :
    Calls Try.prog 92 #[.slice a m.length c, .slice a1 s.length c1, .slice a2 b.length c2] w (NewBo w (roL m s b)) := by
  have HG := Lib.hid hg; have HGB := Lib.hid hgb; clear hg hgb
  have D0 : Dr w w := Dr.refl w
  cases hok : okM m
  · have HE : Hid (roL m s b = []) := ro_no (by rw [hok]; rfl)
    have HOK := Lib.hid hok; clear hok
    go_enter Try.func92, Try.ntmps92
    go_wp2_with fail
    refine (s_validModel (hm.dr D0) hlm).mono ?_
    rintro e w1 ⟨rfl, d1⟩
    rw [HOK.out]
    go_wp2
    go_ret
    rw [HE.out]
    exact ⟨none, 0, rfl, ⟨OBo.nil _ _ _ _, Nat.le_refl _⟩, Dr.below d1 _⟩
  have HOK := Lib.hid hok; clear hok
  cases hos : okS m s
  · have HE : Hid (roL m s b = []) := ro_no (by rw [hos, Bool.and_false]; rfl)
    have HOS := Lib.hid hos; clear hos
    go_enter Try.func92, Try.ntmps92
    go_wp2_with fail
    refine (s_validModel (hm.dr D0) hlm).mono ?_
    rintro e w1 ⟨rfl, d1⟩
    rw [HOK.out]
    have D1 := Dr.trans D0 d1
    go_wp2_with fail
    refine (s_validSuite (hm.dr D1) (hs.dr D1) HOK.out (by omega) HG.out).mono ?_
    rintro e w2 ⟨rfl, d2⟩
    rw [HOS.out]
    have D2 := Dr.trans D1 d2
    go_wp2
    go_ret
    rw [HE.out]
    exact ⟨none, 0, rfl, ⟨OBo.nil _ _ _ _, Nat.le_refl _⟩, Dr.below D2 _⟩
  have HOS := Lib.hid hos; clear hos
  cases hob : okBn m b
  · have HE : Hid (roL m s b = []) := ro_no (by rw [hob, Bool.and_false])
    have HOB := Lib.hid hob; clear hob
    go_enter Try.func92, Try.ntmps92
    go_wp2_with fail
    refine (s_validModel (hm.dr D0) hlm).mono ?_
    rintro e w1 ⟨rfl, d1⟩
    rw [HOK.out]
    have D1 := Dr.trans D0 d1
    go_wp2_with fail
    refine (s_validSuite (hm.dr D1) (hs.dr D1) HOK.out (by omega) HG.out).mono ?_
    rintro e w2 ⟨rfl, d2⟩
    rw [HOS.out]
    have D2 := Dr.trans D1 d2
    go_wp2_with fail
    refine (s_validBans (hm.dr D2) (hb.dr D2) HOK.out hlb HGB.out).mono ?_
    rintro e w3 ⟨rfl, d3⟩
    rw [HOB.out]
    have D3 := Dr.trans D2 d3
    go_wp2
    go_ret
    rw [HE.out]
    exact ⟨none, 0, rfl, ⟨OBo.nil _ _ _ _, Nat.le_refl _⟩, Dr.below D3 _⟩
  have HOB := Lib.hid hob; clear hob
  have HE : Hid (roL m s b = s.map (bnB b)) := ro_yes HOK.out HOS.out HOB.out
  have HRS : Hid (∀ r ∈ s, r.length = m.length) := fun r hr => okW_len (okS_all HOS.out hr)
  have HRB : Hid (∀ r ∈ b, r.length = m.length) := fun r hr => okW_len (okBn_all HOB.out hr)
  have hm5 := okM_len HOK.out
  have hb5 := okBn_len HOB.out
  go_enter Try.func92, Try.ntmps92
  go_wp2_with fail
  refine (s_validModel (hm.dr D0) hlm).mono ?_
  rintro e w1 ⟨rfl, d1⟩
  rw [HOK.out]
  have D1 := Dr.trans D0 d1
  go_wp2_with fail
  refine (s_validSuite (hm.dr D1) (hs.dr D1) HOK.out (by omega) HG.out).mono ?_
  rintro e w2 ⟨rfl, d2⟩
  rw [HOS.out]
  have D2 := Dr.trans D1 d2
  go_wp2_with fail
  refine (s_validBans (hm.dr D2) (hb.dr D2) HOK.out hlb HGB.out).mono ?_
  rintro e w3 ⟨rfl, d3⟩
  rw [HOB.out]
  have D3 := Dr.trans D2 d3
  have z3 := Dr.le D3
  go_wp2_with fail
  refine (s_results (hs.dr D3) (by omega) (hb.dr D3) (by omega) (by have := okS_len HOS.out; omega) (by omega) HRS.out HRB.out (by omega)).mono ?_
  rintro e w4 ⟨a4, c4, rfl, h4, hb4⟩
  go_wp2
  go_ret
  rw [HE.out]
  exact ⟨a4, c4, by rw [List.length_map]; rfl, ⟨h4.ob.wide (by omega) (Nat.le_refl _), h4.cap⟩, (Dr.below D3 w.heap.size).trans (hb4.mono (by omega))⟩

set_option maxRecDepth 100000 in
set_option maxHeartbeats 1500000 in
theorem i_ResultsOf {m : List Int} {s b : List (List Int)} {a a1 a2 : Option Addr} {c c1 c2 lo hi lo1 hi1 lo2 hi2 : Nat} {w : World} (hm : RI w lo hi a m) (hlm : m.length ≤ 9223372036854775807) (hs : RII w lo1 hi1 a1 s) (hls : s.length ≤ 9223372036854775807) (hg : ∀ r ∈ s, r.length ≤ 9223372036854775807) (hb : RII w lo2 hi2 a2 b) (hlb : b.length ≤ 9223372036854775807) (hgb : ∀ r ∈ b, r.length ≤ 9223372036854775807) (hB1 : hi1 ≤ w.heap.size) (hB2 : hi2 ≤ w.heap.size) :
    Calls Try.prog 90 #[.slice a m.length c, .slice a1 s.length c1, .slice a2 b.length c2] w (NewBo w (roL m s b)) := by
  have HG := Lib.hid hg; have HGB := Lib.hid hgb; clear hg hgb
  have D0 : Dr w w := Dr.refl w
  cases hvs : okM m && okS m s
  · have HE : Hid (roL m s b = []) := ro_no (by rw [hvs]; rfl)
    have HVS := Lib.hid hvs; clear hvs
    go_enter Try.func90, Try.ntmps90
    go_wp2_with fail
    refine (i_ValidSuite (hm.dr D0) hlm (hs.dr D0) (by omega) HG.out).mono ?_
    rintro e w1 ⟨rfl, d1⟩
    rw [HVS.out]
    go_wp2
    go_ret
    rw [HE.out]
    exact ⟨none, 0, rfl, ⟨OBo.nil _ _ _ _, Nat.le_refl _⟩, Dr.below d1 _⟩
  have HVS := Lib.hid hvs
  have HOK : Hid (okM m = true) := by show _ = _; rw [Bool.and_eq_true] at hvs; exact hvs.1
  have HOS : Hid (okS m s = true) := by show _ = _; rw [Bool.and_eq_true] at hvs; exact hvs.2
  clear hvs
  cases hob : okBn m b
  · have HE : Hid (roL m s b = []) := ro_no (by rw [hob, Bool.and_false])
    have HVB : Hid ((okM m && okBn m b) = false) := by show _ = _; rw [hob, Bool.and_false]
    clear hob
    go_enter Try.func90, Try.ntmps90
    go_wp2_with fail
    refine (i_ValidSuite (hm.dr D0) hlm (hs.dr D0) (by omega) HG.out).mono ?_
    rintro e w1 ⟨rfl, d1⟩
    rw [HVS.out]
    have D1 := Dr.trans D0 d1
    go_wp2_with fail
    refine (i_ValidBans (hm.dr D1) hlm (hb.dr D1) hlb HGB.out).mono ?_
    rintro e w2 ⟨rfl, d2⟩
    rw [HVB.out]
    have D2 := Dr.trans D1 d2
    go_wp2
    go_ret
    rw [HE.out]
    exact ⟨none, 0, rfl, ⟨OBo.nil _ _ _ _, Nat.le_refl _⟩, Dr.below D2 _⟩
  have HOB := Lib.hid hob
  have HVB : Hid ((okM m && okBn m b) = true) := by show _ = _; rw [HOK.out, hob]; rfl
  clear hob
  have HE : Hid (roL m s b = s.map (bnB b)) := ro_yes HOK.out HOS.out HOB.out
  have HRS : Hid (∀ r ∈ s, r.length = m.length) := fun r hr => okW_len (okS_all HOS.out hr)
  have HRB : Hid (∀ r ∈ b, r.length ≤ 5) := fun r hr => by have := okW_len (okBn_all HOB.out hr); have := okM_len HOK.out; omega
  have hm5 := okM_len HOK.out
  have hb5 := okBn_len HOB.out
  obtain ⟨N, hN⟩ : ∃ N, s.length = N := ⟨_, rfl⟩
  have HN := Lib.hid hN
  have hNl : N ≤ 1048576 := by have := okS_len HOS.out; omega
  clear hN
  obtain ⟨inf, hinf, hzz⟩ := Option.map_eq_some_iff.1 infoBool
  simp only [Prod.mk.injEq] at hzz
  obtain ⟨hz, hsz, hby⟩ := hzz
  have hmk : ∀ wx : World, (Instr.makeSlice 70 (.int .i64 0) (.int .i64 (N : Int))).run Try.prog wx = .ok (.slice (some ⟨wx.heap.size, 0, none⟩) 0 N) (wx.alloc (.cells (madeCells #[.bool false] N) 4)) := by
    intro wx
    have h := run_makeSlice (P := Try.prog) (w := wx) 70 4 inf (.bool false) undB hinf hz .i64 .i64 0 (N : Int) (by omega) (by omega) (by rw [hsz]; omega) (by rw [hby]; omega) (by omega)
    simpa [hsz, Value.cells] using h
  clear hz hsz hby hinf
  go_enter Try.func90, Try.ntmps90
  go_wp2_with fail
  refine (i_ValidSuite (hm.dr D0) hlm (hs.dr D0) (by omega) HG.out).mono ?_
  rintro e w1 ⟨rfl, d1⟩
  rw [HVS.out]
  have D1 := Dr.trans D0 d1
  go_wp2_with fail
  refine (i_ValidBans (hm.dr D1) hlm (hb.dr D1) hlb HGB.out).mono ?_
  rintro e w2 ⟨rfl, d2⟩
  rw [HVB.out]
  have D2 := Dr.trans D1 d2
  have Z2 := Dr.le D2
  clear d1 d2 D1
  go_wp2_with fail
  refine (i_rulesOf m.length (hb.dr D2) (by omega) hb5 HRB.out).mono ?_
  rintro e w3 ⟨v, rfl, ho3, hb3⟩
  obtain ⟨va, vc, hv3, ho3⟩ := ho3.slice
  subst hv3
  have hz3 := hb3.size
  have hs3 := (hs.dr D2).below hb3 (by omega)
  have hA := Lib.hid (heap_alloc_new w3 (.cells #[.slice a m.length c, .slice va b.length vc] 93))
  have hbA := (Below.refl w3.heap.size w3).alloc (Nat.le_refl _) (.cells #[.slice a m.length c, .slice va b.length vc] 93)
  obtain ⟨W, hWe⟩ : ∃ W, w3.alloc (.cells #[.slice a m.length c, .slice va b.length vc] 93) = W := ⟨_, rfl⟩
  have hWs : W.heap.size = w3.heap.size + 1 := by rw [← hWe]; simp
  rw [hWe] at hA hbA
  have hWl : w3.heap.size + 1 ≤ W.heap.size ∧ W.heap.size ≤ w3.heap.size + 1 := by omega
  have HS : Hid (∀ w', Below W.heap.size W w' → w'.cell? ⟨w3.heap.size, 0, none⟩ = some (.slice a m.length c) ∧ w'.cell? ⟨w3.heap.size, 1, none⟩ = some (.slice va b.length vc)) := fun w' hb => by
    have h := (hb.block w3.heap.size (by omega)).trans hA.out
    rw [cell_of_row _ _ 0 _ _ _ h, cell_of_row _ _ 1 _ _ _ h]; exact ⟨rfl, rfl⟩
  have HSW : Hid (∀ w', Below W.heap.size W w' → RII w' lo1 hi1 a1 s) := fun w' hb => (hs3.below hbA (by omega)).below hb (by omega)
  have HFB : Hid (∀ w' x, Below W.heap.size W w' → Calls Try.prog 150 #[.agg #[.slice a m.length c, .slice va b.length vc], .agg #[.int .i64 (at5 x 0), .int .i64 (at5 x 1), .int .i64 (at5 x 2), .int .i64 (at5 x 3), .int .i64 (at5 x 4)]] w' (NewV w' (.bool (fbB b (at5 x))))) := fun w' x hb => i_forbid (at5 x) ho3 (hbA.trans (hb.mono (by omega))) (by omega)
  have hbW : Below w.heap.size w W := ((Dr.below D2 w.heap.size).trans (hb3.mono (by omega))).trans (hbA.mono (by omega))
  have hst := OwnBo.room W W.heap.size N 4 rfl (Nat.le_refl _) (by unfold maxLen; omega)
  clear hbA hm hs hb hWs hb3 ho3 hs3
  rw [HN.out]
  clear hls
  go_wp2_with fail
  try rw [hWe]
  clear hWe
  go_loopw [8, 29, 10] (fun v i _ wr => ∃ (k : Nat) (a : Option Addr) (cc : Nat), k ≤ N ∧ i = .int .i64 k ∧ v = .slice a k cc ∧ OwnBo wr W.heap.size v ((s.take k).map (bnB b)) ∧ Below W.heap.size W wr) (fun _ i _ _ => N - (intOf i).toNat)
  case atStart => exact ⟨0, _, _, Nat.zero_le _, rfl, rfl, hst, (Below.refl _ _).alloc (Nat.le_refl _) _⟩
  case round =>
    clear hst hmk
    obtain ⟨k, av, cv, hk, rfl, rfl, hown, hBl⟩ := hrel
    have hsz := hBl.size
    by_cases hlt : k < N
    · obtain ⟨b1, o1, a3, c3, r, ha, _, hb1, hcell, hrr, hx⟩ := (HSW.out wr hBl).at (show k < s.length by have := HN.out; omega)
      have hidx := idxII ha hlt c1
      have hrl : r.length ≤ 5 := by have := HRS.out r (List.mem_of_getElem? hx.out); omega
      have hrow := HRS.out r (List.mem_of_getElem? hx.out)
      obtain ⟨X, hX⟩ : ∃ X, bnB b r = X := ⟨_, rfl⟩
      have HFX : Hid (fbB b (at5 r) = X) := by show _ = _; rw [fb_at HOK.out HOB.out hrow, hX]
      have HNX : Hid ((s.take k).map (bnB b) ++ [X] = (s.take (k + 1)).map (bnB b)) := by show _ = _; rw [take_snoc hx.out, List.map_append, List.map_singleton, hX]
      clear hrow hX
      have HC1 : Hid (∀ w', Below wr.heap.size wr w' → Calls Try.prog 133 #[.slice a3 r.length c3] w' (NewV w' (.agg #[.int .i64 (at5 r 0), .int .i64 (at5 r 1), .int .i64 (at5 r 2), .int .i64 (at5 r 3), .int .i64 (at5 r 4)]))) := fun w' hb => i_patternOf (hrr.below hb (by omega)) (by have := hb.size; omega) hrl
      have HC2 : Hid (∀ w', Below wr.heap.size wr w' → Calls Try.prog 150 #[.agg #[.slice a m.length c, .slice va b.length vc], .agg #[.int .i64 (at5 r 0), .int .i64 (at5 r 1), .int .i64 (at5 r 2), .int .i64 (at5 r 3), .int .i64 (at5 r 4)]] w' (NewV w' (.bool X))) := fun w' hb => by
        have h := HFB.out w' r (hBl.trans (hb.mono (by omega)))
        rw [HFX.out] at h; exact h
      have HSR : Hid (∀ w', Below wr.heap.size wr w' → w'.cell? ⟨w3.heap.size, 0, none⟩ = some (.slice a m.length c) ∧ w'.cell? ⟨w3.heap.size, 1, none⟩ = some (.slice va b.length vc)) := fun w' hb => HS.out w' (hBl.trans (hb.mono (by omega)))
      have HOW : Hid (∀ w', Below wr.heap.size wr w' → OwnBo w' W.heap.size (.slice av k cv) ((s.take k).map (bnB b))) := fun w' hb => hown.below hb
      have hkl : ((s.take k).map (bnB b)).length ≤ 1099511627776 := by simp; omega
      have hlen : ((s.take (k + 1)).map (bnB b)).length = k + 1 := by have := HN.out; simp; omega
      have HLEN := Lib.hid hlen
      obtain ⟨l, hl⟩ : ∃ l, (s.take k).map (bnB b) = l := ⟨_, rfl⟩
      rw [hl] at HNX HOW hkl
      have hq1 : Below wr.heap.size wr wr := Below.refl _ _
      clear ha hrr hown hl hlen hx
      go_wp2_with fail
      go_region_held3 (fun w' => w'.cell? ⟨w3.heap.size, 0, none⟩ = some (.slice a m.length c) ∧ w'.cell? ⟨w3.heap.size, 1, none⟩ = some (.slice va b.length vc))
        (first | exact HS.out _ ((hBl.trans (hq6.mono (by omega))).trans hb7) | exact HSR.out _ (by first | exact hq6 | exact hq5 | exact hq1.drew | exact hq1) | go_keep) ((first
        | (go_at_call 133; refine (HC1.out _ (by first | exact hq1.drew | exact hq1)).mono ?_; rintro e w5 ⟨rfl, hb5⟩; have hq5 : Below wr.heap.size wr w5 := (by first | exact hq1.drew.trans hb5 | exact hq1.trans hb5))
        | (go_at_call 150; refine (HC2.out _ hq5).mono ?_; rintro e w6 ⟨rfl, hb6⟩; have hq6 : Below wr.heap.size wr w6 := hq5.trans (hb6.mono hq5.size); have hown6 := HOW.out w6 hq6; have hz6 := hq6.size)
        | (refine step_app1B (by rfl) _ _ (by rfl) W.heap.size _ _ (by rfl) hown6 X _ (by rfl) (by rfl) hkl (by omega) ?_; intro v7 w7 hown7 hb7)))
      all_goals
        rw [HNX.out] at hown7
        have hBl7 := (hBl.trans (hq6.mono (by omega))).trans hb7
        obtain ⟨a7, c7, rfl, _⟩ := hown7.slice
        rw [HLEN.out] at hown7 ⊢
        go_wp2
        go_roundw
        case rel => exact ⟨k + 1, a7, c7, by omega, by go_num, rfl, hown7, hBl7⟩
        case measure => simp [intOf]; omega
    · have HTK : Hid (s.take k = s) := List.take_of_length_le (by have := HN.out; omega)
      rw [HTK.out] at hown
      have hkN : k = N := by omega
      subst hkN
      obtain ⟨a4, c4, e4, ho4⟩ := hown.slice
      have E4 := Lib.hid e4
      clear e4
      have hzW := hbW.size
      go_wp2
      go_ret
      rw [HE.out]
      have e4 := E4.out
      cases e4
      exact ⟨_, _, rfl, ⟨ho4.ob.wide (by omega) (Nat.le_refl _), ho4.cap⟩, hbW.trans (hBl.mono (by omega))⟩

/- Walks: bools that the laws compare; plain facts of what tests tell. -/
open Go.RowKit

set_option maxHeartbeats 400000 in
theorem l_equalBools {x y : List Bool} {a b : Option Addr} {c d lo hi lo' hi' : Nat} {w : World} (hx : RBo w lo hi a x) (hy : RBo w lo' hi' b y) (_hl : x.length ≤ 4611686018427387904) (hl' : y.length ≤ 4611686018427387904) :
    Calls Try.prog 91 #[.slice a x.length c, .slice b y.length d] w (RO w (.bool (eqBo x y))) := by
  by_cases hlen : x.length = y.length
  case neg =>
    have h1 : ((x.length : Int) != (y.length : Int)) = true := by rw [bne_iff_ne]; omega
    go_enter Try.func91, Try.ntmps91
    go_wp2
    go_ret
    exact RO.bool0 (eqBo_no (by intro h; rw [h] at hlen; exact hlen rfl)).symm
  obtain ⟨n, hn⟩ : ∃ n, y.length = n := ⟨_, rfl⟩
  have HN : Hid (y.length = n) := hn
  have HM : Hid (x.length = n) := hlen.trans hn
  rw [hlen, hn]
  rw [hn] at hl'
  clear _hl hlen hn
  go_enter Try.func91, Try.ntmps91
  go_wp2
  go_loopw [5] (fun i wr => ∃ k q : Nat, k ≤ n ∧ i = .int .i64 k ∧ wr = w.drewN q ∧ Hid (x.take k = y.take k)) (fun i _ => n - (intOf i).toNat)
  case atStart => exact ⟨0, 0, Nat.zero_le _, rfl, rfl, rfl⟩
  case round =>
    obtain ⟨k, q, hk, rfl, rfl, hA⟩ := hrel
    by_cases hlt : k < n
    · obtain ⟨b1, o1, u, ha, _, _, hcell, hu⟩ := hx.at (show k < x.length by rw [HM.out]; exact hlt)
      obtain ⟨b2, o2, v, hb, _, _, hcell2, hv⟩ := hy.at (show k < y.length by rw [HN.out]; exact hlt)
      have hidx := idxBo ha hlt c
      have hidx2 := idxBo hb hlt d
      clear ha hb hx hy
      by_cases huv : u = v
      · subst huv
        have HA2 : Hid (x.take (k + 1) = y.take (k + 1)) := by
          show x.take (k + 1) = y.take (k + 1)
          rw [take_snoc hu.out, take_snoc hv.out, hA.out]
        cases u
        all_goals
          go_wp2
          go_quiet (fail)
          go_wp2
          go_roundw
          case rel => exact ⟨k + 1, _, by omega, by go_num, rfl, HA2⟩
          case measure => simp [intOf]; omega
      · have HNE : Hid (eqBo x y = false) := eqBo_no (by
          intro e
          have h1 := hu.out; have h2 := hv.out
          rw [e, h2] at h1
          exact huv (Option.some.inj h1).symm)
        cases u <;> cases v <;> first | (exact absurd rfl huv) | skip
        all_goals
          clear huv
          go_wp2
          go_quiet (fail)
          go_wp2
          go_ret
          exact RO.bool2 (b := false) HNE.out.symm _ _
    · have HE : Hid (eqBo x y = true) := eqBo_true.2 (by
        have h1 := hA.out
        rwa [List.take_of_length_le (by rw [HM.out]; omega), List.take_of_length_le (by rw [HN.out]; omega)] at h1)
      go_wp2
      go_ret
      exact RO.bool HE.out.symm _

def hasP' (mm : List (List Int)) (x : List Int) : Bool := decide (x ∈ mm)
theorem ro_at {m : List Int} {s u : List (List Int)} (hm : okM m = true) (hs : okS m s = true) (hu : okBn m u = true) : (roL m s u).length = s.length ∧ (∀ (k : Nat) (x : List Int), s[k]? = some x → (roL m s u)[k]? = some (bnB u x)) ∧ ∀ x ∈ s, hasP' (atL m u) x = !bnB u x := by
  rw [ro_yes hm hs hu]
  refine ⟨by simp, fun k x hx => by rw [List.getElem?_map, hx]; rfl, fun x hx => ?_⟩
  have hxT := okS_all hs hx
  rw [Bool.eq_iff_iff]
  unfold hasP'
  rw [decide_eq_true_eq, at_yes hm hu]
  unfold alL
  rw [List.mem_filter, ext_mem hm]
  exact ⟨fun h => h.2, fun h => ⟨hxT, h⟩⟩

end Go.Proofs.Ytehoagbpgahopaa
