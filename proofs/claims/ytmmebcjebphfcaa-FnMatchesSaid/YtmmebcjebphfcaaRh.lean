/- Walks: patterns and strengths that are drawn; what the laws draw. -/
import Derived.Test.YtmmebcjebphfcaaRg
namespace Go.Proofs.Ytmmebcjebphfcaa
open Go.RowKit

set_option maxRecDepth 100000 in
set_option maxHeartbeats 4000000 in
theorem s_aPattern {b K N lo hi c : Nat} {a : Option Addr} {m : List Int} {w : World} (hr : Rdr w b K) (hm : RI w lo hi a m) (hhi : hi ≤ w.heap.size) (hlo : b < lo) (hL : LP N m) (hK : K + N + N + 1 ≤ 1000000) :
    Calls Try.prog 95 #[.pointer (some ⟨b, 0, none⟩), .slice a m.length c] w (Dl w b (K + N + N + 1) w.heap.size (LP N)) := by
  have hlt := hr.lt
  have hl1 := hL.1
  go_enter Try.func95, Try.ntmps95
  go_wp2_with fail
  refine (s_aTest hr hm hhi hlo hL (by omega)).mono ?_
  rintro e w1 ⟨a1, c1, l, rfl, ho1, hl, hr1, hU1⟩
  have HLL := Lib.hid hl
  have hll := hl.2.1
  have hs1 := hU1.size
  have hlt1 := hr1.lt
  have hb2 := (Below.refl w1.heap.size w1).alloc (Nat.le_refl _) (.cells #[.int .i64 2, .int .i64 3, .int .i64 2, .int .i64 4] 3)
  clear hl hL hr hm
  go_wp2_with fail
  refine (s_one (hr1.below hb2 hlt1) (by omega) (litW w1 _ [2, 3, 2, 4] rfl) (by simp) (by simp) (.inr hlt1) (by simp)).mono ?_
  rintro e w2 ⟨q, rfl, hq, hr2, hu2⟩
  have hq4 : 2 ≤ q ∧ q ≤ 4 := by simp at hq; omega
  have ho2 := (ho1.same fun g _ h2 => hb2.block g h2).upd hu2 hlt
  have hU2 := (hU1.below hb2 (by omega)).upd hu2
  obtain ⟨n, hn⟩ : ∃ n, l.length = n := ⟨_, rfl⟩
  have HN := Lib.hid hn
  rw [hn] at ho2 hll ⊢
  clear ho1 hr1 hU1 hu2 hq hb2 hn hs1
  go_wp2
  go_loopw [7] (fun i wr => ∃ (k : Nat) (l' : List Int), k ≤ n ∧ i = .int .i64 k ∧ OwnL wr w.heap.size (.slice a1 n c1) l' ∧ Hid (l'.length = n ∧ LP N l') ∧ Rdr wr b (K + N + 1 + k) ∧ UpB b w.heap.size w wr) (fun i _ => n - (intOf i).toNat)
  case atStart => exact ⟨0, l, Nat.zero_le _, rfl, ho2, ⟨HN.out, HLL.out.2⟩, hr2.mono (by omega), hU2⟩
  case round =>
    clear ho2 hr2 hU2
    obtain ⟨k, l', hk, rfl, ho, hL', hr, hU⟩ := hrel
    have hszr := hU.size
    by_cases hlt2 : k < n
    · go_wp2_with fail
      refine (s_pick hr (by omega) (by omega) (by omega)).mono ?_
      rintro e w3 ⟨y, rfl, hy, hr3, hu3⟩
      have hy0 := hy.1
      have ho3 := ho.upd hu3 hlt
      have hU3 := hU.upd hu3
      clear ho hr hU hu3 hy
      by_cases hy1 : 0 < y
      · have hkl : k < l'.length := by have := hL'.out.1; omega
        obtain ⟨g, rfl, hg1, hg2, ⟨z, hcz⟩, hfz, hput⟩ := ho3.put hkl
        have hidx := idxI rfl hlt2 c1 (b := g) (o := 0)
        simp only [Nat.zero_add] at hidx
        have ho4 := Lib.hid (hput (-1))
        have hr4 : Hid (Rdr (w3.setCell ⟨g, k, none⟩ (.int .i64 (-1))) b (K + N + 1 + (k + 1))) := (hr3.mono (by omega)).same (fun j hj => Below.heap_setCell _ _ _ _ (by show j ≠ g; omega)) (by simp [World.setCell])
        have hU4 := Lib.hid (hU3.set (p := ⟨g, k, none⟩) hg1 (.int .i64 (-1)))
        have HL4 : Hid ((l'.set k (-1)).length = n ∧ LP N (l'.set k (-1))) := ⟨by rw [List.length_set]; exact hL'.out.1, hL'.out.2.set (by omega)⟩
        clear ho3 hU3 hr3 hput
        go_wp2
        go_roundw
        case rel => exact ⟨k + 1, _, by omega, by go_num, ho4.out, HL4, hr4.out, hU4.out⟩
        case measure => simp [intOf]; omega
      · go_wp2
        go_roundw
        case rel => exact ⟨k + 1, l', by omega, by go_num, ho3, hL', hr3.mono (by omega), hU3⟩
        case measure => simp [intOf]; omega
    · go_wp2
      go_ret
      have h9 := hL'.out
      exact ⟨a1, c1, l', by rw [h9.1]; rfl, by rw [h9.1]; exact ho, h9.2, hr.mono (by omega), hU⟩

set_option maxRecDepth 100000 in
set_option maxHeartbeats 4000000 in
theorem s_somePattern {b K N lo hi c : Nat} {a : Option Addr} {m : List Int} {w : World} (hr : Rdr w b K) (hm : RI w lo hi a m) (hhi : hi ≤ w.heap.size) (hlo : b < lo) (hL : LP N m) (hK : K + N + N + 1 ≤ 900000) :
    Calls Try.prog 71 #[.pointer (some ⟨b, 0, none⟩), .slice a m.length c] w (Dl w b (K + N + N + 4) w.heap.size (LP (N + 1))) := by
  have hlt := hr.lt
  have hl1 := hL.1
  go_enter Try.func71, Try.ntmps71
  go_wp2_with fail
  refine (s_aPattern hr hm hhi hlo hL (by omega)).mono ?_
  rintro e w1 ⟨a1, c1, l, rfl, ho1, hl, hr1, hU1⟩
  have HLL := Lib.hid hl
  have hll := hl.1
  have hs1 := hU1.size
  clear hl hL hr hm
  go_wp2_with fail
  refine (s_pick hr1 (by omega) (by omega) (by omega)).mono ?_
  rintro e w2 ⟨v, rfl, hv, hr2, hu2⟩
  have hv0 := hv.1
  have ho2 := ho1.upd hu2 hlt
  have hU2 := hU1.upd hu2
  have hs2 := hU2.size
  clear ho1 hr1 hU1 hu2 hv
  by_cases e0 : v = 0
  · subst e0
    by_cases h0 : l.length = 0
    · go_wp2
      go_ret
      exact ⟨a1, c1, l, by rw [h0]; rfl, ho2, HLL.out.mono (by omega), hr2.mono (by omega), hU2⟩
    have hl1' : 1 ≤ l.length := by omega
    go_wp2_with fail
    refine (s_pick hr2 (by omega) (by omega) (by omega)).mono ?_
    rintro e w3 ⟨k, rfl, hk, hr3, hu3⟩
    have hk1 := hk.2 (by omega)
    obtain ⟨kn, rfl⟩ := Int.eq_ofNat_of_zero_le hk.1
    have hkm : kn < l.length := by omega
    have ho3 := ho2.upd hu3 hlt
    have hU3 := hU2.upd hu3
    have hs3 := hU3.size
    have hlt3 := hr3.lt
    have hb4 := (Below.refl w3.heap.size w3).alloc (Nat.le_refl _) (.cells #[.int .i64 (-2), .int .i64 3, .int .i64 2] 3)
    clear ho2 hU2 hr2 hu3 hk
    go_wp2_with fail
    refine (s_one (hr3.below hb4 hlt3) (by omega) (litW w3 _ [-2, 3, 2] rfl) (by simp) (by simp) (.inr hlt3) (by simp)).mono ?_
    rintro e w4 ⟨x, rfl, hx, hr4, hu4⟩
    have hx3 : -4 ≤ x ∧ x ≤ 4 := by simp at hx; omega
    have ho4 := (ho3.same fun g _ h2 => hb4.block g h2).upd hu4 hlt
    have hU4 := (hU3.below hb4 (by omega)).upd hu4
    obtain ⟨g, rfl, hg1, hg2, ⟨y, hcy⟩, hfz, hput⟩ := ho4.put hkm
    have hidx := idxI rfl hkm c1 (b := g) (o := 0)
    simp only [Nat.zero_add] at hidx
    have ho5 := hput x
    have hr5 : Rdr (w4.setCell ⟨g, kn, none⟩ (.int .i64 x)) b (K + N + N + 4) := (hr4.mono (by omega)).same (fun j hj => Below.heap_setCell _ _ _ _ (by show j ≠ g; omega)) (by simp [World.setCell])
    have hU5 := hU4.set (p := ⟨g, kn, none⟩) hg1 (.int .i64 x)
    clear ho3 hU3 hr3 hu4 hx hb4 ho4 hU4 hr4 hput
    go_wp2
    go_ret
    exact ⟨_, c1, l.set kn x, by rw [List.length_set]; rfl, by rw [List.length_set]; exact ho5, (HLL.out.set hx3).mono (by omega), hr5, hU5⟩
  by_cases e1 : v = 1
  · subst e1
    go_wp2_with (first
      | (at_builtin; refine wpList_app1 rfl _ _ rfl w.heap.size _ l rfl ho2 (-1) rfl (by omega) hs2 ?_; intro v4 w4 ho4 hb4)
      | go_in)
    obtain ⟨a4, c4, rfl, _⟩ := ho4.slice
    go_ret
    exact ⟨a4, c4, _, rfl, ho4, HLL.out.snoc (by omega), (hr2.below hb4 hlt).mono (by omega), hU2.below hb4 (Nat.le_refl _)⟩
  have e2 : 2 ≤ v := by omega
  go_wp2
  go_ret
  exact ⟨a1, c1, l, rfl, ho2, HLL.out.mono (by omega), hr2.mono (by omega), hU2⟩

set_option maxRecDepth 100000 in
set_option maxHeartbeats 1000000 in
theorem s_aStrength {b K : Nat} {w : World} (hr : Rdr w b K) (hK : K ≤ 1000000) :
    Calls Try.prog 85 #[.pointer (some ⟨b, 0, none⟩)] w (fun e w' => ∃ v : Int, e = .returned (.int .i64 v) ∧ (-4 ≤ v ∧ v ≤ 6) ∧ Rdr w' b (K + 1) ∧ UpB b w.heap.size w w') := by
  have hlt := hr.lt
  have hb3 := (Below.refl w.heap.size w).alloc (Nat.le_refl _) (.cells #[.int .i64 2, .int .i64 1, .int .i64 2, .int .i64 0, .int .i64 3, .int .i64 2, .int .i64 (-1), .int .i64 6] 3)
  go_enter Try.func85, Try.ntmps85
  go_wp2_with fail
  refine (s_one (hr.below hb3 hlt) (by omega) (litW w _ [2, 1, 2, 0, 3, 2, -1, 6] rfl) (by simp) (by simp) (.inr hlt) (by simp)).mono ?_
  rintro e w3 ⟨x, rfl, hx, hr3, hu3⟩
  have hx3 : -4 ≤ x ∧ x ≤ 6 := by simp at hx; omega
  have hU3 := ((UpB.refl b w.heap.size w).below hb3 (Nat.le_refl _)).upd hu3
  clear hx hb3 hu3
  go_wp2
  go_ret
  exact ⟨x, rfl, hx3, hr3, hU3⟩

/-- a list that a law has drawn -/
structure Got (w w' : World) (N : Nat) (a : Option Addr) (c : Nat) (m : List Int) : Prop where
  ri : RI w' w.heap.size w'.heap.size a m
  lp : LP N m
  cap : m.length ≤ c
theorem gotUpB {w1 w2 : World} {b B : Nat} {a : Option Addr} {m : List Int} (h : RI w1 B w1.heap.size a m) (hu : UpB b w1.heap.size w1 w2) (hb : b < B) : RI w2 B w1.heap.size a m := h.upB hu (Nat.le_refl _) (Nat.le_refl _) hb

set_option maxRecDepth 100000 in
set_option maxHeartbeats 1000000 in
theorem s_DrawValidModel {n : Nat} {a : Option Addr} {c : Nat} {w : World} (hm : RB w w.heap.size a n) (hc : n ≤ c) (hl : n ≤ 1048576) :
    Calls Try.prog 17 #[.slice a n c] w (fun e w' => ∃ (a1 : Option Addr) (c1 : Nat) (m : List Int), e = .returned (.slice a1 m.length c1) ∧ Got w w' 15 a1 c1 m ∧ Below w.heap.size w w') := by
  go_enter Try.func17, Try.ntmps17
  go_wp2_with fail
  refine (s_newReader hm hc hl).mono ?_
  rintro e w1 ⟨rfl, hr1, hb1⟩
  have hlt := hr1.lt
  go_wp2_with fail
  refine (s_goodModel hr1 (by omega)).mono ?_
  rintro e w2 ⟨a2, c2, m2, rfl, ho2, hL2, hr2, hU2⟩
  go_wp2_with fail
  refine (s_bentModel hr2 (by omega) ho2 rfl hL2 (by omega) hlt hU2.size).mono ?_
  rintro e w3 ⟨a3, c3, m3, rfl, ho3, hL3, hr3, hU3⟩
  have hs3 := Nat.le_trans hU2.size hU3.size
  go_wp2_with fail
  refine (s_bentModel hr3 (by omega) ho3 rfl hL3 (by omega) hlt hs3).mono ?_
  rintro e w4 ⟨a4, c4, m4, rfl, ho4, hL4, hr4, hU4⟩
  have hU := (hU2.trans hU3).trans hU4
  obtain ⟨a5, c5, e5, hoi⟩ := ho4.slice
  cases e5
  go_wp2
  go_ret
  exact ⟨_, _, m4, rfl, ⟨hoi.ri.wide (by omega) (Nat.le_refl _), hL4, ho4.cap.2⟩, hb1.trans (hU.toBelow (by omega) (by omega))⟩

set_option maxRecDepth 100000 in
set_option maxHeartbeats 1000000 in
theorem s_DrawAllTests {n : Nat} {a : Option Addr} {c : Nat} {w : World} (hm : RB w w.heap.size a n) (hc : n ≤ c) (hl : n ≤ 1048576) :
    Calls Try.prog 34 #[.slice a n c] w (fun e w' => ∃ (a1 : Option Addr) (c1 : Nat) (m : List Int), e = .returned (.slice a1 m.length c1) ∧ Got w w' 10 a1 c1 m ∧ Below w.heap.size w w') := by
  go_enter Try.func34, Try.ntmps34
  go_wp2_with fail
  refine (s_newReader hm hc hl).mono ?_
  rintro e w1 ⟨rfl, hr1, hb1⟩
  have hlt := hr1.lt
  go_wp2_with fail
  refine (s_goodModel hr1 (by omega)).mono ?_
  rintro e w2 ⟨a2, c2, m2, rfl, ho2, hL2, hr2, hU2⟩
  go_wp2_with fail
  refine (s_bentModel hr2 (by omega) ho2 rfl hL2 (by omega) hlt hU2.size).mono ?_
  rintro e w3 ⟨a3, c3, m3, rfl, ho3, hL3, hr3, hU3⟩
  have hU := hU2.trans hU3
  obtain ⟨a5, c5, e5, hoi⟩ := ho3.slice
  cases e5
  go_wp2
  go_ret
  exact ⟨_, _, m3, rfl, ⟨hoi.ri.wide (by omega) (Nat.le_refl _), hL3, ho3.cap.2⟩, hb1.trans (hU.toBelow (by omega) (by omega))⟩

set_option maxRecDepth 100000 in
set_option maxHeartbeats 1000000 in
theorem s_DrawAllPatterns {n : Nat} {a : Option Addr} {c : Nat} {w : World} (hm : RB w w.heap.size a n) (hc : n ≤ c) (hl : n ≤ 1048576) :
    Calls Try.prog 44 #[.slice a n c] w (fun e w' => ∃ (a1 : Option Addr) (c1 : Nat) (m : List Int) (t : Int), e = .returned (.tuple #[.slice a1 m.length c1, .int .i64 t]) ∧ (Got w w' 10 a1 c1 m ∧ -4 ≤ t ∧ t ≤ 6) ∧ Below w.heap.size w w') := by
  go_enter Try.func44, Try.ntmps44
  go_wp2_with fail
  refine (s_newReader hm hc hl).mono ?_
  rintro e w1 ⟨rfl, hr1, hb1⟩
  have hlt := hr1.lt
  go_wp2_with fail
  refine (s_goodModel hr1 (by omega)).mono ?_
  rintro e w2 ⟨a2, c2, m2, rfl, ho2, hL2, hr2, hU2⟩
  go_wp2_with fail
  refine (s_bentModel hr2 (by omega) ho2 rfl hL2 (by omega) hlt hU2.size).mono ?_
  rintro e w3 ⟨a3, c3, m3, rfl, ho3, hL3, hr3, hU3⟩
  have hU := hU2.trans hU3
  have hcap := ho3.cap.2
  obtain ⟨a5, c5, e5, hoi⟩ := ho3.slice
  cases e5
  go_wp2_with fail
  refine (s_aStrength hr3 (by omega)).mono ?_
  rintro e w4 ⟨t, rfl, ht, hr4, hU4⟩
  have hri := gotUpB hoi.ri hU4 hlt
  have hs4 := hU4.size
  go_wp2
  go_ret2
  exact ⟨_, _, m3, t, rfl, ⟨⟨hri.wide (by omega) hs4, hL3, hcap⟩, ht⟩, hb1.trans ((hU.trans (hU4.less (hU.size))).toBelow (by omega) (by omega))⟩

/-- two lists that a law has drawn -/
def Dr2 (w : World) (N M : Nat) (e : Ending) (w' : World) : Prop := ∃ (a1 : Option Addr) (c1 : Nat) (m : List Int) (a2 : Option Addr) (c2 : Nat) (t : List Int), e = .returned (.tuple #[.slice a1 m.length c1, .slice a2 t.length c2]) ∧ (Got w w' N a1 c1 m ∧ Got w w' M a2 c2 t) ∧ Below w.heap.size w w'

set_option maxRecDepth 100000 in
set_option maxHeartbeats 1000000 in
theorem s_DrawValidTest {n : Nat} {a : Option Addr} {c : Nat} {w : World} (hm : RB w w.heap.size a n) (hc : n ≤ c) (hl : n ≤ 1048576) :
    Calls Try.prog 22 #[.slice a n c] w (Dr2 w 10 11) := by
  go_enter Try.func22, Try.ntmps22
  go_wp2_with fail
  refine (s_newReader hm hc hl).mono ?_
  rintro e w1 ⟨rfl, hr1, hb1⟩
  have hlt := hr1.lt
  go_wp2_with fail
  refine (s_goodModel hr1 (by omega)).mono ?_
  rintro e w2 ⟨a2, c2, m2, rfl, ho2, hL2, hr2, hU2⟩
  go_wp2_with fail
  refine (s_bentModel hr2 (by omega) ho2 rfl hL2 (by omega) hlt hU2.size).mono ?_
  rintro e w3 ⟨a3, c3, m3, rfl, ho3, hL3, hr3, hU3⟩
  have hU := hU2.trans hU3
  have hcap := ho3.cap.2
  obtain ⟨a5, c5, e5, hoi⟩ := ho3.slice
  cases e5
  go_wp2_with fail
  refine (s_someTest hr3 hoi.ri (Nat.le_refl _) hlt hL3 (by omega)).mono ?_
  rintro e w4 ⟨a4, c4, t, rfl, ho4, hL4, hr4, hU4⟩
  have hri := gotUpB hoi.ri hU4 hlt
  have hcap4 := ho4.cap.2
  obtain ⟨a6, c6, e6, hoi4⟩ := ho4.slice
  cases e6
  have hs4 := hU4.size
  have hs3 := hU.size
  go_wp2
  go_ret2
  exact ⟨_, _, m3, _, _, t, rfl, ⟨⟨hri.wide (by omega) hs4, hL3, hcap⟩, ⟨hoi4.ri.wide (by omega) (Nat.le_refl _), hL4, hcap4⟩⟩, hb1.trans ((hU.trans (hU4.less hs3)).toBelow (by omega) (by omega))⟩

set_option maxRecDepth 100000 in
set_option maxHeartbeats 1000000 in
theorem s_DrawValidPattern {n : Nat} {a : Option Addr} {c : Nat} {w : World} (hm : RB w w.heap.size a n) (hc : n ≤ c) (hl : n ≤ 1048576) :
    Calls Try.prog 27 #[.slice a n c] w (Dr2 w 10 11) := by
  go_enter Try.func27, Try.ntmps27
  go_wp2_with fail
  refine (s_newReader hm hc hl).mono ?_
  rintro e w1 ⟨rfl, hr1, hb1⟩
  have hlt := hr1.lt
  go_wp2_with fail
  refine (s_goodModel hr1 (by omega)).mono ?_
  rintro e w2 ⟨a2, c2, m2, rfl, ho2, hL2, hr2, hU2⟩
  go_wp2_with fail
  refine (s_bentModel hr2 (by omega) ho2 rfl hL2 (by omega) hlt hU2.size).mono ?_
  rintro e w3 ⟨a3, c3, m3, rfl, ho3, hL3, hr3, hU3⟩
  have hU := hU2.trans hU3
  have hcap := ho3.cap.2
  obtain ⟨a5, c5, e5, hoi⟩ := ho3.slice
  cases e5
  go_wp2_with fail
  refine (s_somePattern hr3 hoi.ri (Nat.le_refl _) hlt hL3 (by omega)).mono ?_
  rintro e w4 ⟨a4, c4, t, rfl, ho4, hL4, hr4, hU4⟩
  have hri := gotUpB hoi.ri hU4 hlt
  have hcap4 := ho4.cap.2
  obtain ⟨a6, c6, e6, hoi4⟩ := ho4.slice
  cases e6
  have hs4 := hU4.size
  have hs3 := hU.size
  go_wp2
  go_ret2
  exact ⟨_, _, m3, _, _, t, rfl, ⟨⟨hri.wide (by omega) hs4, hL3, hcap⟩, ⟨hoi4.ri.wide (by omega) (Nat.le_refl _), hL4, hcap4⟩⟩, hb1.trans ((hU.trans (hU4.less hs3)).toBelow (by omega) (by omega))⟩

set_option maxHeartbeats 400000 in
theorem s_DrawStrengthOf {n : Nat} {a : Option Addr} {c : Nat} {w : World} (hm : RB w w.heap.size a n) (hc : n ≤ c) (hl : n ≤ 1048576) :
    Calls Try.prog 38 #[.slice a n c] w (Dr2 w 10 11) := by
  go_enter Try.func38, Try.ntmps38
  go_wp2_with fail
  refine (s_DrawValidPattern hm hc hl).mono ?_
  rintro e w1 ⟨a1, c1, m, a2, c2, t, rfl, h⟩
  go_wp2
  go_ret2
  exact ⟨_, _, m, _, _, t, rfl, h⟩

set_option maxHeartbeats 400000 in
theorem s_DrawPatternText {n : Nat} {a : Option Addr} {c : Nat} {w : World} (hm : RB w w.heap.size a n) (hc : n ≤ c) (hl : n ≤ 1048576) :
    Calls Try.prog 58 #[.slice a n c] w (Dr2 w 10 11) := by
  go_enter Try.func58, Try.ntmps58
  go_wp2_with fail
  refine (s_DrawValidPattern hm hc hl).mono ?_
  rintro e w1 ⟨a1, c1, m, a2, c2, t, rfl, h⟩
  go_wp2
  go_ret2
  exact ⟨_, _, m, _, _, t, rfl, h⟩

end Go.Proofs.Ytmmebcjebphfcaa
