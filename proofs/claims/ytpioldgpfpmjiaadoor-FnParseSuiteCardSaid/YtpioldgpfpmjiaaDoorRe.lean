/- Walks: the reader. -/
import Derived.Test.YtpioldgpfpmjiaaDoorRd
import Derived.Test.YtpioldgpfpmjiaaDoorWf
namespace Go.Proofs.YtpioldgpfpmjiaaDoor
open Go.RowKit

/-- a list that was drawn: it lies from block B on; of the blocks below only the reader's has turned -/
def Dl (w : World) (b K B : Nat) (Pr : List Int → Prop) (e : Ending) (w' : World) : Prop := ∃ (a : Option Addr) (c : Nat) (l : List Int), e = .returned (.slice a l.length c) ∧ OwnL w' B (.slice a l.length c) l ∧ Pr l ∧ Rdr w' b K ∧ UpB b B w w'

set_option maxRecDepth 100000 in
set_option maxHeartbeats 2000000 in
theorem s_goodModel {b K : Nat} {w : World} (hr : Rdr w b K) (hK : K ≤ 1000000) :
    Calls Tryd.prog 34 #[.pointer (some ⟨b, 0, none⟩)] w (Dl w b (K + 6) w.heap.size (LP 5)) := by
  have hlt := hr.lt
  obtain ⟨W1, hW1⟩ : ∃ W, w.alloc (.cells #[] 3) = W := ⟨_, rfl⟩
  have hb1 : Below w.heap.size w W1 := by rw [← hW1]; exact (Below.refl w.heap.size w).alloc (Nat.le_refl _) _
  have hs1 : w.heap.size + 1 ≤ W1.heap.size := by rw [← hW1]; simp
  have ho1 : OwnL W1 w.heap.size (.slice (some ⟨w.heap.size, 0, none⟩) 0 0) [] := by rw [← hW1]; exact OwnL.made w w.heap.size (Nat.le_refl _)
  have hb2 := (Below.refl W1.heap.size W1).alloc (Nat.le_refl _) (.cells #[.int .i64 3, .int .i64 3, .int .i64 4, .int .i64 2, .int .i64 3, .int .i64 1, .int .i64 5] 3)
  go_enter Tryd.func34, Tryd.ntmps34
  go_wp2_with fail
  refine (s_one ((hr.below hb1 hlt).below hb2 (by omega)) (by omega) (litW W1 _ [3, 3, 4, 2, 3, 1, 5] rfl) (by simp) (by simp) (.inr (by omega)) (by simp)).mono ?_
  rintro e w2 ⟨n, rfl, hn, hr2, hu2⟩
  have hn5 : 1 ≤ n ∧ n ≤ 5 := by simp at hn; omega
  have ho2 := (ho1.same fun g _ h2 => hb2.block g h2).upd hu2 hlt
  have hU2 : UpB b w.heap.size w w2 := (((UpB.refl b w.heap.size w).below hb1 (Nat.le_refl _)).below hb2 (by omega)).upd hu2
  have hs2 := hU2.size
  clear hr hb1 hb2 ho1 hu2 hn hs1
  go_wp2
  go_loopw [3] (fun v wr => ∃ (a : Option Addr) (c : Nat) (l : List Int), v = .slice a l.length c ∧ OwnL wr w.heap.size (.slice a l.length c) l ∧ LP n.toNat l ∧ Rdr wr b (K + 1 + l.length) ∧ UpB b w.heap.size w wr) (fun v _ => n.toNat - lenV v)
  case atStart => exact ⟨_, _, [], rfl, ho2, LP.nil _, hr2, hU2⟩
  case round =>
    clear ho2 hr2 hU2
    obtain ⟨a, c, l, rfl, ho, hL, hr, hU⟩ := hrel
    have hl1 := hL.1
    have hlw := hr.lt
    have hszr := hU.size
    have HL := Lib.hid hL
    clear hL hW1
    by_cases hlt2 : (l.length : Int) < n
    · have hb3 := (Below.refl wr.heap.size wr).alloc (Nat.le_refl _) (.cells #[.int .i64 2, .int .i64 2, .int .i64 3, .int .i64 2, .int .i64 1] 3)
      go_wp2_with fail
      refine (s_one (hr.below hb3 hlw) (by omega) (litW wr _ [2, 2, 3, 2, 1] rfl) (by simp) (by simp) (.inr hlw) (by simp)).mono ?_
      rintro e w3 ⟨x, rfl, hx, hr3, hu3⟩
      have hx3 : -4 ≤ x ∧ x ≤ 4 := by simp at hx; omega
      have ho3 := (ho.same fun g _ h2 => hb3.block g h2).upd hu3 hlt
      have hU3 := (hU.below hb3 (by omega)).upd hu3
      have hs3 := hU3.size
      clear ho hr hU hu3 hx hb3
      go_wp2_with (first
        | (at_builtin; refine wpList_app1 rfl _ _ rfl w.heap.size _ l rfl ho3 x rfl (by omega) hs3 ?_; intro v4 w4 ho4 hb4)
        | go_in)
      obtain ⟨a4, c4, rfl, _⟩ := ho4.slice
      have hr4 := hr3.below hb4 hlt
      have hU4 := hU3.below hb4 (Nat.le_refl _)
      have HL4 : Hid (LP n.toNat (l ++ [x])) := ⟨by simp; omega, (HL.out.snoc hx3).2⟩
      clear ho3 hr3 hU3 hb4
      go_roundw
      case rel => exact ⟨a4, c4, l ++ [x], rfl, ho4, HL4.out, hr4.mono (by simp; omega), hU4⟩
      case measure => simp [lenV]; omega
    · go_wp2
      go_ret
      exact ⟨a, c, l, rfl, ho, HL.out.mono (by omega), hr.mono (by omega), hU⟩

/- Walks: models that are bent, tests and patterns that are drawn. -/
open Go.RowKit

set_option maxRecDepth 100000 in
set_option maxHeartbeats 4000000 in
theorem s_bentModel {b K B N n c : Nat} {a : Option Addr} {m : List Int} {w : World} (hr : Rdr w b K) (hK : K ≤ 1000000) (ho : OwnL w B (.slice a n c) m) (hn : n = m.length) (hL : LP N m) (hN : N ≤ 1000) (hbB : b < B) (hB : B ≤ w.heap.size) :
    Calls Tryd.prog 38 #[.pointer (some ⟨b, 0, none⟩), .slice a n c] w (Dl w b (K + 3) B (LP (N + 5))) := by
  subst hn
  have hlt := hr.lt
  have hl1 := hL.1
  have HL := Lib.hid hL; clear hL
  by_cases h0 : m.length = 0
  · go_enter Tryd.func38, Tryd.ntmps38
    go_wp2
    go_ret
    exact ⟨a, c, m, by rw [h0]; rfl, ho, HL.out.mono (by omega), hr.mono (by omega), UpB.refl _ _ _⟩
  have hm1 : 1 ≤ m.length := by omega
  go_enter Tryd.func38, Tryd.ntmps38
  go_wp2_with fail
  refine (s_pick hr (by omega) (by omega) (by omega)).mono ?_
  rintro e w1 ⟨v, rfl, hv, hr1, hu1⟩
  have hv0 := hv.1
  have ho1 := ho.upd hu1 hbB
  have hU1 := (UpB.refl b B w).upd hu1
  have hs1 := hU1.size
  clear ho hr hu1 hv
  by_cases e0 : v = 0
  · subst e0
    go_wp2_with fail
    refine (s_pick hr1 (by omega) (by omega) (by omega)).mono ?_
    rintro e w2 ⟨k, rfl, hk, hr2, hu2⟩
    have hk1 := hk.2 (by omega)
    obtain ⟨kn, rfl⟩ := Int.eq_ofNat_of_zero_le hk.1
    have hkm : kn < m.length := by omega
    have ho2 := ho1.upd hu2 hbB
    have hU2 := hU1.upd hu2
    have hs2 := hU2.size
    have hlt2 := hr2.lt
    have hb3 := (Below.refl w2.heap.size w2).alloc (Nat.le_refl _) (.cells #[.int .i64 0, .int .i64 4, .int .i64 (-1)] 3)
    clear ho1 hU1 hr1 hu2 hk
    go_wp2_with fail
    refine (s_one (hr2.below hb3 hlt2) (by omega) (litW w2 _ [0, 4, -1] rfl) (by simp) (by simp) (.inr hlt2) (by simp)).mono ?_
    rintro e w3 ⟨x, rfl, hx, hr3, hu3⟩
    have hx3 : -4 ≤ x ∧ x ≤ 4 := by simp at hx; omega
    have ho3 := (ho2.same fun g _ h2 => hb3.block g h2).upd hu3 hbB
    have hU3 := (hU2.below hb3 (by omega)).upd hu3
    obtain ⟨g, rfl, hg1, hg2, ⟨y, hcy⟩, hfz, hput⟩ := ho3.put hkm
    have hidx := idxI rfl hkm c (b := g) (o := 0)
    simp only [Nat.zero_add] at hidx
    have ho4 := hput x
    have hr4 : Rdr (w3.setCell ⟨g, kn, none⟩ (.int .i64 x)) b (K + 3) := hr3.same (fun j hj => Below.heap_setCell _ _ _ _ (by show j ≠ g; omega)) (by simp [World.setCell])
    have hU4 := hU3.set (p := ⟨g, kn, none⟩) hg1 (.int .i64 x)
    clear ho2 hU2 hr2 hu3 hx hb3 ho3 hU3 hr3 hput
    go_wp2
    go_ret
    exact ⟨_, c, m.set kn x, by rw [List.length_set]; rfl, by rw [List.length_set]; exact ho4, (HL.out.set hx3).mono (by omega), hr4, hU4⟩
  by_cases e1 : v = 1
  · subst e1
    have hs := OwnL.made w1 B (by omega)
    have hb3 := (Below.refl w1.heap.size w1).alloc (Nat.le_refl _) (.cells #[] 3)
    go_wp2
    go_ret
    exact ⟨_, 0, [], rfl, hs, LP.nil _, (hr1.below hb3 hr1.lt).mono (by omega), hU1.below hb3 (by omega)⟩
  by_cases e2 : v = 2
  · subst e2
    have hb3 := (Below.refl w1.heap.size w1).alloc (Nat.le_refl _) (.cells #[.int .i64 1, .int .i64 1, .int .i64 1, .int .i64 1, .int .i64 1] 3)
    have ho3 := ho1.same fun g _ h2 => hb3.block g h2
    have hr3 := hr1.below hb3 hr1.lt
    have hU3 := hU1.below hb3 (by omega)
    have hs3 := hU3.size
    clear ho1 hr1 hU1
    go_wp2_with (first
      | (at_builtin; refine wpList_appN rfl _ _ rfl B _ m rfl ho3 [1, 1, 1, 1, 1] w1.heap.size (w1.heap.size + 1) 5 _ rfl (litW w1 _ [1, 1, 1, 1, 1] rfl) (by simp) (by omega) (by simp) (by omega) ?_; intro v4 w4 ho4 hb4)
      | go_in)
    obtain ⟨a4, c4, rfl, _⟩ := ho4.slice
    go_ret
    exact ⟨a4, c4, _, rfl, ho4, HL.out.app (M := 5) ⟨by simp, by simp⟩, (hr3.below hb4 hbB).mono (by omega), hU3.below hb4 (Nat.le_refl _)⟩
  have e3 : 3 ≤ v := by omega
  go_wp2
  go_ret
  exact ⟨a, c, m, rfl, ho1, HL.out.mono (by omega), hr1.mono (by omega), hU1⟩

/-- the greater of a number and 1 -/
def mx1 (x : Int) : Int := if x < 1 then 1 else x
theorem mx1_b {x : Int} (h : x ≤ 4) : 1 ≤ mx1 x ∧ mx1 x ≤ 4 := by unfold mx1; split <;> omega
theorem maxOne (x : Int) (wx : World) : (Builtin.max_ #[3, 3] 3 #[.int .i64 x, .int .i64 1]).run Tryd.prog wx = .ok (.int .i64 (mx1 x)) wx := by
  rw [run_max_int2]
  unfold mx1
  rfl

set_option maxRecDepth 100000 in
set_option maxHeartbeats 2000000 in
theorem s_aTest {b K N lo hi c : Nat} {a : Option Addr} {m : List Int} {w : World} (hr : Rdr w b K) (hm : RI w lo hi a m) (hhi : hi ≤ w.heap.size) (hlo : b < lo) (hL : LP N m) (hK : K + N ≤ 1000000) :
    Calls Tryd.prog 52 #[.pointer (some ⟨b, 0, none⟩), .slice a m.length c] w (Dl w b (K + N) w.heap.size (fun l => l.length = m.length ∧ LP N l)) := by
  have hlt := hr.lt
  have hl1 := hL.1
  have HL := Lib.hid hL; clear hL
  obtain ⟨W1, hW1⟩ : ∃ W, w.alloc (.cells #[] 3) = W := ⟨_, rfl⟩
  have hb1 : Below w.heap.size w W1 := by rw [← hW1]; exact (Below.refl w.heap.size w).alloc (Nat.le_refl _) _
  have ho1 : OwnL W1 w.heap.size (.slice (some ⟨w.heap.size, 0, none⟩) 0 0) [] := by rw [← hW1]; exact OwnL.made w w.heap.size (Nat.le_refl _)
  have hr1 := hr.below hb1 hlt
  have hU1 := (UpB.refl b w.heap.size w).below hb1 (Nat.le_refl _)
  go_enter Tryd.func52, Tryd.ntmps52
  go_wp2
  clear hW1 hb1
  go_loopw [5, 6] (fun v i wr => ∃ (k : Nat) (a : Option Addr) (c : Nat) (l : List Int), k ≤ m.length ∧ i = .int .i64 k ∧ v = .slice a l.length c ∧ OwnL wr w.heap.size (.slice a l.length c) l ∧ Hid (l.length = k ∧ LP k l) ∧ Rdr wr b (K + k) ∧ UpB b w.heap.size w wr) (fun _ i _ => m.length - (intOf i).toNat)
  case atStart => exact ⟨0, _, _, [], Nat.zero_le _, rfl, rfl, ho1, ⟨rfl, LP.nil _⟩, hr1, hU1⟩
  case round =>
    clear ho1 hr1 hU1
    obtain ⟨k, a3, c3, l, hk, rfl, rfl, ho, hL, hr, hU⟩ := hrel
    have hszr := hU.size
    have hlk := hL.out.1
    have hlk1 : l.length ≤ k := by omega
    clear hlk
    by_cases hlt2 : k < m.length
    · obtain ⟨b1, o1, x, ha, _, _, hcell, hx⟩ := (hm.upB hU hhi hhi hlo).at hlt2
      have hidx := idxI ha hlt2 c
      have hx4 := HL.out.2 x (List.mem_of_getElem? hx.out)
      have hmx := maxOne x
      have hmb := mx1_b hx4.2
      clear ha hm
      go_wp2_with fail
      refine (s_pick hr (by omega) (by omega) (by omega)).mono ?_
      rintro e w3 ⟨y, rfl, hy, hr3, hu3⟩
      have hy1 := hy.2 hmb.1
      have hy0 := hy.1
      have ho3 := ho.upd hu3 hlt
      have hU3 := hU.upd hu3
      have hs3 := hU3.size
      clear ho hr hU hu3 hy hmx
      go_wp2_with (first
        | (at_builtin; refine wpList_app1 rfl _ _ rfl w.heap.size _ l rfl ho3 y rfl (by omega) hs3 ?_; intro v4 w4 ho4 hb4)
        | go_in)
      obtain ⟨a4, c4, rfl, _⟩ := ho4.slice
      have hr4 := hr3.below hb4 hlt
      have hU4 := hU3.below hb4 (Nat.le_refl _)
      have HL4 : Hid ((l ++ [y]).length = k + 1 ∧ LP (k + 1) (l ++ [y])) := ⟨by have := hL.out.1; simp; omega, hL.out.2.snoc (by omega)⟩
      clear ho3 hr3 hU3 hb4
      go_roundw
      case rel => exact ⟨k + 1, a4, c4, l ++ [y], by omega, by go_num, rfl, ho4, HL4, hr4.mono (by omega), hU4⟩
      case measure => simp [intOf]; omega
    · go_wp2
      go_ret
      have h9 := hL.out
      exact ⟨a3, c3, l, rfl, ho, ⟨by omega, h9.2.mono (by omega)⟩, hr.mono (by omega), hU⟩

set_option maxRecDepth 100000 in
set_option maxHeartbeats 4000000 in
theorem s_someTest {b K N lo hi c : Nat} {a : Option Addr} {m : List Int} {w : World} (hr : Rdr w b K) (hm : RI w lo hi a m) (hhi : hi ≤ w.heap.size) (hlo : b < lo) (hL : LP N m) (hK : K + N ≤ 1000000) :
    Calls Tryd.prog 57 #[.pointer (some ⟨b, 0, none⟩), .slice a m.length c] w (Dl w b (K + N + 3) w.heap.size (LP (N + 1))) := by
  have hlt := hr.lt
  have hl1 := hL.1
  have HL := Lib.hid hL
  go_enter Tryd.func57, Tryd.ntmps57
  go_wp2_with fail
  refine (s_aTest hr hm hhi hlo hL hK).mono ?_
  rintro e w1 ⟨a1, c1, l, rfl, ho1, hl, hr1, hU1⟩
  have HLL := Lib.hid hl.2
  have hll := hl.2.1
  have hs1 := hU1.size
  clear hl hL hr hm
  go_wp2_with fail
  refine (s_pick hr1 (by omega) (by omega) (by omega)).mono ?_
  rintro e w2 ⟨v, rfl, hv, hr2, hu2⟩
  have hv0 := hv.1
  have ho2 := ho1.upd hu2 hlt
  have hU2 := hU1.upd hu2
  have hs2 := hU2.size
  clear ho1 hr1 hU1 hu2 hv
  by_cases e0 : v = 0
  · subst e0
    by_cases h0 : l.length = 0
    · go_wp2
      go_ret
      exact ⟨a1, c1, l, by rw [h0]; rfl, ho2, HLL.out.mono (by omega), hr2.mono (by omega), hU2⟩
    have hl1' : 1 ≤ l.length := by omega
    go_wp2_with fail
    refine (s_pick hr2 (by omega) (by omega) (by omega)).mono ?_
    rintro e w3 ⟨k, rfl, hk, hr3, hu3⟩
    have hk1 := hk.2 (by omega)
    obtain ⟨kn, rfl⟩ := Int.eq_ofNat_of_zero_le hk.1
    have hkm : kn < l.length := by omega
    have ho3 := ho2.upd hu3 hlt
    have hU3 := hU2.upd hu3
    have hs3 := hU3.size
    have hlt3 := hr3.lt
    have hb4 := (Below.refl w3.heap.size w3).alloc (Nat.le_refl _) (.cells #[.int .i64 (-1), .int .i64 3, .int .i64 1] 3)
    clear ho2 hU2 hr2 hu3 hk
    go_wp2_with fail
    refine (s_one (hr3.below hb4 hlt3) (by omega) (litW w3 _ [-1, 3, 1] rfl) (by simp) (by simp) (.inr hlt3) (by simp)).mono ?_
    rintro e w4 ⟨x, rfl, hx, hr4, hu4⟩
    have hx3 : -4 ≤ x ∧ x ≤ 4 := by simp at hx; omega
    have ho4 := (ho3.same fun g _ h2 => hb4.block g h2).upd hu4 hlt
    have hU4 := (hU3.below hb4 (by omega)).upd hu4
    obtain ⟨g, rfl, hg1, hg2, ⟨y, hcy⟩, hfz, hput⟩ := ho4.put hkm
    have hidx := idxI rfl hkm c1 (b := g) (o := 0)
    simp only [Nat.zero_add] at hidx
    have ho5 := hput x
    have hr5 : Rdr (w4.setCell ⟨g, kn, none⟩ (.int .i64 x)) b (K + N + 3) := (hr4.mono (by omega)).same (fun j hj => Below.heap_setCell _ _ _ _ (by show j ≠ g; omega)) (by simp [World.setCell])
    have hU5 := hU4.set (p := ⟨g, kn, none⟩) hg1 (.int .i64 x)
    clear ho3 hU3 hr3 hu4 hx hb4 ho4 hU4 hr4 hput
    go_wp2
    go_ret
    exact ⟨_, c1, l.set kn x, by rw [List.length_set]; rfl, by rw [List.length_set]; exact ho5, (HLL.out.set hx3).mono (by omega), hr5, hU5⟩
  by_cases e1 : v = 1
  · subst e1
    go_wp2_with (first
      | (at_builtin; refine wpList_app1 rfl _ _ rfl w.heap.size _ l rfl ho2 0 rfl (by omega) hs2 ?_; intro v4 w4 ho4 hb4)
      | go_in)
    obtain ⟨a4, c4, rfl, _⟩ := ho4.slice
    go_ret
    exact ⟨a4, c4, _, rfl, ho4, HLL.out.snoc (by omega), (hr2.below hb4 hlt).mono (by omega), hU2.below hb4 (Nat.le_refl _)⟩
  have e2 : 2 ≤ v := by omega
  go_wp2
  go_ret
  exact ⟨a1, c1, l, rfl, ho2, HLL.out.mono (by omega), hr2.mono (by omega), hU2⟩

/- Walks: patterns and strengths that are drawn; what the laws draw. -/
open Go.RowKit

/-- a list that a law has drawn -/
structure Got (w w' : World) (N : Nat) (a : Option Addr) (c : Nat) (m : List Int) : Prop where
  ri : RI w' w.heap.size w'.heap.size a m
  lp : LP N m
  cap : m.length ≤ c
theorem gotUpB {w1 w2 : World} {b B : Nat} {a : Option Addr} {m : List Int} (h : RI w1 B w1.heap.size a m) (hu : UpB b w1.heap.size w1 w2) (hb : b < B) : RI w2 B w1.heap.size a m := h.upB hu (Nat.le_refl _) (Nat.le_refl _) hb

/-- two lists that a law has drawn -/
def Dr2 (w : World) (N M : Nat) (e : Ending) (w' : World) : Prop := ∃ (a1 : Option Addr) (c1 : Nat) (m : List Int) (a2 : Option Addr) (c2 : Nat) (t : List Int), e = .returned (.tuple #[.slice a1 m.length c1, .slice a2 t.length c2]) ∧ (Got w w' N a1 c1 m ∧ Got w w' M a2 c2 t) ∧ Below w.heap.size w w'

end Go.Proofs.YtpioldgpfpmjiaaDoor
