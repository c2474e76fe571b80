/- Walks: what the laws on runs draw. -/
import Derived.Test.YtkboggohkhjciaaUz
import Derived.Test.YtkboggohkhjciaaUq
namespace Go.Proofs.Ytkboggohkhjciaa
open Go.RowKit

/-- runs that were drawn -/
structure GotR (w w' : World) (n : Int) (a : Option Addr) (c : Nat) (mm : List (List Int)) : Prop where
  n0 : 0 ≤ n
  n6 : n ≤ 6
  ric : RIIc w' w.heap.size w'.heap.size a c mm
  len : mm.length ≤ 21
  row : R6 mm
def DrR (w : World) (e : Ending) (w' : World) : Prop := ∃ (n : Int) (a : Option Addr) (c : Nat) (mm : List (List Int)), e = .returned (.tuple #[.int .i64 n, .slice a mm.length c]) ∧ GotR w w' n a c mm ∧ Below w.heap.size w w'
def DrRt (w : World) (e : Ending) (w' : World) : Prop := ∃ (n : Int) (a : Option Addr) (c : Nat) (mm : List (List Int)) (t : Int), e = .returned (.tuple #[.int .i64 n, .slice a mm.length c, .int .i64 t]) ∧ (GotR w w' n a c mm ∧ -1 ≤ t ∧ t ≤ 4) ∧ Below w.heap.size w w'

set_option maxRecDepth 100000 in
set_option maxHeartbeats 1000000 in
theorem s_DrawValidRuns {n : Nat} {a : Option Addr} {c : Nat} {w : World} (hm : RB w w.heap.size a n) (hc : n ≤ c) (hl : n ≤ 1048576) :
    Calls Try.prog 11 #[.slice a n c] w (DrR w) := by
  go_enter Try.func11, Try.ntmps11
  go_wp2_with fail
  refine (s_newReader hm hc hl).mono ?_
  rintro e w1 ⟨rfl, hr1, hb1⟩
  have hlt1 := hr1.lt
  go_wp2_with fail
  refine (s_someRuns hr1 (by omega)).mono ?_
  rintro e w2 ⟨N, a2, c2, mm, rfl, h2, ⟨⟨hN0, hN6⟩, hlen, hR⟩, hr2, hU2⟩
  have hs1 := hb1.size
  obtain ⟨a3, c3, e3, hX⟩ := h2.riic
  cases e3
  go_wp2
  go_ret2
  exact ⟨N, a2, c2, mm, rfl, ⟨hN0, hN6, hX.wide (by omega) (Nat.le_refl _), hlen, hR⟩, hb1.trans (hU2.toBelow (by omega) (by omega))⟩

set_option maxRecDepth 100000 in
set_option maxHeartbeats 1000000 in
theorem s_DrawUnseenOf {n : Nat} {a : Option Addr} {c : Nat} {w : World} (hm : RB w w.heap.size a n) (hc : n ≤ c) (hl : n ≤ 1048576) :
    Calls Try.prog 25 #[.slice a n c] w (DrRt w) := by
  go_enter Try.func25, Try.ntmps25
  go_wp2_with fail
  refine (s_newReader hm hc hl).mono ?_
  rintro e w1 ⟨rfl, hr1, hb1⟩
  have hlt1 := hr1.lt
  go_wp2_with fail
  refine (s_someRuns hr1 (by omega)).mono ?_
  rintro e w2 ⟨N, a2, c2, mm, rfl, h2, ⟨⟨hN0, hN6⟩, hlen, hR⟩, hr2, hU2⟩
  have hs1 := hb1.size
  have hlt2 := hr2.lt
  have hb3 := (Below.refl w2.heap.size w2).alloc (Nat.le_refl _) (.cells #[.int .i64 2, .int .i64 3, .int .i64 1, .int .i64 0, .int .i64 2, .int .i64 4, .int .i64 (-1)] 3)
  go_wp2_with fail
  refine (s_one (hr2.below hb3 hlt2) (by omega) (litW w2 _ [2, 3, 1, 0, 2, 4, -1] rfl) (by simp) (by simp) (.inr hlt2) (by simp)).mono ?_
  rintro e w3 ⟨t, rfl, ht, hr3, hu3⟩
  have ht3 : -1 ≤ t ∧ t ≤ 4 := by simp at ht; omega
  have h3 := (h2.below hb3).upd hu3 hlt1
  have hU3 := (hU2.below hb3 (by have := hU2.size; omega)).upd hu3
  obtain ⟨a3, c3, e3, hX⟩ := h3.riic
  cases e3
  clear ht hb3 hu3 h2
  go_wp2
  go_ret3
  exact ⟨N, a2, c2, mm, t, rfl, ⟨⟨hN0, hN6, hX.wide (by omega) (Nat.le_refl _), hlen, hR⟩, ht3.1, ht3.2⟩, hb1.trans (hU3.toBelow (by omega) (by omega))⟩

set_option maxRecDepth 100000 in
set_option maxHeartbeats 1000000 in
theorem s_DrawDropEvent {n : Nat} {a : Option Addr} {c : Nat} {w : World} (hm : RB w w.heap.size a n) (hc : n ≤ c) (hl : n ≤ 1048576) :
    Calls Try.prog 38 #[.slice a n c] w (DrRt w) := by
  go_enter Try.func38, Try.ntmps38
  go_wp2_with fail
  refine (s_newReader hm hc hl).mono ?_
  rintro e w1 ⟨rfl, hr1, hb1⟩
  have hlt1 := hr1.lt
  go_wp2_with fail
  refine (s_someRuns hr1 (by omega)).mono ?_
  rintro e w2 ⟨N, a2, c2, mm, rfl, h2, ⟨⟨hN0, hN6⟩, hlen, hR⟩, hr2, hU2⟩
  have hs1 := hb1.size
  have hlt2 := hr2.lt
  have hb3 := (Below.refl w2.heap.size w2).alloc (Nat.le_refl _) (.cells #[.int .i64 0, .int .i64 1, .int .i64 2, .int .i64 4, .int .i64 (-1)] 3)
  go_wp2_with fail
  refine (s_one (hr2.below hb3 hlt2) (by omega) (litW w2 _ [0, 1, 2, 4, -1] rfl) (by simp) (by simp) (.inr hlt2) (by simp)).mono ?_
  rintro e w3 ⟨t, rfl, ht, hr3, hu3⟩
  have ht3 : -1 ≤ t ∧ t ≤ 4 := by simp at ht; omega
  have h3 := (h2.below hb3).upd hu3 hlt1
  have hU3 := (hU2.below hb3 (by have := hU2.size; omega)).upd hu3
  obtain ⟨a3, c3, e3, hX⟩ := h3.riic
  cases e3
  clear ht hb3 hu3 h2
  go_wp2
  go_ret3
  exact ⟨N, a2, c2, mm, t, rfl, ⟨⟨hN0, hN6, hX.wide (by omega) (Nat.le_refl _), hlen, hR⟩, ht3.1, ht3.2⟩, hb1.trans (hU3.toBelow (by omega) (by omega))⟩

set_option maxRecDepth 100000 in
theorem s_DrawIsOrdering {n : Nat} {a : Option Addr} {c : Nat} {w : World} (hm : RB w w.heap.size a n) (hc : n ≤ c) (hl : n ≤ 1048576) :
    Calls Try.prog 29 #[.slice a n c] w (DrRt w) := by
  go_enter Try.func29, Try.ntmps29
  go_wp2_with fail
  refine (s_DrawUnseenOf hm hc hl).mono ?_
  rintro e w1 ⟨N, a1, c1, mm, t, rfl, hG, hb⟩
  go_wp2
  go_ret3
  exact ⟨N, a1, c1, mm, t, rfl, hG, hb⟩

end Go.Proofs.Ytkboggohkhjciaa
