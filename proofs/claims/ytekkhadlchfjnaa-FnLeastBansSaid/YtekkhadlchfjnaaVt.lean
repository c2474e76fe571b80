/- Drawn arguments that are those of another law, on bans. -/
import Derived.Test.YtekkhadlchfjnaaZp
namespace Go.Proofs.Ytekkhadlchfjnaa
open Go.RowKit

theorem s_DrawCompleteTest {n : Nat} {a : Option Addr} {c : Nat} {w : World} (hm : RB w w.heap.size a n) (hc : n ≤ c) (hl : n ≤ 1048576) :
    Calls Try.prog 26 #[.slice a n c] w (fun e w' => ∃ (a1 : Option Addr) (c1 : Nat) (m : List Int) (a2 : Option Addr) (c2 : Nat) (s : List (List Int)) (a3 : Option Addr) (c3 : Nat) (p : List Int), e = .returned (.tuple #[.slice a1 m.length c1, .slice a2 s.length c2, .slice a3 p.length c3]) ∧ (Got w w' 10 a1 c1 m ∧ GotS w w' 12 a2 c2 s ∧ Got w w' 11 a3 c3 p) ∧ Below w.heap.size w w') := by
  go_enter Try.func26, Try.ntmps26
  go_wp2_with fail
  refine (s_DrawIsPossible hm hc hl).mono ?_
  rintro e w1 ⟨a1, c1, m, a2, c2, s, a3, c3, p, rfl, h⟩
  go_wp2
  go_ret3
  exact ⟨_, _, m, _, _, s, _, _, p, rfl, h⟩

theorem s_DrawAllowedTests {n : Nat} {a : Option Addr} {c : Nat} {w : World} (hm : RB w w.heap.size a n) (hc : n ≤ c) (hl : n ≤ 1048576) :
    Calls Try.prog 17 #[.slice a n c] w (fun e w' => ∃ (a1 : Option Addr) (c1 : Nat) (m : List Int) (a2 : Option Addr) (c2 : Nat) (s : List (List Int)), e = .returned (.tuple #[.slice a1 m.length c1, .slice a2 s.length c2]) ∧ (Got w w' 10 a1 c1 m ∧ GotS w w' 12 a2 c2 s) ∧ Below w.heap.size w w') := by
  go_enter Try.func17, Try.ntmps17
  go_wp2_with fail
  refine (s_DrawValidBans hm hc hl).mono ?_
  rintro e w1 ⟨a1, c1, m, a2, c2, s, rfl, h⟩
  go_wp2
  go_ret2
  exact ⟨_, _, m, _, _, s, rfl, h⟩

theorem s_DrawLeastBans {n : Nat} {a : Option Addr} {c : Nat} {w : World} (hm : RB w w.heap.size a n) (hc : n ≤ c) (hl : n ≤ 1048576) :
    Calls Try.prog 30 #[.slice a n c] w (fun e w' => ∃ (a1 : Option Addr) (c1 : Nat) (m : List Int) (a2 : Option Addr) (c2 : Nat) (s : List (List Int)), e = .returned (.tuple #[.slice a1 m.length c1, .slice a2 s.length c2]) ∧ (Got w w' 10 a1 c1 m ∧ GotS w w' 12 a2 c2 s) ∧ Below w.heap.size w w') := by
  go_enter Try.func30, Try.ntmps30
  go_wp2_with fail
  refine (s_DrawValidBans hm hc hl).mono ?_
  rintro e w1 ⟨a1, c1, m, a2, c2, s, rfl, h⟩
  go_wp2
  go_ret2
  exact ⟨_, _, m, _, _, s, rfl, h⟩

end Go.Proofs.Ytekkhadlchfjnaa
