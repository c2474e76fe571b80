/- Walks: slices.Sorted of few numbers; the sort behind it. -/
import Derived.Test.YtehoagbpgahopaaNj
namespace Go.Proofs.Ytehoagbpgahopaa
open Go.RowKit

def SomeN (w : World) (e : Ending) (w' : World) : Prop := ∃ v : Int, e = .returned (.int .i64 v) ∧ w' = w
set_option maxRecDepth 100000 in
set_option maxHeartbeats 2000000 in
theorem x_Len64 {n : Nat} {w : World} (h : n = 1 ∨ n = 2 ∨ n = 3 ∨ n = 4 ∨ n = 5) : Calls Try.prog 264 #[.int .u64 (n : Int)] w (SomeN w) := by
  rcases h with rfl | rfl | rfl | rfl | rfl
  all_goals
    go_enter Try.func264, Try.ntmps264
    go_wp2
    go_ret
    exact ⟨_, rfl, rfl⟩
set_option maxRecDepth 100000 in
set_option maxHeartbeats 2000000 in
theorem x_Len {n : Nat} {w : World} (h : n = 1 ∨ n = 2 ∨ n = 3 ∨ n = 4 ∨ n = 5) : Calls Try.prog 252 #[.int .u64 (n : Int)] w (SomeN w) := by
  go_enter Try.func252, Try.ntmps252
  go_wp2_with fail
  refine (x_Len64 h).mono ?_
  rintro e w1 ⟨v, rfl, rfl⟩
  go_wp2
  go_ret
  exact ⟨v, rfl, rfl⟩

set_option maxRecDepth 100000 in
set_option maxHeartbeats 4000000 in
theorem x_pdqI {l : List Int} {b o c lo hi : Nat} {z : Int} {w : World} (hm : OI w lo hi (some ⟨b, o, none⟩) l) (h0 : 0 < l.length) (hl : l.length ≤ 12) (hhi : hi ≤ w.heap.size) :
    Calls Try.prog 251 #[.slice (some ⟨b, o, none⟩) l.length c, .int .i64 0, .int .i64 (l.length : Int), .int .i64 z] w (SoP l b o lo hi w) := by
  have hle : decide ((l.length : Int) ≤ 12) = true := decide_eq_true (by omega)
  go_enter Try.func251, Try.ntmps251
  go_wp2
  go_loopw [1, 2, 3, 8, 9, 10] (fun a1 b1 _ _ _ _ wr => a1 = .int .i64 0 ∧ b1 = .int .i64 (l.length : Int) ∧ wr = w) (fun _ _ _ _ _ _ _ => 0)
  case atStart => exact ⟨rfl, rfl, rfl⟩
  case round =>
    obtain ⟨rfl, rfl, rfl⟩ := hrel
    go_wp2_with fail
    refine (x_insertI hm h0 hl hhi).mono ?_
    rintro e w1 ⟨S, rfl, h1, h2, h3, h4, h5⟩
    go_wp2
    go_end0
    exact ⟨S, rfl, h1, h2, h3, h4, h5⟩

set_option maxRecDepth 100000 in
set_option maxHeartbeats 2000000 in
theorem x_SortI {l : List Int} {b o c lo hi : Nat} {w : World} (hm : OI w lo hi (some ⟨b, o, none⟩) l) (h0 : 0 < l.length) (hl : l.length ≤ 5) (hhi : hi ≤ w.heap.size) :
    Calls Try.prog 234 #[.slice (some ⟨b, o, none⟩) l.length c] w (SoP l b o lo hi w) := by
  go_enter Try.func234, Try.ntmps234
  go_wp2_with fail
  refine (x_Len (n := l.length) (by omega)).mono ?_
  rintro e w1 ⟨v, rfl, rfl⟩
  go_wp2_with fail
  refine (x_pdqI hm h0 (by omega) hhi).mono ?_
  rintro e w1 ⟨S, rfl, h1, h2, h3, h4, h5⟩
  go_wp2
  go_end0
  exact ⟨S, rfl, h1, h2, h3, h4, h5⟩

end Go.Proofs.Ytehoagbpgahopaa
