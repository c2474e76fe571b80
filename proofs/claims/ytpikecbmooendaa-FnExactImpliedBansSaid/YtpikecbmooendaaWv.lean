/- Walks: patterns of the program as lists. -/
import Derived.Test.YtpikecbmooendaaWu
import Derived.Test.YtpikecbmooendaaWm
import Derived.Test.YtpikecbmooendaaWt
namespace Go.Proofs.Ytpikecbmooendaa
open Go.RowKit

def NewP (w : World) (ps : List (List Int)) (e : Ending) (w' : World) : Prop := ∃ v, e = .returned v ∧ OwnP w' w.heap.size v ps ∧ Below w.heap.size w w'

set_option maxRecDepth 100000 in
set_option maxHeartbeats 1000000 in
theorem i_patternsOf {m : List Int} {a : Option Addr} {c lo hi : Nat} {w : World} {t : Int} (hok : okM m = true) (hm : RI w lo hi a m) (hB : hi ≤ w.heap.size) (ht0 : 0 ≤ t) (ht1 : t ≤ m.length) :
    Calls Try.prog 79 #[.slice a m.length c, .int .i64 t] w (NewP w (patS m [] t)) := by
  have HC : Hid (Calls Try.prog 158 #[.slice none 0 0, .slice a m.length c, .agg #[.int .i64 ((fun _ => 0) 0), .int .i64 ((fun _ => 0) 1), .int .i64 ((fun _ => 0) 2), .int .i64 ((fun _ => 0) 3), .int .i64 ((fun _ => 0) 4)], .int .i64 0, .int .i64 t] w (AddP w w.heap.size (.slice none 0 0) ([] ++ patS m [] t))) :=
    i_addPatterns hok m.length [] a c lo hi w.heap.size w 0 t (.slice none 0 0) [] rfl (by simp) hm hB (Nat.le_refl _) (OwnP.nil _ _) (by have := okM_len hok; simp; omega) ht0 ht1
  go_enter Try.func79, Try.ntmps79
  go_wp2_with fail
  refine HC.out.mono ?_
  rintro e w2 ⟨v2, rfl, ho2, hg2⟩
  have hb : Below w.heap.size w w2 := ⟨hg2.gr.os, hg2.gr.tape, hg2.gr.output, hg2.gr.size, fun k hk => hg2.gr.block k hk (by simp [Value.ownBlock])⟩
  rw [List.nil_append] at ho2
  go_wp2
  go_ret
  exact ⟨v2, rfl, ho2, hb⟩

end Go.Proofs.Ytpikecbmooendaa
