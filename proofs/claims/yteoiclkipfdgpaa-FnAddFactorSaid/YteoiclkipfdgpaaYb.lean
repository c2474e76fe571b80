/- Walks: MissingOf, CoverageOf, IsCovering. -/
import Derived.Test.YteoiclkipfdgpaaYa
namespace Go.Proofs.Yteoiclkipfdgpaa
open Go.RowKit


theorem moL_sum {m : List Int} {s : List (List Int)} {t : Int} : sumL (moL m s t) ≤ 5120 := by
  have h1 := sumL_le (n := 5) (mm := moL m s t) fun r hr => by have := moL_row r hr; omega
  have h2 := @moL_len m s t
  omega
theorem moL_gr {m : List Int} {s : List (List Int)} {t : Int} : True ∧ ∀ r ∈ moL m s t, r.length ≤ 4611686018427387904 := ⟨trivial, fun r hr => by have := moL_row r hr; omega⟩
theorem GotII.none {w w' : World} {l : List (List Int)} (h : l = []) (hb : Below w.heap.size w w') : GotII w l (.returned (.slice none 0 0)) w' := by
  subst h
  exact ⟨_, _, rfl, RIIc.nil _ _ _ _ _, hb⟩

set_option maxHeartbeats 1000000 in
theorem i_IsCovering {m : List Int} {s : List (List Int)} {a a' : Option Addr} {c c' lo hi lo' hi' : Nat} {w : World} {t : Int} (hm : RI w lo hi a m) (hlm : m.length ≤ 9223372036854775807) (hs : RII w lo' hi' a' s) (hls : s.length ≤ 9223372036854775807) (hg : ∀ r ∈ s, r.length ≤ 9223372036854775807) (_ht0 : -9223372036854775808 ≤ t) (_ht1 : t ≤ 9223372036854775807) (hB : hi ≤ w.heap.size) (hB' : hi' ≤ w.heap.size) :
    Calls Try.prog 18 #[.slice a m.length c, .slice a' s.length c', .int .i64 t] w (NewV w (.bool (icB m s t))) := by
  have HG := Lib.hid hg; clear hg
  cases hc : okC m s t
  · have HC := Lib.hid hc; clear hc
    go_enter Try.func18, Try.ntmps18
    go_wp2_with fail
    refine (i_canCover hm hlm hs hls HG.out).mono ?_
    rintro e w1 ⟨rfl, hd⟩
    rw [HC.out]
    go_wp2
    go_ret
    rw [ic_no HC.out]
    exact ⟨rfl, Dr.below hd _⟩
  have hp := okC_parts hc
  have HR := Lib.hid hp.2.2.2
  have hsl := hp.2.2.1
  have ht := hp.2.1
  have HOK := Lib.hid hp.1
  have HC := Lib.hid hc; clear hc hp
  go_enter Try.func18, Try.ntmps18
  go_wp2_with fail
  refine (i_canCover hm hlm hs hls HG.out).mono ?_
  rintro e w1 ⟨rfl, hd⟩
  rw [HC.out]
  have hz1 := Dr.le hd
  go_wp2_with fail
  refine (i_missingPatterns HOK.out (hm.dr hd) (by omega) (hs.dr hd) (by omega) (by omega) HR.out ht.1 ht.2).mono ?_
  rintro e w3 ⟨v3, rfl, h3, hb3⟩
  obtain ⟨a3, c3, rfl, _⟩ := h3.at
  have hb03 := (Dr.below hd w.heap.size).trans (hb3.mono (by omega))
  go_wp2
  go_ret
  rw [ic_yes HC.out]
  exact ⟨rfl, hb03⟩

end Go.Proofs.Yteoiclkipfdgpaa
