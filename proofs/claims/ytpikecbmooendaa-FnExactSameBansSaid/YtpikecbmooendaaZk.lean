/- Walks: the functions on bans, by the program. -/
import Derived.Test.YtpikecbmooendaaZe
import Derived.Test.YtpikecbmooendaaZj
namespace Go.Proofs.Ytpikecbmooendaa
open Go.RowKit

set_option maxHeartbeats 1000000 in
theorem i_isPossible {m p : List Int} {b : List (List Int)} {v : Value} {a : Option Addr} {c lo hi B : Nat} {w0 w : World} (hm : RI w lo hi a m) (hhi : hi ≤ w.heap.size) (ho : OwnBn w0 B v b) (hb0 : Below w0.heap.size w0 w) (hok : okM m = true) (hob : okBn m b = true) (hop : okP m p = true) :
    Calls Try.prog 119 #[.agg #[.slice a m.length c, v], .agg #[.int .i64 (at5 p 0), .int .i64 (at5 p 1), .int .i64 (at5 p 2), .int .i64 (at5 p 3), .int .i64 (at5 p 4)]] w (NewV w (.bool (hasP (alL m b) p))) := by
  have hs0 := hb0.size
  have HOK := Lib.hid hok; have HOB := Lib.hid hob; have HOP := Lib.hid hop
  have HCT := Lib.hid (ct_has m b p)
  obtain ⟨A0, A1, AB⟩ := al2 w (.cells #[.slice a m.length c, v] 98) (.cells #[.int .i64 (at5 p 0), .int .i64 (at5 p 1), .int .i64 (at5 p 2), .int .i64 (at5 p 3), .int .i64 (at5 p 4)] 62)
  have hm2 := hm.below AB hhi
  replace AB := Lib.hid AB
  clear hok hob hop A0 A1 hm
  obtain ⟨O, hO⟩ : ∃ O, ctO m b p = O := ⟨_, rfl⟩
  have HO := Lib.hid hO
  go_enter Try.func119, Try.ntmps119
  go_wp2_with fail
  refine (i_completed hm2 (by simp; omega) ho (hb0.trans (AB.out.mono hs0)) HOK.out HOB.out HOP.out).mono ?_
  rintro e w3 ⟨rfl, hb3⟩
  rw [hO]
  clear hO
  go_wp2
  go_ret
  refine ⟨by rw [← HCT.out, HO.out]; rfl, ?_⟩
  exact (AB.out.trans (hb3.mono (B' := w.heap.size) (by simp; omega))).alloc (by have := hb3.size; simp at this; omega) _

set_option maxHeartbeats 1000000 in
theorem i_canExplain {m : List Int} {s : List (List Int)} {p : List Int} {a a1 a3 : Option Addr} {c c1 c3 lo hi lo1 hi1 lo3 hi3 : Nat} {w : World} (hm : RI w lo hi a m) (hlm : m.length ≤ 9223372036854775807) (hs : RII w lo1 hi1 a1 s) (hls : s.length ≤ 9223372036854775807) (hg : ∀ r ∈ s, r.length ≤ 9223372036854775807) (hp : RI w lo3 hi3 a3 p) (hlp : p.length ≤ 9223372036854775807) :
    Calls Try.prog 127 #[.slice a m.length c, .slice a1 s.length c1, .slice a3 p.length c3] w (RO w (.bool (okM m && okBn m s && okP m p))) := by
  have HG := Lib.hid hg; clear hg
  cases hB : okM m && okBn m s
  · have HB := Lib.hid hB; clear hB
    go_enter Try.func127, Try.ntmps127
    go_wp2_with fail
    refine (i_ValidBans hm hlm hs hls HG.out).mono ?_
    rintro e w1 ⟨rfl, d1⟩
    rw [HB.out]
    go_wp2
    go_ret
    exact Dr.boolD d1 (by simp)
  · have HB := Lib.hid hB
    have hok : okM m = true := by rw [Bool.and_eq_true] at hB; exact hB.1
    have HOK := Lib.hid hok
    clear hB hok
    go_enter Try.func127, Try.ntmps127
    go_wp2_with fail
    refine (i_ValidBans hm hlm hs hls HG.out).mono ?_
    rintro e w1 ⟨rfl, d1⟩
    rw [HB.out]
    go_wp2_with fail
    refine (i_ValidPattern (hm.dr d1) hlm (hp.dr d1) hlp).mono ?_
    rintro e w2 ⟨rfl, d2⟩
    rw [HOK.out, Bool.true_and]
    go_wp2
    go_ret
    exact Dr.boolD (Dr.trans d1 d2) (by simp)


end Go.Proofs.Ytpikecbmooendaa
