/- Walks: Matches; how often. -/
import Derived.Test.YtehoagbpgahopaaWf
namespace Go.Proofs.Ytehoagbpgahopaa
open Go.RowKit

set_option maxHeartbeats 400000 in
theorem i_Matches {m p t : List Int} {a a' a'' : Option Addr} {c c' c'' lo hi lo' hi' lo'' hi'' : Nat} {w : World} (hm : RI w lo hi a m) (hlm : m.length ≤ 9223372036854775807) (hp : RI w lo' hi' a' p) (hlp : p.length ≤ 9223372036854775807) (ht : RI w lo'' hi'' a'' t) (hlt : t.length ≤ 9223372036854775807)
    (hb' : hi' ≤ w.heap.size) (hb'' : hi'' ≤ w.heap.size) :
    Calls Try.prog 57 #[.slice a m.length c, .slice a' p.length c', .slice a'' t.length c''] w (NewV w (.bool (okM m && okP m p && okT m t && mB p t))) := by
  cases hop : (okM m && okP m p)
  · have HOP := Lib.hid hop; clear hop
    go_enter Try.func57, Try.ntmps57
    go_wp2_with fail
    refine (i_ValidPattern hm hlm hp hlp).mono ?_
    rintro e w' ⟨rfl, n1, rfl⟩
    rw [HOP.out]
    go_wp2
    go_ret
    exact ⟨rfl, bdrew (Below.refl _ _) _⟩
  have h0 : okM m = true ∧ okP m p = true := by simpa using hop
  have HOK := Lib.hid h0.1
  have HOK2 := Lib.hid h0.2
  have HOP := Lib.hid hop; clear hop h0
  cases hot : okT m t
  · have HOT := Lib.hid hot; clear hot
    go_enter Try.func57, Try.ntmps57
    go_wp2_with fail
    refine (i_ValidPattern hm hlm hp hlp).mono ?_
    rintro e w' ⟨rfl, hd⟩
    rw [HOP.out]
    go_wp2_with fail
    refine (i_ValidTest (hm.dr hd) hlm (ht.dr hd) hlt).mono ?_
    rintro e w'' ⟨rfl, n2, rfl⟩
    rw [HOT.out, Bool.and_false]
    go_wp2
    go_ret
    exact ⟨by first | rfl | simp, bdrew (Dr.below hd _) _⟩
  have HOT := Lib.hid hot; clear hot
  have h1 := okW_len HOK2.out
  have h2 := okW_len HOT.out
  have h5 := okM_len HOK.out
  have hlp5 : p.length ≤ 5 := by omega
  have hlt5 : t.length ≤ 5 := by omega
  have HE : Hid (meet5 (at5 p) (at5 t) = mB p t) := meet5_mB (by omega) hlp5
  clear h1 h2
  go_enter Try.func57, Try.ntmps57
  go_wp2_with fail
  refine (i_ValidPattern hm hlm hp hlp).mono ?_
  rintro e w1 ⟨rfl, hd⟩
  rw [HOP.out]
  go_wp2_with fail
  refine (i_ValidTest (hm.dr hd) hlm (ht.dr hd) hlt).mono ?_
  rintro e w2 ⟨rfl, hd2⟩
  rw [HOT.out, HOK.out, Bool.and_true]
  have hz1 := Dr.le hd
  have hz2 := Dr.le hd2
  have hp2 := (hp.dr hd).dr hd2
  have ht2 := (ht.dr hd).dr hd2
  have hB2 := bnext (Dr.below hd _) (Dr.below hd2 _)
  go_wp2_with fail
  refine (i_patternOf hp2 (by omega) hlp5).mono ?_
  rintro e w3 ⟨rfl, hb3⟩
  have hz3 := hb3.size
  have ht3 := ht2.below hb3 (by omega)
  have hB3 := bnext hB2 hb3
  go_wp2_with fail
  refine (i_patternOf ht3 (by omega) hlt5).mono ?_
  rintro e w4 ⟨rfl, hb4⟩
  have hB4 := bnext hB3 hb4
  go_wp2_with fail
  refine (i_meets (at5 p) (at5 t) _).mono ?_
  rintro e w5 ⟨rfl, hb5⟩
  have hB5 := bnext hB4 hb5
  go_wp2
  go_ret
  exact ⟨by rw [HE.out]; first | rfl | simp, hB5⟩

end Go.Proofs.Ytehoagbpgahopaa
