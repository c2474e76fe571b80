/- The walk of FnExactRunDesk: it returns true and writes nothing that was there. -/
import Derived.Test.YtpioldgpfpmjiaaGreatDoorKv
import Derived.Test.YtpioldgpfpmjiaaGreatDoorKy
namespace Go.Proofs.YtpioldgpfpmjiaaGreatDoor
open Go.RowKit

set_option maxRecDepth 100000 in
set_option maxHeartbeats 4000000 in
theorem law_RunDesk {m0 : List ByteArray} {a0 : Option Addr} {c0 : Nat} {w : World} {x0 x1 : Addr} (f0 : RSt w w.heap.size a0 m0) (l0 : m0.length ≤ 9223372036854775807) (g0 : ∀ p ∈ m0, p.size ≤ 9223372036854775807) (hD : DeskW w x0 x1) :
    Calls Tryz.prog 3 #[.slice a0 m0.length c0] w (Tru w) := by
  have hne := strNeqY (rdT m0)
  go_enter Tryz.func3, Tryz.ntmps3
  go_wp2_with fail
  refine (l_szStringS f0 l0 g0).mono ?_
  rintro e w1 ⟨r, rfl, d1, hr⟩
  have b1 := Dr.below d1 w.heap.size
  have z1 := b1.size
  rcases hr with rfl | ⟨hr0, hr1, hlm, HG⟩
  · go_wp2
    go_ret
    exact ⟨rfl, b1⟩
  have f1 := f0.dr d1
  have hD1 := hD.below b1 (Nat.le_refl _)
  clear d1
  go_wp2_with fail
  refine (l_toStringS f1 (by omega) hlm).mono ?_
  rintro e w2 ⟨rfl, y2, n2, b2⟩
  have B2 := bnext b1 b2
  have f2 := f1.below b2 (by omega)
  have hD2 := hD1.below b2 (Nat.le_refl _)
  have z2 := b2.size
  clear b2 b1 f1 hD1 f0 hD
  go_wp2_with fail
  refine (s_RunDesk y2 (by omega) HG.out (by omega)).mono ?_
  rintro e w3 ⟨rfl, b3⟩
  have B3 := bnext B2 b3
  have f3 := f2.below b3 (by omega)
  have hD3 := hD2.below b3 (Nat.le_refl _)
  have z3 := b3.size
  clear b3 B2 f2 hD2 y2
  go_wp2_with fail
  refine (l_toStringS f3 (by omega) hlm).mono ?_
  rintro e w4 ⟨rfl, y4, n4, b4⟩
  have B4 := bnext B3 b4
  have f4 := f3.below b4 (by omega)
  have hD4 := hD3.below b4 (Nat.le_refl _)
  have z4 := b4.size
  clear b4 B3 f3 hD3
  go_wp2_with fail
  refine (i_RunDesk y4 (by omega) HG.out (by omega) hD4).mono ?_
  rintro e w5 ⟨rfl, b5⟩
  have B5 := bnext B4 b5
  have f5 := f4.below b5 (by omega)
  have y5 := y4.below b5 (by omega)
  have z5 := b5.size
  clear b5 B4 f4 hD4 y4
  obtain ⟨R, hR⟩ : ∃ R, rdT m0 = R := ⟨_, rfl⟩
  rw [hR] at hne
  rw [hR]
  clear hR
  go_wp2_with fail
  refine (l_toStringS f5 (by omega) hlm).mono ?_
  rintro e w6 ⟨rfl, y6, n6, b6⟩
  have B6 := bnext B5 b6
  have y56 := y5.below b6 (by omega)
  clear b6 B5 f5 y5
  go_wp2_with fail
  refine (l_eqStringS y56 y6 hlm).mono ?_
  rintro e w7 ⟨rfl, d7⟩
  have B7 := bnext B6 (Dr.below d7 w6.heap.size)
  go_wp2
  go_ret
  exact ⟨rfl, B7⟩

end Go.Proofs.YtpioldgpfpmjiaaGreatDoor
