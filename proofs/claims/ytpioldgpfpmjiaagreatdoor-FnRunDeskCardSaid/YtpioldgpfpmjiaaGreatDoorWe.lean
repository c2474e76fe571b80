/- Walks: the strength of a pattern; a test that matches a pattern; patterns as arrays. -/
import Derived.Test.YtpioldgpfpmjiaaGreatDoorWc
import Derived.Laws.CopyOwn
namespace Go.Proofs.YtpioldgpfpmjiaaGreatDoor
open Go.RowKit

set_option maxHeartbeats 400000 in
theorem s_matches {p t : List Int} {a a' : Option Addr} {c c' lo hi lo' hi' : Nat} {w : World} (hp : RI w lo hi a p) (ht : RI w lo' hi' a' t) (hl : p.length ≤ t.length) (hl' : t.length ≤ 9223372036854775807) :
    Calls Tryz.prog 54 #[.slice a p.length c, .slice a' t.length c'] w (RO w (.bool (mB p t))) := by
  go_enter Tryz.func54, Tryz.ntmps54
  go_wp2
  go_loopw [5] (fun i wr => ∃ k : Nat, k ≤ p.length ∧ i = .int .i64 k ∧ Dr w wr ∧ Hid (((p.zip t).take k).all (fun q => q.1 == -1 || q.1 == q.2) = true)) (fun i _ => p.length - (intOf i).toNat)
  case atStart => exact ⟨0, Nat.zero_le _, rfl, Dr.refl _, by simp [Hid]⟩
  case round =>
    obtain ⟨k, hk, rfl, hd, hA⟩ := hrel
    by_cases hlt : k < p.length
    · obtain ⟨b, o, x, ha, _, _, hcell, hx⟩ := (hp.dr hd).at hlt
      obtain ⟨b2, o2, y, ha2, _, _, hcell2, hy⟩ := (ht.dr hd).at (show k < t.length by omega)
      have hidx := idxI ha hlt c
      have hidx2 := idxI ha2 (show k < t.length by omega) c'
      clear ha ha2 hp ht
      by_cases hx1 : x = -1
      · have HX := Lib.hid hx1
        have hc : (x != -1) = false := by rw [hx1]; rfl
        clear hx1
        go_wp2_with fail
        go_quiet (fail)
        go_wp2
        go_roundw
        case rel => exact ⟨k + 1, by omega, by go_num, hd.drewN _, mB_step hx.out hy.out hA.out (.inl HX.out)⟩
        case measure => simp [intOf]; omega
      · have HX := Lib.hid hx1
        have hc : (x != -1) = true := by rw [bne_iff_ne]; exact hx1
        clear hx1
        by_cases hxy : x = y
        · have HXY := Lib.hid hxy
          have hc2 : (x != y) = false := by rw [hxy]; exact bne_self_eq_false y
          clear hxy
          go_wp2_with fail
          go_quiet (fail)
          go_wp2
          go_roundw
          case rel => exact ⟨k + 1, by omega, by go_num, hd.drewN _, mB_step hx.out hy.out hA.out (.inr HXY.out)⟩
          case measure => simp [intOf]; omega
        · have HXY := Lib.hid hxy
          have hc2 : (x != y) = true := by rw [bne_iff_ne]; exact hxy
          clear hxy
          go_wp2_with fail
          go_quiet (fail)
          go_wp2
          go_ret
          exact (hd.drewN _).boolD (b := false) (mB_fails hx.out hy.out HX.out HXY.out).symm
    · go_wp2
      go_ret
      exact hd.boolD (mB_end (by omega) hA.out).symm

end Go.Proofs.YtpioldgpfpmjiaaGreatDoor
