/- Walks: slices.Sorted of few numbers. -/
import Derived.Test.YtehoagbpgahopaaNh
import Derived.Test.YtehoagbpgahopaaNi
namespace Go.Proofs.Ytehoagbpgahopaa
open Go.RowKit

set_option maxHeartbeats 1000000 in
theorem x_isNaNI {x : Int} {w : World} : Calls Try.prog 270 #[.int .i64 x] w (RO w (.bool false)) := by
  have hx : (x != x) = false := by simp
  go_enter Try.func270, Try.ntmps270
  go_wp2
  go_ret
  exact ⟨rfl, Dr.refl _⟩
set_option maxHeartbeats 1000000 in
theorem x_LessI {x y : Int} {w : World} : Calls Try.prog 260 #[.int .i64 x, .int .i64 y] w (RO w (.bool (decide (x < y)))) := by
  cases hxy : decide (x < y)
  · go_enter Try.func260, Try.ntmps260
    go_wp2_with fail
    refine (x_isNaNI (x := x)).mono ?_
    rintro e w1 ⟨rfl, d1⟩
    go_wp2
    go_ret
    exact ⟨rfl, d1⟩
  · go_enter Try.func260, Try.ntmps260
    go_wp2_with fail
    refine (x_isNaNI (x := x)).mono ?_
    rintro e w1 ⟨rfl, d1⟩
    go_wp2
    go_ret
    exact ⟨rfl, d1⟩

def SoP (l : List Int) (b o lo hi : Nat) (w : World) (e : Ending) (w' : World) : Prop := ∃ S : List Int, e = .returned (.tuple #[]) ∧ S.Perm l ∧ S.Pairwise (· ≤ ·) ∧ OI w' lo hi (some ⟨b, o, none⟩) S ∧ Upd lo hi w w' ∧ w.heap.size = w'.heap.size

set_option maxRecDepth 100000 in
set_option maxHeartbeats 4000000 in
theorem x_insertI {l : List Int} {b o c lo hi : Nat} {w : World} (hm : OI w lo hi (some ⟨b, o, none⟩) l) (h0 : 0 < l.length) (hl : l.length ≤ 12) (hhi : hi ≤ w.heap.size) :
    Calls Try.prog 254 #[.slice (some ⟨b, o, none⟩) l.length c, .int .i64 0, .int .i64 (l.length : Int)] w (SoP l b o lo hi w) := by
  obtain ⟨M, hM⟩ : ∃ M, l.length = M := ⟨_, rfl⟩
  have HM := Lib.hid hM
  rw [hM] at hl h0 ⊢
  have hP0 : Hid (l.Perm l) := List.Perm.refl _
  have hS1 : Hid (insS l 1) := insS_one l
  clear hM
  go_enter Try.func254, Try.ntmps254
  go_wp2
  go_loopw [6, 7] (fun i _ wr => ∃ (k : Nat) (S : List Int), k ≤ M ∧ 1 ≤ k ∧ i = .int .i64 k ∧ Hid (S.Perm l) ∧ Hid (insS S k) ∧ OI wr lo hi (some ⟨b, o, none⟩) S ∧ Upd lo hi w wr ∧ w.heap.size = wr.heap.size) (fun i _ _ => M - (intOf i).toNat)
  case atStart => exact ⟨1, l, h0, Nat.le_refl _, rfl, hP0, hS1, hm, Upd.refl _ _ _, rfl⟩
  case round =>
    clear hm hP0 hS1
    obtain ⟨k, S, hk, hk1, rfl, HP, HS, ho, hu, hsz⟩ := hrel
    by_cases hlt : k < M
    · have hJ0 : Hid (insJ S k k) := insJ_start HS.out
      have HSZ := Lib.hid hsz
      clear hsz
      go_wp2
      go_loopw [7] (fun j wr => ∃ (q : Nat) (T : List Int), q ≤ k ∧ j = .int .i64 q ∧ Hid (T.Perm l) ∧ Hid (insJ T k q) ∧ OI wr lo hi (some ⟨b, o, none⟩) T ∧ Upd lo hi w wr ∧ Hid (w.heap.size = wr.heap.size)) (fun j _ => (intOf j).toNat)
      case atStart => exact ⟨k, S, Nat.le_refl _, rfl, HP, hJ0, ho, hu, HSZ⟩
      case round =>
        clear hJ0 ho hu HSZ HP HS
        obtain ⟨q, T, hq, rfl, HP, HJ, ho, hu, HSZ⟩ := hrel
        have hTl : Hid (T.length = M) := by show _ = _; rw [HP.out.length_eq]; exact HM.out
        by_cases hq0 : q = 0
        · subst hq0
          have hS2 : Hid (insS T (k + 1)) := insJ_zero HJ.out
          go_wp2_with fail
          go_quiet (fail)
          go_wp2
          go_roundw
          case rel => exact ⟨k + 1, T, by omega, by omega, by go_num, HP, hS2, ho, hu.trans ⟨rfl, rfl, rfl, Nat.le_refl _, fun _ _ _ => rfl⟩, HSZ.out⟩
          case measure => simp [intOf]; omega
        obtain ⟨p, rfl⟩ : ∃ p, q = p + 1 := ⟨q - 1, by omega⟩
        obtain ⟨b1, o1, e1, hb1, hb2, ⟨x, hx, hc1⟩, hf1⟩ := ho p (by have := hTl.out; omega)
        obtain ⟨b2, o2, e2, _, _, ⟨y, hy, hc2⟩, hf2⟩ := ho (p + 1) (by have := hTl.out; omega)
        obtain ⟨rfl, rfl⟩ : b = b1 ∧ o = o1 := by simpa using e1
        obtain ⟨rfl, rfl⟩ : b = b2 ∧ o = o2 := by simpa using e2
        have HX := Lib.hid hx
        have HY := Lib.hid hy
        have hpM : p + 1 < M := by omega
        have hi1 := idxI (a := some ⟨b, o, none⟩) rfl (show p < M by omega) c
        have hi2 := idxI (a := some ⟨b, o, none⟩) rfl hpM c
        have hw : IntKind.i64.wrap (((p + 1 : Nat) : Int) - 1) = (p : Int) := by rw [IntWalk.i64_in _ (by omega)]; omega
        have hgt : decide ((0 : Int) < ((p + 1 : Nat) : Int)) = true := decide_eq_true (by omega)
        have hgt2 : decide (0 < p + 1) = true := decide_eq_true (by omega)
        obtain ⟨Q, hQ⟩ : ∃ Q, p + 1 = Q := ⟨_, rfl⟩
        rw [hQ] at hc2 hf2 hi2 hw hgt hgt2
        have HQ := Lib.hid hQ
        have hQM : Q < M := by omega
        have hQk : Q ≤ k := by omega
        rw [hQ]
        clear e1 e2 hx hy hQ
        by_cases hxy : y < x
        · have hd : decide (y < x) = true := decide_eq_true hxy
          have hJ2 : Hid (insJ (swJ T p x y) k p) := insJ_step HJ.out HX.out HY.out hxy (by have := HQ.out; omega)
          have hP2 : Hid ((swJ T p x y).Perm l) := (swJ_perm HX.out HY.out).trans HP.out
          have hs1 := ho.set (show p + 1 < T.length by have := hTl.out; have := HQ.out; omega) x
          have hs2 := OI.set hs1 (show p < (T.set (p + 1) x).length by rw [List.length_set]; have := hTl.out; omega) y
          rw [HQ.out] at hs2
          have HS2 : Hid (OI ((wr.setCell ⟨b, o + Q, none⟩ (.int .i64 x)).setCell ⟨b, o + p, none⟩ (.int .i64 y)) lo hi (some ⟨b, o, none⟩) (swJ T p x y)) := by
            show OI _ _ _ _ _
            unfold swJ
            rw [HQ.out]; exact hs2
          have hne : o + Q ≠ o + p := by have := HQ.out; omega
          have HC := Lib.hid (fun nn => x_LessI (x := y) (y := x) (w := wr.drewN nn))
          rw [hd] at HC
          clear hs1 hs2 ho hxy
          go_wp2_with fail
          go_quiet (exact Calls.quiet_of (HC.out _))
          go_wp2_with fail
          go_region
          go_wp2
          go_roundw
          case rel => exact ⟨p, swJ T p x y, by omega, by go_num, hP2, hJ2, HS2.out.same fun _ _ _ => rfl, ((hu.setCell (p := ⟨b, o + Q, none⟩) hb1 hb2 _).setCell (p := ⟨b, o + p, none⟩) hb1 hb2 _).trans ⟨rfl, rfl, rfl, Nat.le_refl _, fun _ _ _ => rfl⟩, HSZ.out.trans (by show _ = ((wr.setCell _ _).setCell _ _).heap.size; simp [World.setCell])⟩
          case measure => have := HQ.out; simp [intOf]; omega
        · have hd : decide (y < x) = false := decide_eq_false hxy
          have hS2 : Hid (insS T (k + 1)) := insJ_done HJ.out HX.out HY.out (by omega)
          have HC := Lib.hid (fun nn => x_LessI (x := y) (y := x) (w := wr.drewN nn))
          rw [hd] at HC
          clear hxy
          go_wp2_with fail
          go_quiet (exact Calls.quiet_of (HC.out _))
          go_wp2
          go_roundw
          case rel => exact ⟨k + 1, T, by omega, by omega, by go_num, HP, hS2, ho, hu.trans ⟨rfl, rfl, rfl, Nat.le_refl _, fun _ _ _ => rfl⟩, HSZ.out⟩
          case measure => simp [intOf]; omega
    · have hkM : k = M := by omega
      have hfin : Hid (S.Pairwise (· ≤ ·)) := insS_pair (by have h := HS.out; rw [hkM] at h; rw [HP.out.length_eq, HM.out]; exact h)
      clear hkM
      go_wp2
      go_end0
      exact ⟨S, rfl, HP.out, hfin.out, ho, hu, hsz⟩

end Go.Proofs.Ytehoagbpgahopaa
