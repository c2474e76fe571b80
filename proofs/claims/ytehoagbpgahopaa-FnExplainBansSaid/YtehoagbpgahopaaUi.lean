/- Walks: a slice of numbers reversed in place, by the library. -/
import Derived.Test.YtehoagbpgahopaaOwn
namespace Go.Proofs.Ytehoagbpgahopaa
open Go Go.RowKit

/-- a list whose first i and last i numbers have changed places -/
def rvK (l : List Int) (i : Nat) : List Int := (List.range l.length).map fun p => if p < i ∨ l.length ≤ p + i then l.getD (l.length - 1 - p) 0 else l.getD p 0
theorem rvK_len (l : List Int) (i : Nat) : (rvK l i).length = l.length := by simp [rvK]
theorem rvK_at {l : List Int} {i p : Nat} (hp : p < l.length) : (rvK l i)[p]? = some (if p < i ∨ l.length ≤ p + i then l.getD (l.length - 1 - p) 0 else l.getD p 0) := by
  simp [rvK, hp]
theorem rvK_zero (l : List Int) : rvK l 0 = l := by
  refine List.ext_getElem? fun p => ?_
  by_cases hp : p < l.length
  · rw [rvK_at hp, if_neg (by omega), List.getElem?_eq_getElem hp]; simp [List.getD, hp]
  · rw [List.getElem?_eq_none (by rw [rvK_len]; omega), List.getElem?_eq_none (by omega)]
theorem rvK_succ {l : List Int} {i : Nat} (hi : i < l.length - 1 - i) : rvK l (i + 1) = ((rvK l i).set i (l.getD (l.length - 1 - i) 0)).set (l.length - 1 - i) (l.getD i 0) := by
  refine List.ext_getElem? fun p => ?_
  by_cases hp : p < l.length
  · rw [rvK_at hp, List.getElem?_set, List.getElem?_set]
    simp only [List.length_set, rvK_len]
    by_cases h1 : l.length - 1 - i = p
    · rw [if_pos h1, if_pos (by omega), if_pos (by omega)]; congr 2; omega
    · rw [if_neg h1]
      by_cases h2 : i = p
      · rw [if_pos h2, if_pos (by omega), if_pos (by omega)]; congr 2; omega
      · rw [if_neg h2, rvK_at hp]
        congr 1
        by_cases h3 : p < i ∨ l.length ≤ p + i
        · rw [if_pos h3, if_pos (by omega)]
        · rw [if_neg h3, if_neg (by omega)]
  · rw [List.getElem?_eq_none (by rw [rvK_len]; omega), List.getElem?_eq_none (by simp [rvK_len]; omega)]
theorem rvK_end {l : List Int} {i : Nat} (hi : l.length ≤ 2 * i + 1) : rvK l i = l.reverse := by
  refine List.ext_getElem? fun p => ?_
  by_cases hp : p < l.length
  · rw [rvK_at hp, List.getElem?_reverse hp]
    have e : l.length - 1 - p < l.length := by omega
    rw [List.getElem?_eq_getElem e]
    by_cases h : p < i ∨ l.length ≤ p + i
    · rw [if_pos h]; simp [List.getD, e]
    · rw [if_neg h]
      have : l.length - 1 - p = p := by omega
      simp [List.getD, hp, this]
  · rw [List.getElem?_eq_none (by rw [rvK_len]; omega), List.getElem?_eq_none (by simp; omega)]
theorem rvK_mid {l : List Int} {i p : Nat} (hp : p < l.length) (h1 : i ≤ p) (h2 : p + i < l.length) : (rvK l i)[p]? = some (l.getD p 0) := by
  rw [rvK_at hp, if_neg (by omega)]

set_option maxRecDepth 100000 in
set_option maxHeartbeats 2000000 in
theorem x_ReverseI {l : List Int} {b o c lo hi : Nat} {w : World} (hm : OI w lo hi (some ⟨b, o, none⟩) l) (hl : l.length ≤ 1048576) (hhi : hi ≤ w.heap.size) :
    Calls Try.prog 198 #[.slice (some ⟨b, o, none⟩) l.length c] w (fun e w' => e = .returned (.tuple #[]) ∧ OI w' lo hi (some ⟨b, o, none⟩) l.reverse ∧ Upd lo hi w w' ∧ w.heap.size = w'.heap.size) := by
  have hst : OI w lo hi (some ⟨b, o, none⟩) (rvK l 0) := by rw [rvK_zero]; exact hm
  obtain ⟨M, hM⟩ : ∃ M, l.length = M := ⟨_, rfl⟩
  have HM := Lib.hid hM
  rw [hM] at hl ⊢
  clear hM hm
  by_cases h0 : M = 0
  · subst h0
    have HL : Hid (rvK l 0 = l.reverse) := rvK_end (by have := HM.out; omega)
    rw [HL.out] at hst
    go_enter Try.func198, Try.ntmps198
    go_wp2
    go_loopw [2, 3] (fun i j wr => i = .int .i64 0 ∧ j = .int .i64 (-1) ∧ wr = w) (fun _ _ _ => 0)
    case atStart => exact ⟨rfl, by go_num, rfl⟩
    case round =>
      obtain ⟨rfl, rfl, rfl⟩ := hrel
      go_wp2
      go_end0
      exact ⟨rfl, hst, Upd.refl _ _ _, rfl⟩
  have hw0 : IntKind.i64.wrap ((M : Int) - 1) = ((M - 1 : Nat) : Int) := by rw [IntWalk.i64_in _ (by omega)]; omega
  go_enter Try.func198, Try.ntmps198
  go_wp2
  go_loopw [2, 3] (fun i j wr => ∃ p q : Nat, p ≤ M ∧ q < M ∧ p + q + 1 = M ∧ i = .int .i64 p ∧ j = .int .i64 q ∧ OI wr lo hi (some ⟨b, o, none⟩) (rvK l p) ∧ Upd lo hi w wr ∧ w.heap.size = wr.heap.size) (fun i _ _ => M - (intOf i).toNat)
  case atStart => exact ⟨0, M - 1, Nat.zero_le _, by omega, by omega, rfl, by go_num, hst, Upd.refl _ _ _, rfl⟩
  case round =>
    clear hst hw0
    obtain ⟨p, q, hp, hq, hpq, rfl, rfl, ho, hu, hsz⟩ := hrel
    by_cases hlt : p < q
    · obtain ⟨y, hy⟩ : ∃ y, l.getD q 0 = y := ⟨_, rfl⟩
      obtain ⟨x, hx⟩ : ∃ x, l.getD p 0 = x := ⟨_, rfl⟩
      have hML := HM.out
      have h1 := rvK_mid (l := l) (i := p) (p := p) (by omega) (Nat.le_refl _) (by omega)
      have h2 := rvK_mid (l := l) (i := p) (p := q) (by omega) (by omega) (by omega)
      rw [hx] at h1; rw [hy] at h2
      have HS : Hid (rvK l (p + 1) = ((rvK l p).set p y).set q x) := by
        show _ = _
        rw [rvK_succ (by omega), show l.length - 1 - p = q by omega, hx, hy]
      have hrl := rvK_len l p
      obtain ⟨b1, o1, e1, hb1, hb2, ⟨x1, hx1, hc1⟩, hf1⟩ := ho p (by omega)
      obtain ⟨b2, o2, e2, _, _, ⟨y1, hy1, hc2⟩, hf2⟩ := ho q (by omega)
      obtain ⟨rfl, rfl⟩ : b = b1 ∧ o = o1 := by simpa using e1
      obtain ⟨rfl, rfl⟩ : b = b2 ∧ o = o2 := by simpa using e2
      have ex : x1 = x := by rw [h1] at hx1; simpa using hx1.symm
      have ey : y1 = y := by rw [h2] at hy1; simpa using hy1.symm
      subst ex; subst ey
      have hi1 := idxI (a := some ⟨b, o, none⟩) rfl (show p < M by omega) c
      have hi2 := idxI (a := some ⟨b, o, none⟩) rfl (show q < M by omega) c
      have hne : o + p ≠ o + q := by omega
      have hs1 := ho.set (show p < (rvK l p).length by omega) y1
      have hs2 := OI.set hs1 (show q < ((rvK l p).set p y1).length by rw [List.length_set]; omega) x1
      rw [← HS.out] at hs2
      have HS2 := Lib.hid hs2
      have hwq : IntKind.i64.wrap ((q : Int) - 1) = ((q - 1 : Nat) : Int) := by rw [IntWalk.i64_in _ (by omega)]; omega
      clear hx hy h1 h2 hrl e1 e2 hx1 hy1 hs1 hs2 ho hML
      go_wp2_with fail
      go_region
      go_wp2
      go_roundw
      case rel => exact ⟨p + 1, q - 1, by omega, by omega, by omega, by go_num, by go_num, HS2.out.same fun _ _ _ => rfl, ((hu.setCell (p := ⟨b, o + p, none⟩) hb1 hb2 _).setCell (p := ⟨b, o + q, none⟩) hb1 hb2 _).trans ⟨rfl, rfl, rfl, Nat.le_refl _, fun _ _ _ => rfl⟩, hsz.trans (by show _ = ((wr.setCell _ _).setCell _ _).heap.size; simp [World.setCell])⟩
      case measure => simp [intOf]; omega
    · have HE : Hid (rvK l p = l.reverse) := rvK_end (by have := HM.out; omega)
      rw [HE.out] at ho
      go_wp2
      go_end0
      exact ⟨rfl, ho, hu, hsz⟩

end Go.Proofs.Ytehoagbpgahopaa
