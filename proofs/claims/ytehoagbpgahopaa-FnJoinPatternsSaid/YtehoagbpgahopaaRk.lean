/- Walks: three lists that a law draws. -/
import Derived.Test.YtehoagbpgahopaaRe
import Derived.OwnWalk
namespace Go.Proofs.Ytehoagbpgahopaa
open Go.RowKit

/-- three lists that a law has drawn -/
def Dr3 (w : World) (e : Ending) (w' : World) : Prop := ∃ (a1 : Option Addr) (c1 : Nat) (m : List Int) (a2 : Option Addr) (c2 : Nat) (p : List Int) (a3 : Option Addr) (c3 : Nat) (q : List Int), e = .returned (.tuple #[.slice a1 m.length c1, .slice a2 p.length c2, .slice a3 q.length c3]) ∧ (Got w w' 10 a1 c1 m ∧ Got w w' 11 a2 c2 p ∧ Got w w' 11 a3 c3 q) ∧ Below w.heap.size w w'

set_option maxRecDepth 100000 in
set_option maxHeartbeats 4000000 in
theorem s_DrawJoinPatterns {n : Nat} {a : Option Addr} {c : Nat} {w : World} (hm : RB w w.heap.size a n) (hc : n ≤ c) (hl : n ≤ 1048576) :
    Calls Try.prog 53 #[.slice a n c] w (Dr3 w) := by
  go_enter Try.func53, Try.ntmps53
  go_wp2_with fail
  refine (s_newReader hm hc hl).mono ?_
  rintro e w1 ⟨rfl, hr1, hb1⟩
  have hlt := hr1.lt
  go_wp2_with fail
  refine (s_goodModel hr1 (by omega)).mono ?_
  rintro e w2 ⟨a2, c2, m2, rfl, ho2, hL2, hr2, hU2⟩
  go_wp2_with fail
  refine (s_bentModel hr2 (by omega) ho2 rfl hL2 (by omega) hlt hU2.size).mono ?_
  rintro e w3 ⟨a3, c3, m3, rfl, ho3, hL3, hr3, hU3⟩
  have hU := hU2.trans hU3
  have hcap := ho3.cap.2
  obtain ⟨a5, c5, e5, hoi⟩ := ho3.slice
  cases e5
  clear ho2 hL2 hr2 hU2 hU3 hr1
  have hs13 := hU.size
  go_wp2_with fail
  refine (s_somePattern hr3 hoi.ri (Nat.le_refl _) hlt hL3 (by omega)).mono ?_
  rintro e w4 ⟨a4, c4, p, rfl, ho4, hL4, hr4, hU4⟩
  have hm4 := gotUpB hoi.ri hU4 hlt
  have hcap4 := ho4.cap.2
  obtain ⟨a6, c6, e6, hoi4⟩ := ho4.slice
  cases e6
  have hs34 := hU4.size
  clear hoi ho4 ho3 hr3
  go_wp2_with fail
  refine (s_somePattern hr4 hm4 (by omega) (by omega) hL3 (by omega)).mono ?_
  rintro e w5 ⟨a7, c7, q, rfl, ho5, hL5, hr5, hU5⟩
  have hm5 := hm4.upB hU5 (by omega) (by omega) hlt
  have hp5 := gotUpB hoi4.ri hU5 (by omega)
  have hs45 := hU5.size
  have hUU : UpB w.heap.size w1.heap.size w1 w5 := (hU.trans (hU4.less (by omega))).trans (hU5.less (by omega))
  have HL3 := Lib.hid hL3
  have HL4 := Lib.hid hL4
  have hl4 := hL4.1
  have hl5 := hL5.1
  obtain ⟨M, hM⟩ : ∃ M, q.length = M := ⟨_, rfl⟩
  have HM := Lib.hid hM
  have HL5 := Lib.hid hL5
  rw [hM] at ho5 hl5 ⊢
  clear hM hL3 hL4 hL5 hm4 hoi4 hU4 hU5 hr4 hU
  go_wp2
  go_loopw [9] (fun i wr => ∃ (k : Nat) (l : List Int), k ≤ p.length ∧ k ≤ M ∧ i = .int .i64 k ∧ OwnL wr w4.heap.size (.slice a7 M c7) l ∧ Hid (l.length = M ∧ LP 11 l) ∧ Rdr wr w.heap.size (100 + k) ∧ UpB w.heap.size w4.heap.size w5 wr) (fun i _ => p.length - (intOf i).toNat)
  case atStart => exact ⟨0, q, Nat.zero_le _, Nat.zero_le _, rfl, ho5, ⟨HM.out, HL5.out⟩, hr5.mono (by omega), UpB.refl _ _ _⟩
  case round =>
    clear ho5 hr5
    obtain ⟨k, l, hkp, hkM, rfl, ho, hL, hr, hV⟩ := hrel
    have hszr := hV.size
    have hfin : ∀ (W : World), UpB w.heap.size w4.heap.size w5 W → OwnL W w4.heap.size (.slice a7 M c7) l → Dr3 w (.returned (.tuple #[.slice a3 m3.length c3, .slice a4 p.length c4, .slice a7 M c7])) W := by
      intro W hW hoW
      have h9 := hL.out
      have hcap7 := hoW.cap
      obtain ⟨a8, c8, e8, hoi8⟩ := hoW.slice
      obtain ⟨rfl, h99, rfl⟩ : a7 = a8 ∧ M = l.length ∧ c7 = c8 := by simpa using e8
      have hsW := hW.size
      refine ⟨_, _, m3, _, _, p, _, _, l, by rw [h99], ⟨⟨(hm5.upB hW (by omega) (by omega) hlt).wide (by omega) (by omega), HL3.out, hcap⟩, ⟨(hp5.upB hW (by omega) (by omega) (by omega)).wide (by omega) (by omega), HL4.out, hcap4⟩, ⟨hoi8.ri.wide (by omega) (Nat.le_refl _), h9.2, by omega⟩⟩, hb1.trans ((hUU.trans (hW.less (by omega))).toBelow (by omega) (by omega))⟩
    have HF := Lib.hid hfin
    clear hfin
    by_cases h1 : k < p.length
    · by_cases h2 : k < M
      · obtain ⟨b1, o1, x, ha1, _, _, hcell1, hx⟩ := (hp5.upB hV (by omega) (by omega) (by omega)).at h1
        have hidx1 := idxI ha1 h1 c4
        have hxb := HL4.out.2 x (List.mem_of_getElem? hx.out)
        have hkl : k < l.length := by have := hL.out.1; omega
        obtain ⟨g, hga, hg1, hg2, ⟨y, hcy⟩, hfz, hput⟩ := ho.put hkl
        have hidx := idxI hga h2 c7
        simp only [Nat.zero_add] at hidx
        clear ha1 hga hput
        by_cases hx0 : 0 ≤ x
        · by_cases hy0 : 0 ≤ y
          · skip
            go_wp2_with fail
            refine (s_pick hr (by omega) (by omega) (by omega)).mono ?_
            rintro e w6 ⟨v, rfl, hv, hr6, hu6⟩
            have hv0 := hv.1
            have ho6 := ho.upd hu6 (by omega)
            have hV6 := hV.upd hu6
            have hs6 := hV6.size
            obtain ⟨b2, o2, x2, ha2, _, _, hcell2, hx2⟩ := (hp5.upB hV6 (by omega) (by omega) (by omega)).at h1
            obtain rfl : x = x2 := by have := hx.out.symm.trans hx2.out; exact Option.some.inj this
            obtain ⟨g2, hga2, hg3, hg4, ⟨y2, hcy2⟩, hfz2, hput2⟩ := ho6.put hkl
            have hidxA := idxI ha2 h1 c4
            have hidxB := idxI hga2 h2 c7
            simp only [Nat.zero_add] at hidxB
            clear hga2 hidx1 hidx hcell1 hcy hfz hg1 hg2 ha2 hu6 hv ho hr hV
            by_cases hv1 : 0 < v
            · have ho7 := Lib.hid (hput2 x)
              have hr7 : Hid (Rdr (w6.setCell ⟨g2, k, none⟩ (.int .i64 x)) w.heap.size (100 + (k + 1))) := (hr6.mono (by omega)).same (fun j hj => Below.heap_setCell _ _ _ _ (by show j ≠ g2; omega)) (by simp [World.setCell])
              have hV7 := Lib.hid (hV6.set (p := ⟨g2, k, none⟩) hg3 (.int .i64 x))
              have HL7 : Hid ((l.set k x).length = M ∧ LP 11 (l.set k x)) := ⟨by rw [List.length_set]; exact hL.out.1, hL.out.2.set hxb⟩
              clear hput2 ho6 hr6 hV6
              go_wp2
              go_roundw
              case rel => exact ⟨k + 1, _, by omega, by omega, by go_num, ho7.out, HL7, hr7.out, hV7.out⟩
              case measure => simp [intOf]; omega
            · clear hput2
              go_wp2
              go_roundw
              case rel => exact ⟨k + 1, l, by omega, by omega, by go_num, ho6, hL, hr6.mono (by omega), hV6⟩
              case measure => simp [intOf]; omega
          · go_wp2
            go_roundw
            case rel => exact ⟨k + 1, l, by omega, by omega, by go_num, ho, hL, hr.mono (by omega), hV⟩
            case measure => simp [intOf]; omega
        · go_wp2
          go_roundw
          case rel => exact ⟨k + 1, l, by omega, by omega, by go_num, ho, hL, hr.mono (by omega), hV⟩
          case measure => simp [intOf]; omega
      · go_wp2
        go_ret3
        exact HF.out _ hV ho
    · go_wp2
      go_ret3
      exact HF.out _ hV ho

end Go.Proofs.Ytehoagbpgahopaa
