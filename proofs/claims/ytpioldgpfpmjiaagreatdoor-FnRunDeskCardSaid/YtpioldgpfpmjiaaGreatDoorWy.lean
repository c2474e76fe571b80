/- Walks: what is missing, by the model. -/
import Derived.Test.YtpioldgpfpmjiaaGreatDoorOwnL
import Derived.Test.YtpioldgpfpmjiaaGreatDoorWs
import Derived.Test.YtpioldgpfpmjiaaGreatDoorWi
namespace Go.Proofs.YtpioldgpfpmjiaaGreatDoor
open Go.RowKit


theorem OwnRR.start {w w1 : World} {B lo hi : Nat} (hB : B ≤ w.heap.size) (hlo : w.heap.size < lo) (hb : Below (w.heap.size + 1) (w.alloc (.cells #[] 45)) w1) : OwnRR w1 B lo hi (.slice (Option.some ⟨w.heap.size, 0, none⟩) 0 0) [] := by
  refine ⟨[], ?_, by simp, fun g hg => by cases hg; exact .inl hlo⟩
  have h1 : (w.alloc (.cells #[] 45)).ownsRow B 45 1 (.slice (Option.some ⟨w.heap.size, 0, none⟩) 0 0) ([] : List (List Int)).length [] := World.ownsRow_made w #[] 0 hB (by simp [maxLen]) rfl
  exact World.ownsRow.kept h1 (row := none) ⟨hb.os, hb.tape, hb.output, hb.size, fun k hk _ => hb.block k (by simpa using hk)⟩ (by simp [Value.ownBlock])

set_option maxRecDepth 100000 in
set_option maxHeartbeats 2000000 in
theorem s_missing {m : List Int} {s : List (List Int)} {a a' : Option Addr} {c c' lo hi lo' hi' : Nat} {w : World} {t : Int} (hok : okM m = true) (hm : RI w lo hi a m) (hB : hi ≤ w.heap.size) (hs : RII w lo' hi' a' s) (hB' : hi' ≤ w.heap.size) (hsl : s.length ≤ 1048576) (hr : ∀ r ∈ s, r.length = m.length) (ht0 : 0 ≤ t) (ht1 : t ≤ m.length) :
    Calls Tryz.prog 43 #[.slice a m.length c, .slice a' s.length c', .int .i64 t] w (GotII w (misL m s t)) := by
  have hm5 := okM_len hok
  have HOK := Lib.hid hok; clear hok
  have HR := Lib.hid hr; clear hr
  have HRow := Lib.hid (patS_row (m := m) (t := t))
  have HLN := Lib.hid (patS_len (head := []) HOK.out t)
  have hbA := (Below.refl w.heap.size w).alloc (Nat.le_refl _) (.cells #[] 45)
  have hbB := ((Below.refl (w.heap.size + 1) (w.alloc (.cells #[] 45))).alloc (by simp) (.cells #[] 3))
  have hbC := hbA.trans (hbB.mono (by simp))
  have hm3 := hm.below hbC hB
  go_enter Tryz.func43, Tryz.ntmps43
  go_wp2_with fail
  refine (s_patterns HOK.out m.length [] a ⟨w.heap.size + 1, 0, none⟩ c 0 lo hi 0 0 _ t (by simp) hm3 (by simp; omega) (RI.nil _ _ _ _) (by simp) (by omega) (by omega)).mono ?_
  rintro e w1 ⟨ad1, c1, rfl, h1, hb1⟩
  obtain ⟨ps, hps⟩ : ∃ ps, patS m [] t = ps := ⟨_, rfl⟩
  have HPS := Lib.hid hps
  rw [hps] at h1 HRow HLN ⊢
  clear hps
  have hb01 : Below w.heap.size w w1 := hbC.trans (hb1.mono (by simp; omega))
  have hs1 := hb1.size
  simp only [World.size_alloc] at hs1
  have hall : RII w1 (w.heap.size + 2) w1.heap.size (some ad1) ps := by simpa using h1.rii
  have hst : OwnRR w1 w.heap.size (w.heap.size + 2) w1.heap.size (.slice (some ⟨w.heap.size, 0, none⟩) 0 0) [] := OwnRR.start (Nat.le_refl _) (by omega) (hbB.trans (hb1.mono (by simp)))
  have hs2 := hs.below hb01 hB'
  have hpl := HLN.out
  clear h1 hb1 hbA hbB hbC hm3 hm hs
  go_wp2
  go_loopw [7, 9] (fun v i wr => ∃ k : Nat, k ≤ ps.length ∧ i = .int .i64 k ∧ OwnRR wr w.heap.size (w.heap.size + 2) w1.heap.size v (misP s (ps.take k)) ∧ Kp w.heap.size (w.heap.size + 2) w1.heap.size w1 wr) (fun _ i _ => ps.length - (intOf i).toNat)
  case atStart => exact ⟨0, Nat.zero_le _, rfl, by simpa [misP] using hst, Kp.refl _ _ _ _⟩
  case round =>
    clear hst
    obtain ⟨k, hk, rfl, hown, hK⟩ := hrel
    have hsz := hK.size
    by_cases hlt : k < ps.length
    · obtain ⟨b, o, a2, c2, r, ha, _, hbh, hcell, hr1, hx, hcp⟩ := (hall.kp hK (Nat.le_refl _)).atc hlt
      have hidx := idxII ha hlt c1
      have HRL := Lib.hid (HRow.out r (List.mem_of_getElem? hx.out))
      have hs3 := hs2.below (hK.below (by omega)) hB'
      have hml := misP_len s ps k
      have H5 : Hid (∀ q ∈ s, r.length ≤ q.length ∧ q.length ≤ 9223372036854775807) := by
        intro q hq
        have := HR.out q hq
        have := HRL.out
        omega
      clear ha hall hs2
      cases hc : hasP s r
      · have HC := Lib.hid hc; clear hc
        have HM := Lib.hid (misP_step hx.out HC.out)
        go_wp2_with (first
          | (go_at_call 56; refine (s_covers hs3 hr1 (by omega) H5.out).mono ?_; rintro e w2 ⟨rfl, hd⟩; rw [HC.out]; have hown2 := hown.below (Dr.below hd _) (by omega); have hz2 := Dr.le hd; have hr2 := hr1.dr hd; have hcell2 : w2.cell? ⟨b, o + k, none⟩ = _ := ((Dr.below hd wr.heap.size).cell (p := ⟨b, o + k, none⟩) (by show b < _; omega)).trans hcell; have hB02 := Dr.below hd wr.heap.size; clear hd)
          | (at_builtin; refine wpList_appR1 rfl (.tmp 28) (.tmp 33) rfl w.heap.size (w.heap.size + 2) w1.heap.size _ (misP s (ps.take k)) rfl hown2 (by omega) (by omega) r a2 r.length c2 rfl hr2 hcp w2.heap.size rfl rfl (by omega) ?_; intro v3 w3 hown3 hk3 _)
          | go_in)
        rw [← HM.out] at hown3
        have hK3 := hK.trans ((Kp.ofBelow hB02).trans hk3)
        clear hK hk3 hown hown2
        go_roundw
        case rel => exact ⟨k + 1, by omega, by go_num, hown3, hK3⟩
        case measure => simp [intOf]; omega
      · have HC := Lib.hid hc; clear hc
        have HM := Lib.hid (misP_skip hx.out HC.out)
        go_wp2_with fail
        refine (s_covers hs3 hr1 (by omega) H5.out).mono ?_
        rintro e w2 ⟨rfl, hd⟩
        rw [HC.out]
        have hown2 := hown.below (Dr.below hd _) (by omega)
        rw [← HM.out] at hown2
        have hK2 := hK.trans (Kp.ofBelow (Dr.below hd _))
        clear hK hown
        go_wp2
        go_roundw
        case rel => exact ⟨k + 1, by omega, by go_num, hown2, hK2⟩
        case measure => simp [intOf]; omega
    · have HKE : Hid (ps.take k = ps) := List.take_of_length_le (by omega)
      have HMI : Hid (misL m s t = misP s ps) := by show _ = _; unfold misL; rw [HPS.out]
      go_wp2
      rw [HKE.out] at hown
      obtain ⟨a4, c4, rfl, ho4⟩ := hown.slice (by omega) (by omega)
      go_ret
      rw [HMI.out]
      exact ⟨_, _, rfl, ho4, hb01.trans ((hK.below (by omega)))⟩

end Go.Proofs.YtpioldgpfpmjiaaGreatDoor
