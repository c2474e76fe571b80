/- Walks: FreshOf. -/
import Derived.Test.YtpioldgpfpmjiaaDoorYb
namespace Go.Proofs.YtpioldgpfpmjiaaDoor
open Go.RowKit


set_option maxHeartbeats 1000000 in
theorem s_fresh {ps : List (List Int)} {x : List Int} {a a' : Option Addr} {c c' lo hi lo' hi' : Nat} {w : World} (hp : RII w lo hi a ps) (hx : RI w lo' hi' a' x) (hl : ps.length ≤ 1048576) (hxl : x.length ≤ 1048576) (hr : ∀ p ∈ ps, p.length ≤ x.length) :
    Calls Tryd.prog 72 #[.slice a ps.length c, .slice a' x.length c'] w (RO w (.int .i64 (frP ps x))) := by
  have HR := Lib.hid hr; clear hr
  go_enter Tryd.func72, Tryd.ntmps72
  go_wp2
  go_loopw [5, 6] (fun v i wr => ∃ k q : Nat, k ≤ ps.length ∧ i = .int .i64 k ∧ v = .int .i64 q ∧ q ≤ k ∧ Hid (q = frP (ps.take k) x) ∧ Dr w wr) (fun _ i _ => ps.length - (intOf i).toNat)
  case atStart => exact ⟨0, 0, Nat.zero_le _, rfl, rfl, Nat.le_refl _, by simp [Hid, frP], Dr.refl _⟩
  case round =>
    obtain ⟨k, q, hk, rfl, rfl, hqk, hq, hd⟩ := hrel
    by_cases hlt : k < ps.length
    · obtain ⟨b, o, a1, c1, r, ha, _, _, hcell, hr1, hxx⟩ := (hp.dr hd).at hlt
      have hidx := idxII ha hlt c
      have hrl := HR.out r (List.mem_of_getElem? hxx.out)
      have hx1 := hx.dr hd
      have HF := Lib.hid (frP_step (x := x) hxx.out)
      clear ha hp hx
      cases hm : mB r x
      · have HM := Lib.hid hm; clear hm
        have HQ : Hid (q = frP (ps.take (k + 1)) x) := by show _ = _; rw [HF.out, HM.out, ← hq.out]; rfl
        go_wp2_with fail
        refine (s_matches hr1 hx1 hrl (by omega)).mono ?_
        rintro e w1 ⟨rfl, hd1⟩
        rw [HM.out]
        go_wp2
        go_roundw
        case rel => exact ⟨k + 1, q, by omega, by go_num, rfl, by omega, HQ, Dr.trans hd hd1⟩
        case measure => simp [intOf]; omega
      · have HM := Lib.hid hm; clear hm
        have HQ : Hid (q + 1 = frP (ps.take (k + 1)) x) := by show _ = _; rw [HF.out, HM.out, ← hq.out]; rfl
        go_wp2_with fail
        refine (s_matches hr1 hx1 hrl (by omega)).mono ?_
        rintro e w1 ⟨rfl, hd1⟩
        rw [HM.out]
        go_wp2
        go_roundw
        case rel => exact ⟨k + 1, q + 1, by omega, by go_num, by go_num, by omega, HQ, Dr.trans hd hd1⟩
        case measure => simp [intOf]; omega
    · go_wp2
      go_ret
      refine hd.intD ?_
      have h := hq.out
      rw [List.take_of_length_le (by omega)] at h
      rw [h]

def frV (m : List Int) (s : List (List Int)) (x : List Int) (t : Int) : Int := if okC m s t && okT m x then frP (misL m s t) x else -1
theorem fr_yes {m : List Int} {s : List (List Int)} {x : List Int} {t : Int} (h : okC m s t = true) (h' : okT m x = true) : frV m s x t = frP (misL m s t) x := by unfold frV; rw [h, h']; rfl
theorem fr_no {m : List Int} {s : List (List Int)} {x : List Int} {t : Int} (h : okC m s t = false ∨ okT m x = false) : frV m s x t = -1 := by unfold frV; rcases h with h | h <;> rw [h] <;> simp
theorem fr_un {m : List Int} {s : List (List Int)} {x : List Int} {t : Int} (hx : x.length = m.length) (h5 : m.length ≤ 5) : ((misL m s t).length : Int) - (unP (misL m s t) (at5 x)).length = frP (misL m s t) x := by
  have h1 := filt_len (misL m s t) fun p => meet5 (at5 p) (at5 x)
  have h2 : (misL m s t).countP (fun p => meet5 (at5 p) (at5 x)) = frP (misL m s t) x := by
    unfold frP
    apply List.countP_congr
    intro p hp
    rw [meet5_mB (by rw [misL_row p hp, hx]) (by rw [misL_row p hp]; exact h5)]
  rw [h2] at h1
  unfold unP
  omega

end Go.Proofs.YtpioldgpfpmjiaaDoor
