/- Walks: the laws' marks. -/
import Derived.Test.YtpioldgpfpmjiaaDoorWc
namespace Go.Proofs.YtpioldgpfpmjiaaDoor
open Go.RowKit

set_option maxHeartbeats 400000 in
theorem l_markIntS {m : List Int} {a : Option Addr} {c lo hi : Nat} {w : World} {k : Int} (hm : OI w lo hi a m) (h0 : 0 ≤ k) (h1 : k ≤ 1099511627776) (hl : m.length ≤ 1099511627776) :
    Calls Tryd.prog 16 #[.slice a m.length c, .int .i64 k] w (Wr lo hi w (k + m.length) (fun w' => OI w' lo hi a (markL k m.length))) := by
  obtain ⟨n, hn⟩ : ∃ n, m.length = n := ⟨_, rfl⟩
  rw [hn]
  have hln : n ≤ 1099511627776 := by omega
  have HN := Lib.hid hn; clear hn hl
  go_enter Tryd.func16, Tryd.ntmps16
  go_wp2
  go_loopw [1, 5] (fun v i wr => ∃ (j : Nat) (l : List Int), j ≤ n ∧ i = .int .i64 j ∧ v = .int .i64 (k + j) ∧ OI wr lo hi a l ∧ Hid (l.length = n ∧ (∀ i : Nat, i < j → l[i]? = some (k + (i : Int))) ∧ wr.heap.size = w.heap.size) ∧ Upd lo hi w wr) (fun _ i _ => n - (intOf i).toNat)
  case atStart => exact ⟨0, m, Nat.zero_le _, rfl, by simp, hm, ⟨HN.out, by simp, rfl⟩, Upd.refl _ _ _⟩
  case round =>
    obtain ⟨j, l, hj, rfl, rfl, ho, HL, hU⟩ := hrel
    by_cases hlt : j < n
    · have hjl : j < l.length := by rw [HL.out.1]; exact hlt
      obtain ⟨b, o, ha, h2, h3, ⟨x, hx, hcell⟩, hfr⟩ := ho j hjl
      have HA := Lib.hid ha
      have hidx := idxI ha hlt c
      have ho2 := ((HA.out ▸ ho).set hjl (k + j))
      have hU2 := hU.setCell (p := ⟨b, o + j, none⟩) h2 h3 (.int .i64 (k + j))
      have HL2 : Hid ((l.set j (k + j)).length = n ∧ (∀ i : Nat, i < j + 1 → (l.set j (k + j))[i]? = some (k + (i : Int))) ∧ (wr.setCell ⟨b, o + j, none⟩ (.int .i64 (k + j))).heap.size = w.heap.size) := by
        refine ⟨by rw [List.length_set]; exact HL.out.1, fun i hi => ?_, by simp [World.setCell]; exact HL.out.2.2⟩
        by_cases hij : i = j
        · subst hij; simp [hjl]
        · rw [List.getElem?_set_ne (by omega)]; exact HL.out.2.1 i (by omega)
      clear ha hm ho hx h2 h3 hU
      go_wp2
      go_roundw
      case rel => exact ⟨j + 1, l.set j (k + j), by omega, by go_num, by go_num, HA.out.symm ▸ ho2, HL2, hU2⟩
      case measure => simp [intOf]; omega
    · obtain rfl : j = n := by omega
      go_wp2
      go_ret
      exact ⟨rfl, by rw [← markL_of HL.out.1 HL.out.2.1]; exact ho, hU, HL.out.2.2⟩

set_option maxHeartbeats 400000 in
theorem l_heldIntS {m : List Int} {a : Option Addr} {c lo hi : Nat} {w : World} {k : Int} (hm : RI w lo hi a (markL k m.length)) (h0 : 0 ≤ k) (h1 : k ≤ 1099511627776) (hl : m.length ≤ 1099511627776) :
    Calls Tryd.prog 32 #[.slice a m.length c, .int .i64 k] w (RO w (.int .i64 (k + m.length))) := by
  obtain ⟨n, hn⟩ : ∃ n, m.length = n := ⟨_, rfl⟩
  rw [hn] at hm ⊢
  have hln : n ≤ 1099511627776 := by omega
  clear hn hl
  go_enter Tryd.func32, Tryd.ntmps32
  go_wp2
  go_loop [1, 5] (fun v i => ∃ j : Nat, j ≤ n ∧ i = .int .i64 j ∧ v = .int .i64 (k + j)) (fun _ i => n - (intOf i).toNat)
  case atStart => exact ⟨0, Nat.zero_le _, rfl, by simp⟩
  case round =>
    obtain ⟨j, hj, rfl, rfl⟩ := hrel
    by_cases hlt : j < n
    · obtain ⟨b, o, x, ha, _, _, hcell, hx⟩ := hm.at (show j < (markL k n).length by rw [markL_len]; exact hlt)
      have hidx := idxI ha hlt c
      have HX : x = k + j := by
        have := hx.out
        rw [markL_at hlt] at this
        exact (Option.some.inj this).symm
      subst HX
      have hne : (k + (j : Int) != k + (j : Int)) = false := by simp
      clear ha hm
      go_wp2
      go_round
      case rel => exact ⟨j + 1, by omega, by go_num, by go_num⟩
      case measure => simp [intOf]; omega
    · obtain rfl : j = n := by omega
      go_wp2
      go_ret
      exact RO.same _ _

set_option maxHeartbeats 400000 in
theorem l_markIntSS {m : List (List Int)} {a : Option Addr} {c lo hi : Nat} {w : World} {k : Int} (hm : OII w lo hi a m) (hs : hi ≤ w.heap.size) (h0 : 0 ≤ k) (h1 : k ≤ 4194304) (hl : m.length ≤ 1048576) (hg : sumL m ≤ 1048576) :
    Calls Tryd.prog 17 #[.slice a m.length c, .int .i64 k] w (Wr lo hi w (k + sumL m) (fun w' => OII w' lo hi a (markLL k m))) := by
  rcases hm with rfl | ⟨b, o, A, C, G, rfl, hm⟩
  · go_enter Tryd.func17, Tryd.ntmps17
    go_wp2
    go_loop [1, 5] (fun v i => v = .int .i64 k ∧ i = .int .i64 0) (fun _ i => (intOf i).toNat)
    case atStart => exact ⟨rfl, rfl⟩
    case round =>
      obtain ⟨rfl, rfl⟩ := hrel
      go_wp2
      go_ret
      exact ⟨by simp [sumL], OII.nil _ _ _ _, Upd.refl _ _ _, rfl⟩
  go_enter Tryd.func17, Tryd.ntmps17
  go_wp2
  go_loopw [1, 5] (fun v i wr => ∃ (j : Nat) (q : Int), j ≤ m.length ∧ i = .int .i64 j ∧ v = .int .i64 q ∧ 0 ≤ q ∧ q ≤ 8388608 ∧ Hid (q = k + sumL (m.take j)) ∧ Hid (Rws wr lo hi b o A C G (markLL k (m.take j) ++ m.drop j)) ∧ Hid (wr.heap.size = w.heap.size) ∧ Upd lo hi w wr) (fun _ i _ => m.length - (intOf i).toNat)
  case atStart => exact ⟨0, k, Nat.zero_le _, rfl, rfl, h0, by omega, by simp [Hid, sumL], by simpa [Hid, markLL] using hm, rfl, Upd.refl _ _ _⟩
  case round =>
    obtain ⟨j, q, hj, rfl, rfl, hq0, hq1, HQ, HR, HS, hU⟩ := hrel
    by_cases hlt : j < m.length
    · obtain ⟨r, hr⟩ := at_of_lt hlt
      have HX := Lib.hid hr
      have hmid := markLL_mid (k := k) hr
      have hcell := HR.out.cell j r hmid
      have hidx := idxII (a := some ⟨b, o, none⟩) rfl hlt c
      have hrl : r.length ≤ 1048576 := by have := sumL_row (List.mem_of_getElem? hr); omega
      obtain ⟨p, p', hrow, hpp⟩ : ∃ p p', OI wr p p' (A j) r ∧ (r = [] ∧ p = 0 ∧ p' = 0 ∨ r ≠ [] ∧ p = G j ∧ p' = G j + 1) := by
        by_cases he : r = []
        · subst he; exact ⟨0, 0, OI.nil _ _ _ _, .inl ⟨rfl, rfl, rfl⟩⟩
        · exact ⟨_, _, HR.out.fam.row j r hmid, .inr ⟨he, rfl, rfl⟩⟩
      have HP := Lib.hid hpp
      have HM := Lib.hid hmid
      have HQ2 : Hid (q + r.length = k + sumL (m.take (j + 1))) := by
        show _ = _; rw [sumL_snoc hr]; have := HQ.out; omega
      have hq2 : q + r.length ≤ 8388608 := by
        have h3 := HQ2.out; have h4 := sumL_take_le m (j + 1); omega
      clear hr hmid hpp
      go_wp2_with fail
      refine (l_markIntS hrow hq0 (by omega) (by omega)).mono ?_
      rintro e w1 ⟨rfl, hrow1, hU1, hz1⟩
      have HZ1 := Lib.hid hz1; clear hz1
      have HR2 : Hid (Rws w1 lo hi b o A C G (markLL k (m.take (j + 1)) ++ m.drop (j + 1))) := by
        have h5 := HR.out.setRow (w' := w1) (r' := markL (k + sumL (m.take j)) r.length) (by rw [HS.out]; exact hs) HM.out (markL_len _ _)
          (fun he => by
            rcases HP.out with ⟨rfl, _⟩ | ⟨_, rfl, rfl⟩
            · exact absurd rfl he
            · have := hrow1; rwa [HQ.out] at this)
          (fun i hi1 hi2 => by
            rcases HP.out with ⟨_, rfl, rfl⟩ | ⟨he, rfl, rfl⟩
            · exact hU1.block i hi1 (by omega)
            · exact hU1.block i hi1 (by have := hi2 he; omega))
        rwa [markLL_step HX.out] at h5
      have HS2 : Hid (w1.heap.size = w.heap.size) := HZ1.out.trans HS.out
      have hU2 : Upd lo hi w w1 := by
        rcases HP.out with ⟨_, rfl, rfl⟩ | ⟨he, rfl, rfl⟩
        · exact hU.trans ⟨hU1.os, hU1.tape, hU1.output, hU1.size, fun i hi1 _ => hU1.block i hi1 (by omega)⟩
        · have := HR.out.fam.rlo j r HM.out he
          exact hU.trans (hU1.wide (by omega) (by omega))
      clear hU hU1 hrow hrow1 HR HM
      go_wp2
      go_roundw
      case rel => exact ⟨j + 1, _, by omega, by go_num, rfl, by omega, hq2, HQ2, HR2, HS2, hU2⟩
      case measure => simp [intOf]; omega
    · obtain rfl : j = m.length := by omega
      go_wp2
      go_ret
      have h5 := HR.out
      have h6 := HQ.out
      rw [List.take_length] at h5 h6
      rw [List.drop_length, List.append_nil] at h5
      exact ⟨by rw [h6]; rfl, .inr ⟨b, o, A, C, G, rfl, h5⟩, hU, HS.out⟩

set_option maxHeartbeats 400000 in
theorem l_heldIntSS {m : List (List Int)} {a : Option Addr} {c lo hi : Nat} {w : World} {k : Int} (hm : RII w lo hi a (markLL k m)) (h0 : 0 ≤ k) (h1 : k ≤ 4194304) (hl : m.length ≤ 1048576) (hg : sumL m ≤ 1048576) :
    Calls Tryd.prog 18 #[.slice a m.length c, .int .i64 k] w (RO w (.int .i64 (k + sumL m))) := by
  go_enter Tryd.func18, Tryd.ntmps18
  go_wp2
  go_loopw [1, 5] (fun v i wr => ∃ (j : Nat) (q : Int), j ≤ m.length ∧ i = .int .i64 j ∧ v = .int .i64 q ∧ 0 ≤ q ∧ q ≤ 8388608 ∧ Hid (q = k + sumL (m.take j)) ∧ Dr w wr) (fun _ i _ => m.length - (intOf i).toNat)
  case atStart => exact ⟨0, k, Nat.zero_le _, rfl, rfl, h0, by omega, by simp [Hid, sumL], Dr.refl _⟩
  case round =>
    obtain ⟨j, q, hj, rfl, rfl, hq0, hq1, HQ, hd⟩ := hrel
    by_cases hlt : j < m.length
    · obtain ⟨r, hr⟩ := at_of_lt hlt
      have HX := Lib.hid hr
      obtain ⟨b, o, a1, c1, r', ha, _, _, hcell, hrow, hx⟩ := (hm.dr hd).at (show j < (markLL k m).length by rw [markLL_len]; exact hlt)
      have hidx := idxII ha hlt c
      have hr' : r' = markL q r.length := by
        have h2 := hx.out
        rw [markLL_at hr] at h2
        rw [HQ.out]; exact (Option.some.inj h2).symm
      subst hr'
      rw [markL_len] at hcell
      have hrl : r.length ≤ 1048576 := by have := sumL_row (List.mem_of_getElem? hr); omega
      have HQ2 : Hid (q + r.length = k + sumL (m.take (j + 1))) := by
        show _ = _; rw [sumL_snoc hr]; have := HQ.out; omega
      have hq2 : q + r.length ≤ 8388608 := by
        have h3 := HQ2.out; have h4 := sumL_take_le m (j + 1); omega
      have hq3 : 0 ≤ q + r.length := by omega
      clear hr ha hm
      go_wp2_with fail
      refine (l_heldIntS hrow hq0 (by omega) (by omega)).mono ?_
      rintro e w1 ⟨rfl, hd1⟩
      go_wp2
      go_roundw
      case rel => exact ⟨j + 1, _, by omega, by go_num, rfl, hq3, hq2, HQ2, Dr.trans hd hd1⟩
      case measure => simp [intOf]; omega
    · obtain rfl : j = m.length := by omega
      go_wp2
      go_ret
      have h6 := HQ.out
      rw [List.take_length] at h6
      exact hd.intD h6

end Go.Proofs.YtpioldgpfpmjiaaDoor
