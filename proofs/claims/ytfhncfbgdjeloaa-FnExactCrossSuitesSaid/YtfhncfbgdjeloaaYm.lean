/- Walks: DropFactor of the program. -/
import Derived.Test.YtfhncfbgdjeloaaYl
import Derived.Test.YtfhncfbgdjeloaaYe
namespace Go.Proofs.Ytfhncfbgdjeloaa
open Go.RowKit

theorem drB_s {m : List Int} {s : List (List Int)} {f : Int} (h : (okM m && okS m s) = false) : drB m s f = false := by unfold drB; rw [h]; rfl
theorem drB_2 {m : List Int} {s : List (List Int)} {f : Int} (h : m.length < 2) : drB m s f = false := by unfold drB; rw [show decide (2 ≤ m.length) = false from by simp; omega]; simp
theorem drB_f {m : List Int} {s : List (List Int)} {f : Int} (h : inR f 0 ((m.length : Int) - 1) = false) : drB m s f = false := by unfold drB; rw [h]; simp
theorem drB_mk {m : List Int} {s : List (List Int)} {f : Int} (h : (okM m && okS m s) = true) (h2 : 2 ≤ m.length) (hf : inR f 0 ((m.length : Int) - 1) = true) : drB m s f = true := by unfold drB; rw [h, hf, show decide (2 ≤ m.length) = true from by simp; omega]; rfl
theorem dr_take {s : List (List Int)} {fn k : Nat} {r : List Int} (hr : s[k]? = some r) : ((s.map fun r => r.eraseIdx fn).take (k + 1)) = (s.map fun r => r.eraseIdx fn).take k ++ [r.eraseIdx fn] := by
  rw [take_snoc (x := r.eraseIdx fn)]
  rw [List.getElem?_map, hr]; rfl

set_option maxRecDepth 100000 in
set_option maxHeartbeats 4000000 in
theorem i_DropFactor {m : List Int} {s : List (List Int)} {a a' : Option Addr} {c c' lo hi lo' hi' : Nat} {w : World} {f : Int} (hm : RI w lo hi a m) (hlm : m.length ≤ 9223372036854775807) (hs : RII w lo' hi' a' s) (hls : s.length ≤ 9223372036854775807) (hg : ∀ r ∈ s, r.length ≤ 9223372036854775807)
    (_hf0 : -9223372036854775808 ≤ f) (_hf1 : f ≤ 9223372036854775807) (_hB : hi ≤ w.heap.size) (hB' : hi' ≤ w.heap.size) :
    Calls Try.prog 55 #[.slice a m.length c, .slice a' s.length c', .int .i64 f] w (NewIIB w (drL m s f) (drB m s f)) := by
  have HG := Lib.hid hg; clear hg
  cases hos : (okM m && okS m s)
  · have HOS := Lib.hid hos; clear hos
    go_enter Try.func55, Try.ntmps55
    go_wp2_with fail
    refine (i_ValidSuite hm hlm hs hls HG.out).mono ?_
    rintro e w1 ⟨rfl, hd⟩
    rw [HOS.out]
    go_wp2
    go_ret2
    exact NewIIB.none (dr_no (drB_s HOS.out)) (Dr.below hd _)
  have hok2 := hos
  rw [Bool.and_eq_true] at hok2
  have HOK := Lib.hid hok2.1
  have HOKS := Lib.hid hok2.2
  have HOS := Lib.hid hos; clear hos hok2
  have hm5 := okM_len HOK.out
  by_cases h2 : m.length < 2
  · have hc2 : (m.length : Int) < 2 := by omega
    have HD := Lib.hid (drB_2 (s := s) (f := f) h2)
    go_enter Try.func55, Try.ntmps55
    go_wp2_with fail
    refine (i_ValidSuite hm hlm hs hls HG.out).mono ?_
    rintro e w1 ⟨rfl, hd⟩
    rw [HOS.out]
    go_wp2
    go_ret2
    exact NewIIB.none (dr_no HD.out) (Dr.below hd _)
  have hc2 : ¬ (m.length : Int) < 2 := by omega
  cases hof : inR f 0 ((m.length : Int) - 1)
  · have HOF := Lib.hid hof; clear hof
    go_enter Try.func55, Try.ntmps55
    go_wp2_with fail
    refine (i_ValidSuite hm hlm hs hls HG.out).mono ?_
    rintro e w1 ⟨rfl, hd⟩
    rw [HOS.out]
    go_wp2_with fail
    refine (i_isFactor hlm).mono ?_
    rintro e w2 ⟨rfl, hd2⟩
    rw [HOF.out]
    go_wp2
    go_ret2
    exact NewIIB.none (dr_no (drB_f HOF.out)) (Dr.below (Dr.trans hd hd2) _)
  have hf2 := inR_true.1 hof
  obtain ⟨fn, rfl⟩ := Int.eq_ofNat_of_zero_le hf2.1
  have hfm : fn < m.length := by omega
  have HYES := Lib.hid (dr_yes (drB_mk HOS.out (by omega) hof))
  have HOF := Lib.hid hof; clear hof
  have hsl := okS_len HOKS.out
  have HRL : Hid (∀ r ∈ s, r.length = m.length) := fun r hr => okW_len (okS_all HOKS.out hr)
  obtain ⟨L, hL⟩ : ∃ L, (s.map fun r => r.eraseIdx fn) = L := ⟨_, rfl⟩
  have HLL : Hid (L.length = s.length) := by show _ = _; rw [← hL, List.length_map]
  have HTK : Hid (∀ (k : Nat) (r : List Int), s[k]? = some r → L.take (k + 1) = L.take k ++ [r.eraseIdx fn]) := fun k r hr => by rw [← hL]; exact dr_take hr
  have HY2 : Hid (drL m s (fn : Int) = L ∧ drB m s (fn : Int) = true) := ⟨by rw [HYES.out.1, ← hL]; simp, HYES.out.2⟩
  clear hL HYES
  go_enter Try.func55, Try.ntmps55
  go_wp2_with fail
  refine (i_ValidSuite hm hlm hs hls HG.out).mono ?_
  rintro e w1 ⟨rfl, hd⟩
  rw [HOS.out]
  go_wp2_with fail
  refine (i_isFactor hlm).mono ?_
  rintro e w2 ⟨rfl, hd2⟩
  rw [HOF.out]
  have hdd := Dr.trans hd hd2
  have hz2 := Dr.le hdd
  have hbb := Dr.below hdd w.heap.size
  have hst := OwnLL.room w2 w.heap.size s.length 22 rfl hz2.2 (by unfold maxLen; omega)
  have hmk := make0 (N := s.length) (by omega)
  clear hd hd2 hdd hm
  go_wp2
  go_loopw [8, 31] (fun v i wr => ∃ k : Nat, k ≤ s.length ∧ i = .int .i64 k ∧ OwnLL wr w.heap.size v (L.take k) ∧ Below w.heap.size w wr) (fun _ i _ => s.length - (intOf i).toNat)
  case atStart => exact ⟨0, Nat.zero_le _, rfl, by simpa using hst, hbb.alloc hz2.2 _⟩
  case round =>
    clear hst hmk
    obtain ⟨k, hk, rfl, hown, hBl⟩ := hrel
    have hsz := hBl.size
    by_cases hlt : k < s.length
    · obtain ⟨b, o, a1, c1, r, ha, _, hbh, hcell, hr1, hx, hcap⟩ := (hs.below hBl hB').atc hlt
      have hidx := idxII ha hlt c'
      have hrl := HRL.out r (List.mem_of_getElem? hx.out)
      have HT := Lib.hid (HTK.out k r hx.out)
      have hkl : (L.take k).length ≤ 1099511627776 := by have := HLL.out; simp; omega
      have hfr : fn < r.length := by omega
      have hr5 : r.length ≤ 100000 := by omega
      clear ha hs hrl
      obtain ⟨l, hl⟩ : ∃ l, r.eraseIdx fn = l := ⟨_, rfl⟩
      have HWO := Lib.hid (i_withoutI (c := c1) hr1 (by omega) hr5 hcap hfr)
      rw [hl] at HWO HT
      clear hl
      go_wp2_with fail
      refine HWO.out.mono ?_
      rintro e w3 ⟨a2, c2, rfl, ho2, hb01⟩
      have hs01 := hb01.size
      have hO := OII.oneN (t := 22) (c := c2) rfl ho2 hs01 (Nat.le_refl _)
      have hb3 := hb01.alloc hs01 (.cells #[.slice a2 l.length c2] 22)
      obtain ⟨A3, C3, G3, hf3, hc3⟩ := Fam.ofOII hO
      clear hO hcell hr1 hb01 ho2 HWO
      go_wp2_with (first
        | (at_builtin; refine wpList_appLL (W0 := wr) rfl (.tmp 35) (.tmp 39) rfl w.heap.size _ (L.take k) [l] rfl hown hb3 (by omega) ⟨w3.heap.size, 0, none⟩ 1 1 rfl rfl A3 C3 G3 hf3 hc3 hkl (by simp) ?_; intro v4 w4 hown4 hb4 hnn4)
        | go_in)
      have HO : Hid (OwnLL w4 w.heap.size v4 (L.take (k + 1))) := by show OwnLL _ _ _ _; rw [HT.out]; exact hown4
      have hs3 := hb3.size
      have hBl5 := (hBl.trans (hb3.mono (by omega))).trans hb4
      clear hown4 hb4 hb3 hBl hown hf3 hc3 hnn4
      go_roundw
      case rel => exact ⟨k + 1, by omega, by go_num, HO.out, hBl5⟩
      case measure => simp [intOf]; omega
    · have HKE : Hid (L.take k = L) := List.take_of_length_le (by have := HLL.out; omega)
      rw [HKE.out] at hown
      obtain ⟨a5, c5, rfl, h5⟩ := hown.slice
      go_wp2
      go_ret2
      exact NewIIB.some HY2.out rfl h5 hBl

end Go.Proofs.Ytfhncfbgdjeloaa
