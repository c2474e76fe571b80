/- Walks: ParseSuite of the program. -/
import Derived.Test.YtpioldgpfpmjiaaDoorKl
namespace Go.Proofs.YtpioldgpfpmjiaaDoor
open Go.RowKit

theorem OwnLL.nilK (w : World) (B : Nat) : OwnLL w B (.slice none 0 0) [] :=
  ⟨[], fun _ => none, fun _ => 0, fun _ => 0, World.ownsRow_nil _ _ _ _, by simp, Fam.nil _ _ _ _ _, by simp⟩
theorem okT_no {m r : List Int} (h : okP m r = false) : okT m r = false := by
  cases ht : okT m r
  · rfl
  · rw [(okT_iff.1 ht).1] at h; cases h
theorem psB_row {m : List Int} {s p : ByteArray} {k : Nat} (h0 : s.size ≠ 0) (hp : (pcs 44 s)[k]? = some p) (h : okP m (rdL p) = false) : psB m s = false := by
  unfold psB
  rw [psR_cons h0, okS_fails (k := k) (r := rdL p) (by rw [List.getElem?_map, hp]; rfl) (okT_no h), Bool.and_false]

set_option maxRecDepth 100000 in
set_option maxHeartbeats 4000000 in
theorem i_ParseSuite {m : List Int} {s : ByteArray} {a : Option Addr} {c lo hi : Nat} {w : World} (hm : RI w lo hi a m) (hlm : m.length ≤ 9223372036854775807) (hs : s.size ≤ 1048576) (hB : hi ≤ w.heap.size) :
    Calls Tryd.prog 10 #[.slice a m.length c, .string s] w (NewIIB w (psL m s) (psB m s)) := by
  cases hok : okM m
  · have HN := Lib.hid (ps_no (m := m) (s := s) (by unfold psB; rw [hok]; rfl))
    have HOK := Lib.hid hok; clear hok
    go_enter Tryd.func10, Tryd.ntmps10
    go_wp2_with fail
    refine (i_ValidModel hm hlm).mono ?_
    rintro e w1 ⟨rfl, d1⟩
    rw [HOK.out]
    go_wp2
    go_ret2
    exact NewIIB.none HN.out (Dr.below d1 _)
  have HOK := Lib.hid hok
  by_cases h0 : s.size = 0
  · obtain rfl := size_eq0 h0
    have HN := Lib.hid (ps_yes (m := m) (s := ⟨#[]⟩) (by unfold psB; rw [hok]; rfl))
    clear hok h0 hs
    go_enter Tryd.func10, Tryd.ntmps10
    go_wp2_with fail
    refine (i_ValidModel hm hlm).mono ?_
    rintro e w1 ⟨rfl, d1⟩
    rw [HOK.out]
    go_wp2
    go_ret2
    exact NewIIB.some (l' := []) ⟨HN.out.1.trans rfl, HN.out.2⟩ rfl (OIIc.nil _ _ _ _ _) (Dr.below d1 _)
  clear hok
  have hne := strNe h0
  have HR := Lib.hid (psR_cons h0)
  have HL : Hid (∀ p ∈ pcs 44 s, p.size ≤ 1048576) := fun p hp => by have := pcs_size hp; omega
  have HNO : Hid (∀ k p, (pcs 44 s)[k]? = some p → okP m (rdL p) = false → psB m s = false) := fun k p hp h => psB_row h0 hp h
  have hpl := pcs_len 44 s
  have hsp := fun w => x_Split1 s 44 w (by omega)
  obtain ⟨X, hX⟩ : ∃ X, pcs 44 s = X := ⟨_, rfl⟩
  rw [hX] at HR HL HNO hpl hsp
  have HSP := Lib.hid hsp
  clear hX hsp
  go_enter Tryd.func10, Tryd.ntmps10
  go_wp2_with fail
  refine (i_ValidModel hm hlm).mono ?_
  rintro e w1 ⟨rfl, d1⟩
  rw [HOK.out]
  have hm1 := hm.dr d1
  have hz1 := Dr.le d1
  have hbd := Dr.below d1 w.heap.size
  clear d1 hm
  go_wp2_with fail
  refine (HSP.out w1).mono ?_
  rintro e w2 ⟨rfl, hw2⟩
  have hnew : w2.heap[w1.heap.size]? = some (.cells (X.map Value.string).toArray 9 (0, 0)) := by rw [hw2]; exact heap_alloc_new _ _
  have hb2 : Below w1.heap.size w1 w2 := by rw [hw2]; exact (Below.refl _ w1).alloc (Nat.le_refl _) _
  have hz2 : w2.heap.size = w1.heap.size + 1 := by rw [hw2]; simp
  have HCS : Hid (∀ k p, X[k]? = some p → w2.cell? ⟨w1.heap.size, k, none⟩ = some (.string p)) := fun k p hp => by
    rw [cell_of_row _ _ k _ _ _ hnew]; simp [hp]
  have hbw2 := hbd.trans (hb2.mono (by omega))
  have hm2 := hm1.below hb2 (by omega)
  have hst := OwnLL.nilK w2 w2.heap.size
  have hbr := Below.refl w2.heap.size w2
  clear hw2 hnew hb2 hm1 hbd
  go_wp2
  go_loopw [6, 19] (fun v iv wr => ∃ k : Nat, k ≤ X.length ∧ iv = .int .i64 k ∧ OwnLL wr w2.heap.size v ((X.take k).map rdL) ∧ Below w2.heap.size w2 wr) (fun _ iv _ => X.length - (intOf iv).toNat)
  case atStart => exact ⟨0, Nat.zero_le _, rfl, hst, hbr⟩
  case round =>
    clear hst hbr
    obtain ⟨k, hk, rfl, hown, hbr⟩ := hrel
    have hz := hbr.size
    by_cases hlt : k < X.length
    · obtain ⟨p, hp⟩ := at_of_lt hlt
      have hcell := (hbr.cell (p := ⟨w1.heap.size, k, none⟩) (by show w1.heap.size < _; omega)).trans (HCS.out k p hp)
      have hidx := idxSt (a := some ⟨w1.heap.size, 0, none⟩) rfl hlt X.length
      simp only [Nat.zero_add] at hidx
      have hps := HL.out p (List.mem_of_getElem? hp)
      have hmr := hm2.below hbr (by omega)
      have hpl2 : ((X.take k).map rdL).length ≤ 1099511627776 := by rw [List.length_map, List.length_take]; omega
      cases hop : okP m (rdL p)
      · have HN := Lib.hid (ps_no (HNO.out k p hp hop))
        have HPP := Lib.hid (pp_no (m := m) (s := p) (.inr hop))
        clear hop hp
        go_wp2_with fail
        refine (i_ParsePatternC hmr hlm hps (by omega)).mono ?_
        rintro e w3 ⟨ra, rc, rfl, h3, hb3⟩
        rw [HPP.out.2]
        go_wp2
        go_ret2
        exact NewIIB.none HN.out (hbw2.trans ((hbr.trans (hb3.mono hz)).mono (by omega)))
      · have HPP := Lib.hid (pp_yes (m := m) (s := p) HOK.out hop)
        have HST : Hid ((X.take k).map rdL ++ [rdL p] = (X.take (k + 1)).map rdL) := by show _ = _; rw [take_snoc hp, List.map_append]; rfl
        obtain ⟨P, hP⟩ : ∃ P, (X.take k).map rdL = P := ⟨_, rfl⟩
        rw [hP] at hown HST hpl2
        clear hop hp hP
        go_wp2_with fail
        refine (i_ParsePatternC hmr hlm hps (by omega)).mono ?_
        rintro e w3 ⟨ra, rc, rfl, h3, hb3⟩
        rw [HPP.out.1] at h3
        rw [HPP.out.1, HPP.out.2]
        have hz3 := hb3.size
        have hO := OII.one (t := 23) h3 hz3 (Nat.le_refl _)
        have hb4 := hb3.alloc hz3 (.cells #[.slice ra (rdL p).length rc] 23)
        obtain ⟨A3, C3, G3, hf3, hc3⟩ := Fam.ofOII hO
        have hf3' := hf3.wide (Nat.le_refl _) (show w3.heap.size + 1 ≤ (w3.alloc (.cells #[.slice ra (rdL p).length rc] 23)).heap.size by simp)
        clear hcell h3 hO hf3 hmr
        go_wp2_with (first
          | (at_builtin; refine wpList_appLL (W0 := wr) rfl (.tmp 31) (.tmp 33) rfl w2.heap.size _ P [rdL p] rfl hown hb4 (by omega) ⟨w3.heap.size, 0, none⟩ 1 1 rfl rfl A3 C3 G3 hf3' hc3 hpl2 (by simp) ?_; intro v5 w5 hown5 hb5 _)
          | go_in)
        rw [HST.out] at hown5
        have hbr5 := (hbr.trans (hb4.mono hz)).trans hb5
        clear hown hb3 hb4 hb5 hf3' hc3 hbr
        go_roundw
        case rel => exact ⟨k + 1, by omega, by go_num, hown5, hbr5⟩
        case measure => simp [intOf]; omega
    · have HT : Hid ((X.take k).map rdL = psR s) := by show _ = _; rw [List.take_of_length_le (by omega), HR.out]
      rw [HT.out] at hown
      have hRL := psR_len s
      have HG : Hid (∀ r ∈ psR s, r.length ≤ 9223372036854775807) := fun r hr => by have := psR_row hr; omega
      obtain ⟨oa, oc, e1, hO⟩ := hown.slice
      subst e1
      have hmr := hm2.below hbr (by omega)
      have hbw := hbw2.trans (hbr.mono (by omega))
      clear hown
      cases hb : psB m s
      · have HN := Lib.hid (ps_no hb)
        have HV : Hid ((okM m && okS m (psR s)) = false) := hb
        clear hb
        go_wp2_with fail
        refine (i_ValidSuite hmr hlm hO.oii.rii (by omega) HG.out).mono ?_
        rintro e w5 ⟨rfl, d5⟩
        rw [HV.out]
        go_wp2
        go_ret2
        exact NewIIB.none HN.out (hbw.trans (Dr.below d5 _))
      · have HN := Lib.hid (ps_yes hb)
        have HV : Hid ((okM m && okS m (psR s)) = true) := hb
        clear hb
        go_wp2_with fail
        refine (i_ValidSuite hmr hlm hO.oii.rii (by omega) HG.out).mono ?_
        rintro e w5 ⟨rfl, d5⟩
        rw [HV.out]
        go_wp2
        go_ret2
        exact NewIIB.some HN.out rfl ((hO.below (Dr.below d5 _) (Nat.le_refl _)).wide (by omega) (Dr.below d5 0).size) (hbw.trans (Dr.below d5 _))

end Go.Proofs.YtpioldgpfpmjiaaDoor
