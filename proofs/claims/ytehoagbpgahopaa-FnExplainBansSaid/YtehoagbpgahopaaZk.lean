/- Walks: the functions on bans, by the program. -/
import Derived.Test.YtehoagbpgahopaaZe
import Derived.Test.YtehoagbpgahopaaZj
namespace Go.Proofs.Ytehoagbpgahopaa
open Go.RowKit

set_option maxHeartbeats 1000000 in
theorem i_isPossible {m p : List Int} {b : List (List Int)} {v : Value} {a : Option Addr} {c lo hi B : Nat} {w0 w : World} (hm : RI w lo hi a m) (hhi : hi ≤ w.heap.size) (ho : OwnBn w0 B v b) (hb0 : Below w0.heap.size w0 w) (hok : okM m = true) (hob : okBn m b = true) (hop : okP m p = true) :
    Calls Try.prog 132 #[.agg #[.slice a m.length c, v], .agg #[.int .i64 (at5 p 0), .int .i64 (at5 p 1), .int .i64 (at5 p 2), .int .i64 (at5 p 3), .int .i64 (at5 p 4)]] w (NewV w (.bool (hasP (alL m b) p))) := by
  have hs0 := hb0.size
  have HOK := Lib.hid hok; have HOB := Lib.hid hob; have HOP := Lib.hid hop
  have HCT := Lib.hid (ct_has m b p)
  obtain ⟨A0, A1, AB⟩ := al2 w (.cells #[.slice a m.length c, v] 93) (.cells #[.int .i64 (at5 p 0), .int .i64 (at5 p 1), .int .i64 (at5 p 2), .int .i64 (at5 p 3), .int .i64 (at5 p 4)] 97)
  have hm2 := hm.below AB hhi
  replace AB := Lib.hid AB
  clear hok hob hop A0 A1 hm
  obtain ⟨O, hO⟩ : ∃ O, ctO m b p = O := ⟨_, rfl⟩
  have HO := Lib.hid hO
  go_enter Try.func132, Try.ntmps132
  go_wp2_with fail
  refine (i_completed hm2 (by simp; omega) ho (hb0.trans (AB.out.mono hs0)) HOK.out HOB.out HOP.out).mono ?_
  rintro e w3 ⟨rfl, hb3⟩
  rw [hO]
  clear hO
  go_wp2
  go_ret
  refine ⟨by rw [← HCT.out, HO.out]; rfl, ?_⟩
  exact (AB.out.trans (hb3.mono (B' := w.heap.size) (by simp; omega))).alloc (by have := hb3.size; simp at this; omega) _

set_option maxHeartbeats 1000000 in
theorem i_canExplain {m : List Int} {s : List (List Int)} {p : List Int} {a a1 a3 : Option Addr} {c c1 c3 lo hi lo1 hi1 lo3 hi3 : Nat} {w : World} (hm : RI w lo hi a m) (hlm : m.length ≤ 9223372036854775807) (hs : RII w lo1 hi1 a1 s) (hls : s.length ≤ 9223372036854775807) (hg : ∀ r ∈ s, r.length ≤ 9223372036854775807) (hp : RI w lo3 hi3 a3 p) (hlp : p.length ≤ 9223372036854775807) :
    Calls Try.prog 130 #[.slice a m.length c, .slice a1 s.length c1, .slice a3 p.length c3] w (RO w (.bool (okM m && okBn m s && okP m p))) := by
  have HG := Lib.hid hg; clear hg
  cases hB : okM m && okBn m s
  · have HB := Lib.hid hB; clear hB
    go_enter Try.func130, Try.ntmps130
    go_wp2_with fail
    refine (i_ValidBans hm hlm hs hls HG.out).mono ?_
    rintro e w1 ⟨rfl, d1⟩
    rw [HB.out]
    go_wp2
    go_ret
    exact Dr.boolD d1 (by simp)
  · have HB := Lib.hid hB
    have hok : okM m = true := by rw [Bool.and_eq_true] at hB; exact hB.1
    have HOK := Lib.hid hok
    clear hB hok
    go_enter Try.func130, Try.ntmps130
    go_wp2_with fail
    refine (i_ValidBans hm hlm hs hls HG.out).mono ?_
    rintro e w1 ⟨rfl, d1⟩
    rw [HB.out]
    go_wp2_with fail
    refine (i_ValidPattern (hm.dr d1) hlm (hp.dr d1) hlp).mono ?_
    rintro e w2 ⟨rfl, d2⟩
    rw [HOK.out, Bool.true_and]
    go_wp2
    go_ret
    exact Dr.boolD (Dr.trans d1 d2) (by simp)

set_option maxHeartbeats 2000000 in
theorem i_IsPossible {m : List Int} {a : Option Addr} {c lo hi : Nat} {s : List (List Int)} {a1 : Option Addr} {c1 lo1 hi1 : Nat} {p : List Int} {a3 : Option Addr} {c3 lo3 hi3 : Nat} {w : World} (hm : RI w lo hi a m) (hlm : m.length ≤ 9223372036854775807) (hs : RII w lo1 hi1 a1 s) (hls : s.length ≤ 9223372036854775807) (hg : ∀ r ∈ s, r.length ≤ 9223372036854775807) (hp : RI w lo3 hi3 a3 p) (hlp : p.length ≤ 9223372036854775807) (hB : hi ≤ w.heap.size) (hB1 : hi1 ≤ w.heap.size) (hB3 : hi3 ≤ w.heap.size) :
    Calls Try.prog 32 #[.slice a m.length c, .slice a1 s.length c1, .slice a3 p.length c3] w (NewV w (.bool (ipB m s p))) := by
  have HG := Lib.hid hg; clear hg
  have D0 : Dr w w := Dr.refl w
  cases hHIE : okM m && okBn m s && okP m p
  · have HIE := Lib.hid hHIE; clear hHIE
    go_enter Try.func32, Try.ntmps32
    go_wp2_with fail
    refine (i_canExplain (hm.dr D0) hlm (hs.dr D0) hls HG.out (hp.dr D0) hlp).mono ?_
    rintro e w1 ⟨rfl, d1⟩
    rw [HIE.out]
    have D1 := Dr.trans D0 d1
    clear d1
    go_wp2
    go_ret
    exact ⟨by rw [ip_no HIE.out]; rfl, Dr.below D1 _⟩
  have HIE := Lib.hid hHIE; clear hHIE
  have hE := HIE.out
  rw [Bool.and_eq_true, Bool.and_eq_true] at hE
  have HOK := Lib.hid hE.1.1
  have HOB := Lib.hid hE.1.2
  have HOP := Lib.hid hE.2
  clear hE
  have hsl := okBn_len HOB.out
  have HR := Lib.hid (bn_rows HOB.out)
  have hm5 := okM_len HOK.out
  have HPL := Lib.hid (okW_len HOP.out)
  have hp5 : p.length ≤ 5 := by have := HPL.out; omega
  have HIP := Lib.hid (ip_yes HOK.out HOB.out HOP.out)
  go_enter Try.func32, Try.ntmps32
  go_wp2_with fail
  refine (i_canExplain (hm.dr D0) hlm (hs.dr D0) hls HG.out (hp.dr D0) hlp).mono ?_
  rintro e w1 ⟨rfl, d1⟩
  rw [HIE.out]
  have D1 := Dr.trans D0 d1
  clear d1
  have Z1 := Dr.le D1
  go_wp2_with fail
  refine (i_rulesOf m.length (hs.dr D1) (by omega) hsl (fun r hr => by have := HR.out r hr; omega)).mono ?_
  rintro e w2 ⟨v, rfl, ho2, hb2⟩
  have hz2 := hb2.size
  have hm2 := (hm.dr D1).below hb2 (by omega)
  have hp2 := (hp.dr D1).below hb2 (by omega)
  go_wp2_with fail
  refine (i_patternOf hp2 (by omega) hp5).mono ?_
  rintro e w3 ⟨rfl, hb3⟩
  have hz3 := hb3.size
  have hm3 := hm2.below hb3 (by omega)
  go_wp2_with fail
  refine (i_isPossible hm3 (by omega) ho2 hb3 HOK.out HOB.out HOP.out).mono ?_
  rintro e w4 ⟨rfl, hb4⟩
  rw [← HIP.out]
  go_wp2
  go_ret
  exact ⟨rfl, (Dr.below D1 w.heap.size).trans ((hb2.trans (hb3.trans (hb4.mono (by omega)) |>.mono (by omega))).mono (by omega))⟩

set_option maxRecDepth 100000 in
set_option maxHeartbeats 2000000 in
theorem i_CompleteTest {m : List Int} {a : Option Addr} {c lo hi : Nat} {s : List (List Int)} {a1 : Option Addr} {c1 lo1 hi1 : Nat} {p : List Int} {a3 : Option Addr} {c3 lo3 hi3 : Nat} {w : World} (hm : RI w lo hi a m) (hlm : m.length ≤ 9223372036854775807) (hs : RII w lo1 hi1 a1 s) (hls : s.length ≤ 9223372036854775807) (hg : ∀ r ∈ s, r.length ≤ 9223372036854775807) (hp : RI w lo3 hi3 a3 p) (hlp : p.length ≤ 9223372036854775807) (hB : hi ≤ w.heap.size) (hB1 : hi1 ≤ w.heap.size) (hB3 : hi3 ≤ w.heap.size) :
    Calls Try.prog 34 #[.slice a m.length c, .slice a1 s.length c1, .slice a3 p.length c3] w (NewIB w (cpL m s p) (ipB m s p)) := by
  have HG := Lib.hid hg; clear hg
  have D0 : Dr w w := Dr.refl w
  cases hHIE : okM m && okBn m s && okP m p
  · have HIE := Lib.hid hHIE; clear hHIE
    go_enter Try.func34, Try.ntmps34
    go_wp2_with fail
    refine (i_canExplain (hm.dr D0) hlm (hs.dr D0) hls HG.out (hp.dr D0) hlp).mono ?_
    rintro e w1 ⟨rfl, d1⟩
    rw [HIE.out]
    have D1 := Dr.trans D0 d1
    clear d1
    go_wp2
    go_ret2
    have hni := ip_no (m := m) (b := s) (p := p) HIE.out
    exact NewIB.none (l := cpL m s p) (b := ipB m s p) ⟨cp_no hni, hni⟩ (Dr.below D1 _) /- tuple -/
  have HIE := Lib.hid hHIE; clear hHIE
  have hE := HIE.out
  rw [Bool.and_eq_true, Bool.and_eq_true] at hE
  have HOK := Lib.hid hE.1.1
  have HOB := Lib.hid hE.1.2
  have HOP := Lib.hid hE.2
  clear hE
  have hsl := okBn_len HOB.out
  have HR := Lib.hid (bn_rows HOB.out)
  have hm5 := okM_len HOK.out
  have HPL := Lib.hid (okW_len HOP.out)
  have hp5 : p.length ≤ 5 := by have := HPL.out; omega
  go_enter Try.func34, Try.ntmps34
  go_wp2_with fail
  refine (i_canExplain (hm.dr D0) hlm (hs.dr D0) hls HG.out (hp.dr D0) hlp).mono ?_
  rintro e w1 ⟨rfl, d1⟩
  rw [HIE.out]
  have D1 := Dr.trans D0 d1
  clear d1
  have Z1 := Dr.le D1
  go_wp2_with fail
  refine (i_rulesOf m.length (hs.dr D1) (by omega) hsl (fun r hr => by have := HR.out r hr; omega)).mono ?_
  rintro e w2 ⟨v, rfl, ho2, hb2⟩
  have hz2 := hb2.size
  have hm2 := (hm.dr D1).below hb2 (by omega)
  have hp2 := (hp.dr D1).below hb2 (by omega)
  go_wp2_with fail
  refine (i_patternOf hp2 (by omega) hp5).mono ?_
  rintro e w3 ⟨rfl, hb3⟩
  have hz3 := hb3.size
  have hm3 := hm2.below hb3 (by omega)
  have hbb : Below w.heap.size w w3 := (Dr.below D1 w.heap.size).trans ((hb2.trans (hb3.mono (by omega))).mono (by omega))
  cases hct : ctO m s p with
  | none =>
    have HC := Lib.hid (cp_none HOK.out HOB.out HOP.out hct)
    go_wp2_with fail
    refine (i_completed hm3 (by omega) ho2 hb3 HOK.out HOB.out HOP.out).mono ?_
    rintro e w4 ⟨rfl, hb4⟩
    rw [hct]
    clear hct
    go_wp2
    go_ret2
    exact NewIB.none (l := cpL m s p) (b := ipB m s p) ⟨HC.out.2, HC.out.1⟩ ((hbb.trans (hb4.mono (by omega))).alloc (by have := hb4.size; omega) _)
  | some x =>
    have HC := Lib.hid (cp_some HOK.out HOB.out HOP.out hct)
    have hxl : x.length = m.length := alL_row x (ct_mem hct).1
    have hx0 : x ≠ [] := by intro h; rw [h] at hxl; simp at hxl; omega
    have hx0 := Lib.hid hx0
    replace hxl := Lib.hid hxl
    go_wp2_with fail
    refine (i_completed hm3 (by omega) ho2 hb3 HOK.out HOB.out HOP.out).mono ?_
    rintro e w4 ⟨rfl, hb4⟩
    rw [hct]
    have hz4 := hb4.size
    obtain ⟨n, hn⟩ : ∃ n, m.length = n := ⟨_, rfl⟩
    have hn5 : n ≤ 5 := by omega
    have HN := Lib.hid hn
    have hsl5 := fun b wx => slice5 b n hn5 wx
    have hxn := Lib.hid (hxl.out.trans hn)
    clear hct hxl hm hs hp hm2 hp2 hm3
    have hbx := ri_box (heap_alloc_new w4 (.cells #[.int .i64 (at5 x 0), .int .i64 (at5 x 1), .int .i64 (at5 x 2), .int .i64 (at5 x 3), .int .i64 (at5 x 4)] 97)) (by have := hxn.out; omega)
    have hbA := hbb.trans (hb4.mono (by omega)) |>.alloc (by omega) (.cells #[.int .i64 (at5 x 0), .int .i64 (at5 x 1), .int .i64 (at5 x 2), .int .i64 (at5 x 3), .int .i64 (at5 x 4)] 97)
    rw [hn]
    clear hn
    go_wp2_with fail
    refine (x_CloneN hxn.out hbx (by simp) hx0.out (by omega)).mono ?_
    rintro e w5 ⟨a6, c6, rfl, h6, hb6⟩
    go_wp2
    go_ret2
    exact NewIB.some (l := cpL m s p) (b := ipB m s p) ⟨HC.out.2, HC.out.1⟩ hxn.out.symm (h6.oi.wide (by simp; omega) (Nat.le_refl _)) (hbA.trans (hb6.mono (by simp; omega)))


end Go.Proofs.Ytehoagbpgahopaa
