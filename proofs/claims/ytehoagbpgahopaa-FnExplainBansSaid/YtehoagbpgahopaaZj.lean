/- Walks: the functions on bans, by the model. -/
import Derived.Test.YtehoagbpgahopaaZa
import Derived.Test.YtehoagbpgahopaaYb
namespace Go.Proofs.Ytehoagbpgahopaa
open Go.RowKit


/-- A call that returns a list of numbers in memory that came with it, and a bool. -/
def GotIB (w : World) (l : List Int) (b : Bool) (e : Ending) (w' : World) : Prop :=
  ∃ a c, e = .returned (.tuple #[.slice a l.length c, .bool b]) ∧ RI w' w.heap.size w'.heap.size a l ∧ Below w.heap.size w w'
theorem GotIB.none {w w' : World} {l : List Int} {b : Bool} (h : l = [] ∧ b = false) (hb : Below w.heap.size w w') : GotIB w l b (.returned (.tuple #[.slice none 0 0, .bool false])) w' := by
  obtain ⟨rfl, rfl⟩ := h
  exact ⟨_, _, rfl, RI.nil _ _ _ _, hb⟩
theorem bn_rows {m : List Int} {s : List (List Int)} (h : okBn m s = true) : ∀ r ∈ s, r.length = m.length := fun r hr => okW_len (okBn_all h hr)
theorem ok3 {a b c : Bool} : (a && b && c) = false → a = true → b = true → c = false := by cases a <;> cases b <;> cases c <;> simp


set_option maxHeartbeats 2000000 in
theorem s_possible {m : List Int} {s : List (List Int)} {p : List Int} {a a1 a3 : Option Addr} {c c1 c3 lo hi lo1 hi1 lo3 hi3 : Nat} {w : World} (hok : okM m = true) (hm : RI w lo hi a m) (hB : hi ≤ w.heap.size) (hs : RII w lo1 hi1 a1 s) (hB1 : hi1 ≤ w.heap.size) (hsl : s.length ≤ 1048576) (hr : ∀ r ∈ s, r.length = m.length) (hp : RI w lo3 hi3 a3 p) (hB3 : hi3 ≤ w.heap.size) (hpl : p.length = m.length) :
    Calls Try.prog 135 #[.slice a m.length c, .slice a1 s.length c1, .slice a3 p.length c3] w (NewV w (.bool (hasP (alL m s) p))) := by
  have hm5 := okM_len hok
  have HOK := Lib.hid hok; clear hok
  have HR := Lib.hid hr; clear hr
  have HPL := Lib.hid hpl; clear hpl
  have HAL := Lib.hid (alL_len2 (b := s) HOK.out)
  have HAR := Lib.hid (alL_row (m := m) (b := s))
  go_enter Try.func135, Try.ntmps135
  go_wp2_with fail
  refine (s_allowedTests HOK.out hm hB hs hB1 hsl HR.out).mono ?_
  rintro e w4 ⟨a4, c4, rfl, h4, hb4⟩
  have hp4 := hp.below hb4 hB3
  obtain ⟨A, hA⟩ : ∃ A, alL m s = A := ⟨_, rfl⟩
  have HAA := Lib.hid hA
  rw [hA] at h4 HAL HAR ⊢
  have hAl := HAL.out
  have H5 : Hid (∀ r ∈ A, p.length ≤ r.length ∧ r.length ≤ 9223372036854775807) := fun r hr => by have := HAR.out r hr; have := HPL.out; omega
  clear hA
  go_wp2_with fail
  refine (s_covers h4.rii hp4 (by omega) H5.out).mono ?_
  rintro e w5 ⟨rfl, d5⟩
  go_wp2
  go_ret
  exact ⟨by rw [HAA.out]; rfl, hb4.trans (Dr.below d5 _)⟩


set_option maxHeartbeats 2000000 in
theorem s_IsPossible {m : List Int} {a : Option Addr} {c lo hi : Nat} {s : List (List Int)} {a1 : Option Addr} {c1 lo1 hi1 : Nat} {p : List Int} {a3 : Option Addr} {c3 lo3 hi3 : Nat} {w : World} (hm : RI w lo hi a m) (hlm : m.length ≤ 9223372036854775807) (hs : RII w lo1 hi1 a1 s) (hls : s.length ≤ 9223372036854775807) (hg : ∀ r ∈ s, r.length ≤ 9223372036854775807) (hp : RI w lo3 hi3 a3 p) (hlp : p.length ≤ 9223372036854775807) (hB : hi ≤ w.heap.size) (hB1 : hi1 ≤ w.heap.size) (hB3 : hi3 ≤ w.heap.size) :
    Calls Try.prog 33 #[.slice a m.length c, .slice a1 s.length c1, .slice a3 p.length c3] w (NewV w (.bool (ipB m s p))) := by
  have HG := Lib.hid hg; clear hg
  have D0 : Dr w w := Dr.refl w
  cases hHOK : okM m
  · have HOK := Lib.hid hHOK; clear hHOK
    go_enter Try.func33, Try.ntmps33
    go_wp2_with fail
    refine (s_validModel (hm.dr D0) hlm).mono ?_
    rintro e w1 ⟨rfl, d1⟩
    rw [HOK.out]
    have D1 := Dr.trans D0 d1
    clear d1
    go_wp2
    go_ret
    exact ⟨by rw [ip_no (m := m) (b := s) (p := p) (by first | (rw [HOK.out]; rfl) | (rw [HOK.out, HOK.out]; rfl) | (rw [HOK.out, HOB.out, HOK.out]; rfl))]; rfl, Dr.below D1 _⟩
  have HOK := Lib.hid hHOK; clear hHOK
  cases hHOB : okBn m s
  · have HOB := Lib.hid hHOB; clear hHOB
    go_enter Try.func33, Try.ntmps33
    go_wp2_with fail
    refine (s_validModel (hm.dr D0) hlm).mono ?_
    rintro e w1 ⟨rfl, d1⟩
    rw [HOK.out]
    have D1 := Dr.trans D0 d1
    clear d1
    go_wp2_with fail
    refine (s_validBans (hm.dr D1) (hs.dr D1) HOK.out hls HG.out).mono ?_
    rintro e w2 ⟨rfl, d2⟩
    rw [HOB.out]
    have D2 := Dr.trans D1 d2
    clear d2
    go_wp2
    go_ret
    exact ⟨by rw [ip_no (m := m) (b := s) (p := p) (by first | (rw [HOB.out]; rfl) | (rw [HOK.out, HOB.out]; rfl) | (rw [HOK.out, HOB.out, HOB.out]; rfl))]; rfl, Dr.below D2 _⟩
  have HOB := Lib.hid hHOB; clear hHOB
  cases hHOP : okP m p
  · have HOP := Lib.hid hHOP; clear hHOP
    go_enter Try.func33, Try.ntmps33
    go_wp2_with fail
    refine (s_validModel (hm.dr D0) hlm).mono ?_
    rintro e w1 ⟨rfl, d1⟩
    rw [HOK.out]
    have D1 := Dr.trans D0 d1
    clear d1
    go_wp2_with fail
    refine (s_validBans (hm.dr D1) (hs.dr D1) HOK.out hls HG.out).mono ?_
    rintro e w2 ⟨rfl, d2⟩
    rw [HOB.out]
    have D2 := Dr.trans D1 d2
    clear d2
    go_wp2_with fail
    refine (s_validPattern (hm.dr D2) (hp.dr D2) HOK.out hlp).mono ?_
    rintro e w3 ⟨rfl, d3⟩
    rw [HOP.out]
    have D3 := Dr.trans D2 d3
    clear d3
    go_wp2
    go_ret
    exact ⟨by rw [ip_no (m := m) (b := s) (p := p) (by first | (rw [HOP.out]; rfl) | (rw [HOK.out, HOP.out]; rfl) | (rw [HOK.out, HOB.out, HOP.out]; rfl))]; rfl, Dr.below D3 _⟩
  have HOP := Lib.hid hHOP; clear hHOP
  have HR := Lib.hid (bn_rows HOB.out)
  have hsl := okBn_len HOB.out
  have HPL := Lib.hid (okW_len HOP.out)
  have HIP := Lib.hid (ip_yes HOK.out HOB.out HOP.out)
  go_enter Try.func33, Try.ntmps33
  go_wp2_with fail
  refine (s_validModel (hm.dr D0) hlm).mono ?_
  rintro e w1 ⟨rfl, d1⟩
  rw [HOK.out]
  have D1 := Dr.trans D0 d1
  clear d1
  go_wp2_with fail
  refine (s_validBans (hm.dr D1) (hs.dr D1) HOK.out hls HG.out).mono ?_
  rintro e w2 ⟨rfl, d2⟩
  rw [HOB.out]
  have D2 := Dr.trans D1 d2
  clear d2
  go_wp2_with fail
  refine (s_validPattern (hm.dr D2) (hp.dr D2) HOK.out hlp).mono ?_
  rintro e w3 ⟨rfl, d3⟩
  rw [HOP.out]
  have D3 := Dr.trans D2 d3
  clear d3
  have Z3 := Dr.le D3
  go_wp2_with fail
  refine (s_possible HOK.out (hm.dr D3) (by omega) (hs.dr D3) (by omega) (by omega) HR.out (hp.dr D3) (by omega) HPL.out).mono ?_
  rintro e w4 ⟨rfl, hb4⟩
  have hb03 := (Dr.below D3 w.heap.size).trans (hb4.mono (by omega))
  rw [← HIP.out]
  go_wp2
  go_ret
  exact ⟨rfl, hb03⟩




end Go.Proofs.Ytehoagbpgahopaa
