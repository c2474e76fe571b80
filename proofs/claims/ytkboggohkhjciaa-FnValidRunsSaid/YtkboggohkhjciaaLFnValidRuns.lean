/- The walk of FnValidRuns: it returns true and writes nothing that was there. -/
import Derived.Test.YtkboggohkhjciaaRc
import Derived.Test.YtkboggohkhjciaaNa
import Derived.Test.YtkboggohkhjciaaNc
import Derived.Test.YtkboggohkhjciaaUb
import Derived.Test.YtkboggohkhjciaaUg
import Derived.Test.YtkboggohkhjciaaUe
import Derived.Test.YtkboggohkhjciaaOc
import Derived.Test.YtkboggohkhjciaaTg
namespace Go.Proofs.Ytkboggohkhjciaa
open Go.RowKit

set_option maxRecDepth 100000 in
set_option maxHeartbeats 2000000 in
theorem law_FnValidRuns {m0 : Nat} {a0 : Option Addr} {c0 : Nat} {w : World} (f0 : RB w w.heap.size a0 m0) (l0 : m0 ≤ c0) :
    Calls Try.prog 3 #[.slice a0 m0 c0] w (Tru w) := by
  by_cases hb : m0 ≤ 1048576
  case neg =>
    go_enter Try.func3, Try.ntmps3
    go_wp2
    go_ret
    exact ⟨rfl, Below.refl _ _⟩
  go_enter Try.func3, Try.ntmps3
  go_wp2_with fail
  refine (s_DrawValidRuns f0 l0 hb).mono ?_
  rintro e w1 ⟨n, a2, c2, L, rfl, hG, B1⟩
  have z1 := B1.size
  have hs := hG.ric
  have hn0 := hG.n0
  have hn6 := hG.n6
  have hlen := hG.len
  have HR6 := Lib.hid hG.row
  have HRG : Hid (∀ r ∈ L, r.length ≤ 9223372036854775807) := fun r h => by have := HR6.out r h; omega
  have scap := hs.cap
  clear hG
  clear f0
  cases hok : okRs n L
  · skip
    have HV := Lib.hid hok; clear hok
    go_wp2_with fail
    refine (i_ValidRuns (by omega) (by omega) hs.rii (by omega) HRG.out (by omega)).mono ?_
    rintro e w2 ⟨rfl, b2⟩
    have z2 := b2.size
    have hs := hs.below b2 (by omega)
    have B2 := B1.trans (b2.mono (by omega))
    clear b2 B1
    rw [HV.out]
    go_wp2_with fail
    refine (s_ValidRuns (by omega) (by omega) hs.rii (by omega) HRG.out).mono ?_
    rintro e w3 ⟨rfl, d3⟩
    have b3 := Dr.below d3 w2.heap.size
    have z3 := Dr.le d3
    clear d3
    have hs := hs.below b3 (by omega)
    have B3 := B2.trans (b3.mono (by omega))
    clear b3 B2
    rw [HV.out]
    go_wp2_with fail
    refine (s_ValidRuns (by omega) (by omega) hs.rii (by omega) HRG.out).mono ?_
    rintro e w4 ⟨rfl, d4⟩
    have b4 := Dr.below d4 w3.heap.size
    have z4 := Dr.le d4
    clear d4
    have hs := hs.below b4 (by omega)
    have B4 := B3.trans (b4.mono (by omega))
    clear b4 B3
    rw [HV.out]
    go_wp2
    go_ret
    exact ⟨rfl, B4⟩
  have HV := Lib.hid hok; clear hok
  go_wp2_with fail
  refine (i_ValidRuns (by omega) (by omega) hs.rii (by omega) HRG.out (by omega)).mono ?_
  rintro e w2 ⟨rfl, b2⟩
  have z2 := b2.size
  have hs := hs.below b2 (by omega)
  have B2 := B1.trans (b2.mono (by omega))
  clear b2 B1
  rw [HV.out]
  go_wp2_with fail
  refine (s_ValidRuns (by omega) (by omega) hs.rii (by omega) HRG.out).mono ?_
  rintro e w3 ⟨rfl, d3⟩
  have b3 := Dr.below d3 w2.heap.size
  have z3 := Dr.le d3
  clear d3
  have hs := hs.below b3 (by omega)
  have B3 := B2.trans (b3.mono (by omega))
  clear b3 B2
  rw [HV.out]
  by_cases hL0 : L.length = 0
  · skip
    obtain rfl := List.eq_nil_of_length_eq_zero hL0
    go_wp2_with fail
    go_quiet (fail)
    go_wp2
    go_ret
    exact ⟨rfl, B3.trans (Dr.below ⟨_, rfl⟩ _)⟩
  obtain ⟨j, hj⟩ : ∃ j, L.length = j + 1 := ⟨L.length - 1, by omega⟩
  have hlt : j < L.length := by omega
  obtain ⟨b, o, a3, c3, r, ha, _, hbh, hcell, hr, hx⟩ := hs.rii.at hlt
  subst ha
  have hq := hs.rii.takeR j
  have HQG : Hid (∀ r ∈ L.take j, r.length ≤ 9223372036854775807) := fun r hr => HRG.out r (List.mem_of_mem_take hr)
  have hw : IntKind.i64.wrap ((L.length : Int) - 1) = (j : Int) := by rw [IntWalk.i64_in _ (by omega)]; omega
  have hd0 : ((L.length : Int) == 0) = false := by rw [beq_eq_false_iff_ne]; omega
  have HT := Lib.hid (okRs_take HV.out j)
  have HH := Lib.hid (hasL_iff.2 (vr_law HV.out (List.mem_of_getElem? hx.out)))
  have HUL := @uoL_len n [] n
  have HUG := Lib.hid (@uoL_gr n [] n).2
  obtain ⟨U, hU⟩ : ∃ U, uoL n [] n = U := ⟨_, rfl⟩
  have HU := Lib.hid hU
  rw [hU] at HH HUL HUG
  clear hU
  have hr6 := HR6.out r (List.mem_of_getElem? hx.out)
  obtain ⟨q, hqe⟩ : ∃ q, L.take j = q := ⟨_, rfl⟩
  have hql : q.length = j := by rw [← hqe]; simp; omega
  rw [hqe] at hq HQG
  have hq21 : q.length ≤ 21 := by omega
  have hsl := fun wx => sliceToII (b := b) (o := o) (n := L.length) (c := c2) (k := q.length) (z := (j : Int)) (by omega) (by omega) wx
  rw [hqe] at HT
  have hidx := idxII (a := some ⟨b, o, none⟩) rfl hlt c2
  have HS : Hid (∀ w', Below w3.heap.size w3 w' → w'.cell? ⟨b, o + j, none⟩ = some (.slice a3 r.length c3)) := fun w' hb => (hb.cell (p := ⟨b, o + j, none⟩) (by show b < _; omega)).trans hcell
  have HC1 : Hid (∀ w', Below w3.heap.size w3 w' → Calls Try.prog 12 #[.int .i64 n, .slice (some ⟨b, o, none⟩) q.length c2] w' (NewW w' (.bool true))) := fun w' hb => by
    have h := i_ValidRuns (n := n) (c := c2) (by omega) (by omega) (hq.below hb (by omega)) (by omega) HQG.out (by have := hb.size; omega)
    rw [HT.out] at h; exact h
  have HC2 : Hid (∀ w', Calls Try.prog 15 #[.int .i64 n, .int .i64 n] w' (NewII w' U)) := fun w' => by rw [← HU.out]; exact i_AllLists (by omega) (by omega) (by omega) (by omega)
  have HC3 : Hid (∀ (u2 u3 : World) lo5 a5 c5, Below w3.heap.size w3 u2 → OIIc u2 lo5 u3.heap.size a5 c5 U → Calls Try.prog 14 #[.slice a5 U.length c5, .slice a3 r.length c3] u2 (RO u2 (.bool true))) := fun u2 u3 lo5 a5 c5 hb ho => by
    have h := l_holdsList (c := c5) (d := c3) ho.rii (hr.below hb (by omega)) (by omega) (by omega) HUG.out
    rw [HH.out] at h; exact h
  have HQL := Lib.hid hql
  clear hql hqe hcell hr hq hj hs hx
  have hqs : Below w3.heap.size w3 w3 := Below.refl _ _
  go_wp2_with fail
  go_region_held3 (fun w' => w'.cell? ⟨b, o + j, none⟩ = some (.slice a3 r.length c3)) (first | exact HS.out _ (by first | exact hqs | exact hqs.drew) | go_keep) ((first
    | (go_at_call 12; ((with_reducible refine Calls.mono (HC1.out _ (by first | exact hqs | exact hqs.drew)) ?_)); rintro e v1 ⟨rfl, hb1⟩; have hqs : Below w3.heap.size w3 v1 := (by first | exact hqs.trans (hb1.mono hqs.size) | exact hqs.drew.trans (hb1.mono hqs.size)))
    | (go_at_call 15; ((with_reducible refine Calls.mono (HC2.out _) ?_)); rintro e v2 ⟨a5, c5, rfl, h5, hb2⟩; have hqs : Below w3.heap.size w3 v2 := (by first | exact hqs.trans (hb2.mono hqs.size) | exact hqs.drew.trans (hb2.mono hqs.size)))
    | (go_at_call 14; ((with_reducible refine Calls.mono (HC3.out _ _ _ _ _ hqs h5) ?_)); rintro e v3 ⟨rfl, hb3⟩; have hqs : Below w3.heap.size w3 v3 := hqs.trans (Dr.below hb3 _))
    | fail))
  all_goals
    go_wp2
    go_ret
    exact ⟨rfl, B3.trans (hqs.mono (by omega))⟩

end Go.Proofs.Ytkboggohkhjciaa
