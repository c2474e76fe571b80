/- Walks: what ShrinkFailure draws. -/
import Derived.Test.YtehoagbpgahopaaZp
import Derived.Test.YtehoagbpgahopaaZa
namespace Go.Proofs.Ytehoagbpgahopaa
open Go.RowKit

theorem results_tmp4c {fn : Func} {t u v x : Tmp} (h : fn.results = #[.tmp t, .tmp u, .tmp v, .tmp x]) (tmps : Array Value) (P : Program) (w : World) :
    (results fn tmps).run P w = .ok (.tuple #[tmps.getD t undef, tmps.getD u undef, tmps.getD v undef, tmps.getD x undef]) w := by
  simp [results, h]
/-- a row that was drawn: numbers that nobody tells of -/
structure GotN (w w' : World) (N : Nat) (a : Option Addr) (c : Nat) (m : List Int) : Prop where
  ri : RI w' w.heap.size w'.heap.size a m
  len : m.length ≤ N
  cap : m.length ≤ c
def DrF (w : World) (e : Ending) (w' : World) : Prop := ∃ (a1 : Option Addr) (c1 : Nat) (m : List Int) (a2 : Option Addr) (c2 : Nat) (s : List (List Int)) (a3 : Option Addr) (c3 : Nat) (x : List Int) (a4 : Option Addr) (c4 : Nat) (y : List Int), e = .returned (.tuple #[.slice a1 m.length c1, .slice a2 s.length c2, .slice a3 x.length c3, .slice a4 y.length c4]) ∧ (Got w w' 10 a1 c1 m ∧ GotS w w' 12 a2 c2 s ∧ GotN w w' 11 a3 c3 x ∧ GotN w w' 11 a4 c4 y) ∧ Below w.heap.size w w'

set_option maxRecDepth 100000 in
set_option maxHeartbeats 8000000 in
theorem s_DrawShrinkFailure {n : Nat} {a : Option Addr} {c : Nat} {w : World} (hm : RB w w.heap.size a n) (hc : n ≤ c) (hl : n ≤ 1048576) :
    Calls Try.prog 117 #[.slice a n c] w (DrF w) := by
  go_enter Try.func117, Try.ntmps117
  go_wp2_with fail
  refine (s_newReader hm hc hl).mono ?_
  rintro e w1 ⟨rfl, hr1, hb1⟩
  have hlt := hr1.lt
  have hs1 := hb1.size
  go_wp2_with fail
  refine (s_goodModel hr1 (by omega)).mono ?_
  rintro e w2 ⟨a2, c2, m2, rfl, ho2, hL2, hr2, hU2⟩
  go_wp2_with fail
  refine (s_bentModel hr2 (by omega) ho2 rfl hL2 (by omega) hlt hU2.size).mono ?_
  rintro e w3 ⟨a3, c3, m, rfl, ho3, hL3, hr3, hU3⟩
  have hU := hU2.trans hU3
  have hcap := ho3.cap.2
  have hs3 := hU.size
  clear ho2 hL2 hr2 hU2 hU3 hr1 hm
  have HL3 := Lib.hid hL3
  have hml := hL3.1
  go_wp2_with fail
  refine (s_someBans hr3 ho3 rfl hlt hs3 hL3 (by omega) (by omega)).mono ?_
  rintro e w4 ⟨a4, c4, s, rfl, ho4, hS4, hr4, hm4, hU4⟩
  have hs4 := hU4.size
  have hUU := hU.trans hU4
  have HS4 := Lib.hid hS4
  have hsl := hS4.1
  have hlw4 := hr4.lt
  obtain ⟨a5, c5, e5, hF4⟩ := ho4.riic
  cases e5
  have scap := hF4.cap
  clear ho3 hr3 hU hU4 ho4 hL3 hS4
  go_wp2_with fail
  refine (s_someTest hr4 hm4 (Nat.le_refl _) hlt HL3.out (by omega)).mono ?_
  rintro e w5 ⟨a6, c6, D, rfl, ho5, hLD, hr5, hU5⟩
  have hDl : D.length ≤ 11 := by have := hLD.1; omega
  have hs5 := hU5.size
  have hlw5 := hr5.lt
  have hm5 := hm4.upB hU5 (Nat.le_refl _) (Nat.le_refl _) hlt
  have hF5 : RIIc w5 w3.heap.size w4.heap.size a4 c4 s := ⟨hF4.rii.same fun k h1 h2 => hU5.block k h2 h2 (by omega), hF4.cap⟩
  have hr5 := hr5.mono (show 0 + 6 + 3 + 1000 + (5 + 5) + 3 ≤ 2000 by omega)
  clear hm4 hF4 hr4 hLD
  have hUq := hU5
  clear hU5
  by_cases hs0 : s.length = 0
  · have hd0 : decide ((0 : Int) < (s.length : Int)) = false := decide_eq_false (by omega)
    have hd1 : decide (0 < s.length) = false := decide_eq_false (by omega)
    obtain rfl := List.eq_nil_of_length_eq_zero hs0
    have hrq := hr5
    have hmq := hm5
    have hFq := hF5
    have hoD := ho5
    obtain ⟨wq, rfl⟩ : ∃ x : World, x = w5 := ⟨_, rfl⟩
    clear hr5 hm5 hF5 ho5
    have hrq := hrq.mono (show _ ≤ 2100 by omega)
    go_wp2_with fail
    refine (s_someTest hrq hmq (by omega) hlt HL3.out (by omega)).mono ?_
    rintro e w7 ⟨a7, c7, Y, rfl, ho7, hLY, hr7, hU7⟩
    have hY11 : Y.length ≤ 11 := by have := hLY.1; omega
    have hs7 := hU7.size
    have hm7 := hmq.upB hU7 (by omega) (by omega) hlt
    have hF7 : RIIc w7 w3.heap.size w4.heap.size _ c4 _ := ⟨hFq.rii.same fun k h1 h2 => hU7.block k (by omega) (by omega) (by omega), hFq.cap⟩
    obtain ⟨aD, cD, eD, hD⟩ := hoD.slice
    cases eD
    have hDc := hD.cap
    have hD7 := hD.ri.upB hU7 (Nat.le_refl _) (Nat.le_refl _) (by omega)
    have hU7q := hUq.trans (hU7.less (show w4.heap.size ≤ wq.heap.size by omega))
    obtain ⟨aY, cY, eY, hY⟩ := ho7.slice
    cases eY
    have hYc := hY.cap
    have hY7 := hY.ri
    have hUz := UpB.refl w.heap.size w7.heap.size w7
    have hY0 : Hid (Y.length ≤ 11 ∧ Y.length ≤ c7) := ⟨hY11, hYc⟩
    have hr7 := hr7.mono (show _ ≤ 2200 by omega)
    clear hrq hmq hFq hoD hUq hU7 ho7 hLY hY hD
    go_wp2
    go_loopw [11, 12, 13] (fun v i _ wr => ∃ (k : Nat) (av : Option Addr) (cv : Nat) (l : List Int), k ≤ 6 ∧ i = .int .i64 k ∧ v = .slice av l.length cv ∧ Hid (l.length ≤ 11 ∧ l.length ≤ cv) ∧ RI wr wq.heap.size wr.heap.size av l ∧ UpB w.heap.size w7.heap.size w7 wr ∧ Rdr wr w.heap.size (2200 + 20 * k)) (fun _ i _ _ => 6 - (intOf i).toNat)
    case atStart => exact ⟨0, _, _, Y, by omega, rfl, rfl, hY0, hY7, hUz, hr7⟩
    case round =>
      clear hUz hr7 hY7 hY0
      obtain ⟨k, av, cv, l, hk, rfl, rfl, HLL, hlr, hUw, hr8⟩ := hrel
      have hz8 := hUw.size
      have hm8 := hm7.upB hUw (by omega) (by omega) hlt
      by_cases hlt8 : k < 6
      · have hd6 : decide ((k : Int) < 6) = true := decide_eq_true (by omega)
        go_wp2_with fail
        refine (s_aTest hr8 hm8 (by omega) hlt HL3.out (by omega)).mono ?_
        rintro e w9 ⟨a9, c9, x, rfl, ho9, hx9, hr9, hU9⟩
        have hxl := hx9.1
        have hz9 := hU9.size
        have hm9 := hm8.upB hU9 (by omega) (by omega) hlt
        have hU9w := hUw.trans (hU9.less hz8)
        have hF9 : RIIc w9 w3.heap.size w4.heap.size _ c4 _ := ⟨hF7.rii.same fun k h1 h2 => hU9w.block k (by omega) (by omega) (by omega), hF7.cap⟩
        have hl9 := hlr.upB hU9 (Nat.le_refl _) (Nat.le_refl _) (by omega)
        have hr9 := hr9.mono (show _ ≤ 2200 + 20 * (k + 1) by omega)
        obtain ⟨ax, cx, ex, hxo⟩ := ho9.slice
        cases ex
        have hxc := hxo.cap
        have hxr := hxo.ri
        have HXL := Lib.hid hxl
        have hx11 : x.length ≤ 10 := by omega
        have HX0 : Hid (x.length ≤ 11 ∧ x.length ≤ c9) := ⟨by omega, hxc⟩
        clear ho9 hx9 hU9 hUw hm8 hr8 hlr hxo hxl
        cases hok : okM m
        · have HOK := Lib.hid hok; clear hok
          go_wp2_with fail
          refine (s_validModel hm9 (by omega)).mono ?_
          rintro e u1 ⟨rfl, d1⟩
          rw [HOK.out]
          have q1 := hU9w.below (Dr.below d1 w9.heap.size) (by omega)
          have q2 := hr9.below (Dr.below d1 w9.heap.size) hr9.lt
          have q3 := hl9.below (Dr.below d1 w9.heap.size) (by omega)
          have qz := (Dr.le d1).2
          go_wp2
          go_roundw
          case rel => exact ⟨k + 1, av, cv, l, by omega, by go_num, rfl, HLL, q3.wide (Nat.le_refl _) (by omega), q1, q2⟩
          case measure => simp [intOf]; omega
        have HOK := Lib.hid hok
        have hmm5 := okM_len hok
        clear hok
        have HGS : Hid (∀ r ∈ ([] : List (List Int)), r.length ≤ 9223372036854775807) := fun r hr => by have := (HS4.out.2 r hr).1; omega
        cases hbn : okBn m []
        · have HBN := Lib.hid hbn; clear hbn
          go_wp2_with fail
          refine (s_validModel hm9 (by omega)).mono ?_
          rintro e u1 ⟨rfl, d1⟩
          rw [HOK.out]
          have q1 := hU9w.below (Dr.below d1 w9.heap.size) (by omega)
          have q2 := hr9.below (Dr.below d1 w9.heap.size) hr9.lt
          have q3 := hl9.below (Dr.below d1 w9.heap.size) (by omega)
          have q4 := hm9.below (Dr.below d1 w9.heap.size) (by omega)
          have q5 := hF9.below (Dr.below d1 w9.heap.size) (by omega)
          have qz := (Dr.le d1).2
          go_wp2_with fail
          refine (s_validBans q4 q5.rii HOK.out (by omega) HGS.out).mono ?_
          rintro e u2 ⟨rfl, d2⟩
          rw [HBN.out]
          have q1 := q1.below (Dr.below d2 u1.heap.size) (by omega)
          have q2 := q2.below (Dr.below d2 u1.heap.size) q2.lt
          have q3 := q3.below (Dr.below d2 u1.heap.size) (by omega)
          have qz2 := (Dr.le d2).2
          go_wp2
          go_roundw
          case rel => exact ⟨k + 1, av, cv, l, by omega, by go_num, rfl, HLL, q3.wide (Nat.le_refl _) (by omega), q1, q2⟩
          case measure => simp [intOf]; omega
        have HBN := Lib.hid hbn
        have H5 : Hid (∀ r ∈ ([] : List (List Int)), r.length ≤ x.length) := fun r hr => by have := okW_len (okBn_all hbn hr); have := HXL.out; omega
        clear hbn
        go_wp2_with fail
        refine (s_validModel hm9 (by omega)).mono ?_
        rintro e u1 ⟨rfl, d1⟩
        rw [HOK.out]
        have q1 := hU9w.below (Dr.below d1 w9.heap.size) (by omega)
        have q2 := hr9.below (Dr.below d1 w9.heap.size) hr9.lt
        have q3 := hl9.below (Dr.below d1 w9.heap.size) (by omega)
        have q4 := hm9.below (Dr.below d1 w9.heap.size) (by omega)
        have q5 := hF9.below (Dr.below d1 w9.heap.size) (by omega)
        have q6 := hxr.below (Dr.below d1 w9.heap.size) (by omega)
        have qz := (Dr.le d1).2
        go_wp2_with fail
        refine (s_validBans q4 q5.rii HOK.out (by omega) HGS.out).mono ?_
        rintro e u2 ⟨rfl, d2⟩
        rw [HBN.out]
        have q1 := q1.below (Dr.below d2 u1.heap.size) (by omega)
        have q2 := q2.below (Dr.below d2 u1.heap.size) q2.lt
        have q3 := q3.below (Dr.below d2 u1.heap.size) (by omega)
        have q5 := q5.below (Dr.below d2 u1.heap.size) (by omega)
        have q6 := q6.below (Dr.below d2 u1.heap.size) (by omega)
        have qz2 := (Dr.le d2).2
        cases hba : (!bnB [] x)
        · have HBA := Lib.hid hba; clear hba
          go_wp2_with fail
          refine (s_allowed q5.rii q6 (by omega) H5.out (by omega)).mono ?_
          rintro e u3 ⟨rfl, d3⟩
          rw [HBA.out]
          have q1 := q1.below (Dr.below d3 u2.heap.size) (by omega)
          have q2 := q2.below (Dr.below d3 u2.heap.size) q2.lt
          have q3 := q3.below (Dr.below d3 u2.heap.size) (by omega)
          have qz3 := (Dr.le d3).2
          go_wp2
          go_roundw
          case rel => exact ⟨k + 1, av, cv, l, by omega, by go_num, rfl, HLL, q3.wide (Nat.le_refl _) (by omega), q1, q2⟩
          case measure => simp [intOf]; omega
        · have HBA := Lib.hid hba; clear hba
          go_wp2_with fail
          refine (s_allowed q5.rii q6 (by omega) H5.out (by omega)).mono ?_
          rintro e u3 ⟨rfl, d3⟩
          rw [HBA.out]
          have q1 := q1.below (Dr.below d3 u2.heap.size) (by omega)
          have q2 := q2.below (Dr.below d3 u2.heap.size) q2.lt
          have q6 := q6.below (Dr.below d3 u2.heap.size) (by omega)
          have qz3 := (Dr.le d3).2
          go_wp2
          go_roundw
          case rel => exact ⟨k + 1, a9, c9, x, by omega, by go_num, rfl, HX0, q6.wide (by omega) (by omega), q1, q2⟩
          case measure => simp [intOf]; omega
      · have hd6 : decide ((k : Int) < 6) = false := decide_eq_false (by omega)
        have hF8 : RIIc wr w3.heap.size w4.heap.size _ c4 _ := ⟨hF7.rii.same fun k h1 h2 => hUw.block k (by omega) (by omega) (by omega), hF7.cap⟩
        have hD8 := hD7.upB hUw (by omega) (by omega) (by omega)
        have hUe := hUU.trans ((hU7q.less (show w1.heap.size ≤ w4.heap.size by omega)).trans (hUw.less (show w1.heap.size ≤ w7.heap.size by omega)))
        go_wp2
        (try simp only [Exit.inBlock, Exit.then])
        refine bodyPost_ret (results_tmp4c rfl _ _ _) rfl ?_
        exact ⟨_, _, m, _, _, [], _, _, D, _, _, l, rfl, ⟨⟨hm8.wide (by omega) (by omega), HL3.out, hcap⟩, ⟨hF8.wide (by omega) (by omega), HS4.out⟩, ⟨hD8.wide (by omega) (by omega), by omega, hDc⟩, ⟨hlr.wide (by omega) (Nat.le_refl _), HLL.out.1, HLL.out.2⟩⟩, hb1.trans (hUe.toBelow (by omega) (by omega))⟩
  have hd1 : decide (0 < s.length) = true := decide_eq_true (by omega)
  obtain ⟨f, hf0⟩ := at_of_lt (m := s) (k := 0) (by omega)
  obtain ⟨b5, o5, x5, y5, f', ha5, hb5lo, hb5, hc5, hrf, hxf⟩ := hF5.rii.at (show 0 < s.length by omega)
  obtain rfl : f = f' := by have := hxf.out; rw [hf0] at this; cases this; rfl
  subst ha5
  rw [Nat.add_zero] at hc5
  have hidx0 : ∀ wx : World, (Instr.indexAt 24 (.slice (some ⟨b5, o5, none⟩) s.length c4) (.int .i64 0)).run Try.prog wx = .ok (.pointer (some ⟨b5, o5, none⟩)) wx := fun wx => idxII (a := some ⟨b5, o5, none⟩) rfl (show 0 < s.length by omega) c4 wx
  clear hf0 hxf
  by_cases hfl : f.length = D.length
  case neg =>
    have hfe : ((f.length : Int) == (D.length : Int)) = false := by rw [beq_eq_false_iff_ne]; omega
    have hfe2 : (f.length == D.length) = false := by rw [beq_eq_false_iff_ne]; omega
    have hrq := hr5
    have hmq := hm5
    have hFq := hF5
    have hoD := ho5
    obtain ⟨wq, rfl⟩ : ∃ x : World, x = w5 := ⟨_, rfl⟩
    clear hr5 hm5 hF5 ho5 hfl
    have hrq := hrq.mono (show _ ≤ 2100 by omega)
    go_wp2_with fail
    refine (s_someTest hrq hmq (by omega) hlt HL3.out (by omega)).mono ?_
    rintro e w7 ⟨a7, c7, Y, rfl, ho7, hLY, hr7, hU7⟩
    have hY11 : Y.length ≤ 11 := by have := hLY.1; omega
    have hs7 := hU7.size
    have hm7 := hmq.upB hU7 (by omega) (by omega) hlt
    have hF7 : RIIc w7 w3.heap.size w4.heap.size _ c4 _ := ⟨hFq.rii.same fun k h1 h2 => hU7.block k (by omega) (by omega) (by omega), hFq.cap⟩
    obtain ⟨aD, cD, eD, hD⟩ := hoD.slice
    cases eD
    have hDc := hD.cap
    have hD7 := hD.ri.upB hU7 (Nat.le_refl _) (Nat.le_refl _) (by omega)
    have hU7q := hUq.trans (hU7.less (show w4.heap.size ≤ wq.heap.size by omega))
    obtain ⟨aY, cY, eY, hY⟩ := ho7.slice
    cases eY
    have hYc := hY.cap
    have hY7 := hY.ri
    have hUz := UpB.refl w.heap.size w7.heap.size w7
    have hY0 : Hid (Y.length ≤ 11 ∧ Y.length ≤ c7) := ⟨hY11, hYc⟩
    have hr7 := hr7.mono (show _ ≤ 2200 by omega)
    clear hrq hmq hFq hoD hUq hU7 ho7 hLY hY hD
    go_wp2
    go_loopw [11, 12, 13] (fun v i _ wr => ∃ (k : Nat) (av : Option Addr) (cv : Nat) (l : List Int), k ≤ 6 ∧ i = .int .i64 k ∧ v = .slice av l.length cv ∧ Hid (l.length ≤ 11 ∧ l.length ≤ cv) ∧ RI wr wq.heap.size wr.heap.size av l ∧ UpB w.heap.size w7.heap.size w7 wr ∧ Rdr wr w.heap.size (2200 + 20 * k)) (fun _ i _ _ => 6 - (intOf i).toNat)
    case atStart => exact ⟨0, _, _, Y, by omega, rfl, rfl, hY0, hY7, hUz, hr7⟩
    case round =>
      clear hUz hr7 hY7 hY0
      obtain ⟨k, av, cv, l, hk, rfl, rfl, HLL, hlr, hUw, hr8⟩ := hrel
      have hz8 := hUw.size
      have hm8 := hm7.upB hUw (by omega) (by omega) hlt
      by_cases hlt8 : k < 6
      · have hd6 : decide ((k : Int) < 6) = true := decide_eq_true (by omega)
        go_wp2_with fail
        refine (s_aTest hr8 hm8 (by omega) hlt HL3.out (by omega)).mono ?_
        rintro e w9 ⟨a9, c9, x, rfl, ho9, hx9, hr9, hU9⟩
        have hxl := hx9.1
        have hz9 := hU9.size
        have hm9 := hm8.upB hU9 (by omega) (by omega) hlt
        have hU9w := hUw.trans (hU9.less hz8)
        have hF9 : RIIc w9 w3.heap.size w4.heap.size _ c4 _ := ⟨hF7.rii.same fun k h1 h2 => hU9w.block k (by omega) (by omega) (by omega), hF7.cap⟩
        have hl9 := hlr.upB hU9 (Nat.le_refl _) (Nat.le_refl _) (by omega)
        have hr9 := hr9.mono (show _ ≤ 2200 + 20 * (k + 1) by omega)
        obtain ⟨ax, cx, ex, hxo⟩ := ho9.slice
        cases ex
        have hxc := hxo.cap
        have hxr := hxo.ri
        have HXL := Lib.hid hxl
        have hx11 : x.length ≤ 10 := by omega
        have HX0 : Hid (x.length ≤ 11 ∧ x.length ≤ c9) := ⟨by omega, hxc⟩
        clear ho9 hx9 hU9 hUw hm8 hr8 hlr hxo hxl
        cases hok : okM m
        · have HOK := Lib.hid hok; clear hok
          go_wp2_with fail
          refine (s_validModel hm9 (by omega)).mono ?_
          rintro e u1 ⟨rfl, d1⟩
          rw [HOK.out]
          have q1 := hU9w.below (Dr.below d1 w9.heap.size) (by omega)
          have q2 := hr9.below (Dr.below d1 w9.heap.size) hr9.lt
          have q3 := hl9.below (Dr.below d1 w9.heap.size) (by omega)
          have qz := (Dr.le d1).2
          go_wp2
          go_roundw
          case rel => exact ⟨k + 1, av, cv, l, by omega, by go_num, rfl, HLL, q3.wide (Nat.le_refl _) (by omega), q1, q2⟩
          case measure => simp [intOf]; omega
        have HOK := Lib.hid hok
        have hmm5 := okM_len hok
        clear hok
        have HGS : Hid (∀ r ∈ s, r.length ≤ 9223372036854775807) := fun r hr => by have := (HS4.out.2 r hr).1; omega
        cases hbn : okBn m s
        · have HBN := Lib.hid hbn; clear hbn
          go_wp2_with fail
          refine (s_validModel hm9 (by omega)).mono ?_
          rintro e u1 ⟨rfl, d1⟩
          rw [HOK.out]
          have q1 := hU9w.below (Dr.below d1 w9.heap.size) (by omega)
          have q2 := hr9.below (Dr.below d1 w9.heap.size) hr9.lt
          have q3 := hl9.below (Dr.below d1 w9.heap.size) (by omega)
          have q4 := hm9.below (Dr.below d1 w9.heap.size) (by omega)
          have q5 := hF9.below (Dr.below d1 w9.heap.size) (by omega)
          have qz := (Dr.le d1).2
          go_wp2_with fail
          refine (s_validBans q4 q5.rii HOK.out (by omega) HGS.out).mono ?_
          rintro e u2 ⟨rfl, d2⟩
          rw [HBN.out]
          have q1 := q1.below (Dr.below d2 u1.heap.size) (by omega)
          have q2 := q2.below (Dr.below d2 u1.heap.size) q2.lt
          have q3 := q3.below (Dr.below d2 u1.heap.size) (by omega)
          have qz2 := (Dr.le d2).2
          go_wp2
          go_roundw
          case rel => exact ⟨k + 1, av, cv, l, by omega, by go_num, rfl, HLL, q3.wide (Nat.le_refl _) (by omega), q1, q2⟩
          case measure => simp [intOf]; omega
        have HBN := Lib.hid hbn
        have H5 : Hid (∀ r ∈ s, r.length ≤ x.length) := fun r hr => by have := okW_len (okBn_all hbn hr); have := HXL.out; omega
        clear hbn
        go_wp2_with fail
        refine (s_validModel hm9 (by omega)).mono ?_
        rintro e u1 ⟨rfl, d1⟩
        rw [HOK.out]
        have q1 := hU9w.below (Dr.below d1 w9.heap.size) (by omega)
        have q2 := hr9.below (Dr.below d1 w9.heap.size) hr9.lt
        have q3 := hl9.below (Dr.below d1 w9.heap.size) (by omega)
        have q4 := hm9.below (Dr.below d1 w9.heap.size) (by omega)
        have q5 := hF9.below (Dr.below d1 w9.heap.size) (by omega)
        have q6 := hxr.below (Dr.below d1 w9.heap.size) (by omega)
        have qz := (Dr.le d1).2
        go_wp2_with fail
        refine (s_validBans q4 q5.rii HOK.out (by omega) HGS.out).mono ?_
        rintro e u2 ⟨rfl, d2⟩
        rw [HBN.out]
        have q1 := q1.below (Dr.below d2 u1.heap.size) (by omega)
        have q2 := q2.below (Dr.below d2 u1.heap.size) q2.lt
        have q3 := q3.below (Dr.below d2 u1.heap.size) (by omega)
        have q5 := q5.below (Dr.below d2 u1.heap.size) (by omega)
        have q6 := q6.below (Dr.below d2 u1.heap.size) (by omega)
        have qz2 := (Dr.le d2).2
        cases hba : (!bnB s x)
        · have HBA := Lib.hid hba; clear hba
          go_wp2_with fail
          refine (s_allowed q5.rii q6 (by omega) H5.out (by omega)).mono ?_
          rintro e u3 ⟨rfl, d3⟩
          rw [HBA.out]
          have q1 := q1.below (Dr.below d3 u2.heap.size) (by omega)
          have q2 := q2.below (Dr.below d3 u2.heap.size) q2.lt
          have q3 := q3.below (Dr.below d3 u2.heap.size) (by omega)
          have qz3 := (Dr.le d3).2
          go_wp2
          go_roundw
          case rel => exact ⟨k + 1, av, cv, l, by omega, by go_num, rfl, HLL, q3.wide (Nat.le_refl _) (by omega), q1, q2⟩
          case measure => simp [intOf]; omega
        · have HBA := Lib.hid hba; clear hba
          go_wp2_with fail
          refine (s_allowed q5.rii q6 (by omega) H5.out (by omega)).mono ?_
          rintro e u3 ⟨rfl, d3⟩
          rw [HBA.out]
          have q1 := q1.below (Dr.below d3 u2.heap.size) (by omega)
          have q2 := q2.below (Dr.below d3 u2.heap.size) q2.lt
          have q6 := q6.below (Dr.below d3 u2.heap.size) (by omega)
          have qz3 := (Dr.le d3).2
          go_wp2
          go_roundw
          case rel => exact ⟨k + 1, a9, c9, x, by omega, by go_num, rfl, HX0, q6.wide (by omega) (by omega), q1, q2⟩
          case measure => simp [intOf]; omega
      · have hd6 : decide ((k : Int) < 6) = false := decide_eq_false (by omega)
        have hF8 : RIIc wr w3.heap.size w4.heap.size _ c4 _ := ⟨hF7.rii.same fun k h1 h2 => hUw.block k (by omega) (by omega) (by omega), hF7.cap⟩
        have hD8 := hD7.upB hUw (by omega) (by omega) (by omega)
        have hUe := hUU.trans ((hU7q.less (show w1.heap.size ≤ w4.heap.size by omega)).trans (hUw.less (show w1.heap.size ≤ w7.heap.size by omega)))
        go_wp2
        (try simp only [Exit.inBlock, Exit.then])
        refine bodyPost_ret (results_tmp4c rfl _ _ _) rfl ?_
        exact ⟨_, _, m, _, _, s, _, _, D, _, _, l, rfl, ⟨⟨hm8.wide (by omega) (by omega), HL3.out, hcap⟩, ⟨hF8.wide (by omega) (by omega), HS4.out⟩, ⟨hD8.wide (by omega) (by omega), by omega, hDc⟩, ⟨hlr.wide (by omega) (Nat.le_refl _), HLL.out.1, HLL.out.2⟩⟩, hb1.trans (hUe.toBelow (by omega) (by omega))⟩
  have HFL := Lib.hid hfl
  have hfe : ((f.length : Int) == (D.length : Int)) = true := by rw [beq_iff_eq]; omega
  have hfe2 : (f.length == D.length) = true := by rw [beq_iff_eq]; omega
  clear hfl
  go_wp2_with fail
  refine (s_pick hr5 (by omega) (by omega) (by omega)).mono ?_
  rintro e w6 ⟨u, rfl, hu, hr6, hu6⟩
  have hu0 := hu.1
  have ho6 := ho5.upd hu6 (by omega)
  have hU6 := hUq.upd hu6
  have hs6 := hU6.size
  have hss6 := hu6.size
  have hlw6 := hr6.lt
  have hm6 := hm5.upd hu6 (by omega) (.inr (by omega))
  have hF6 := hF5.upd hu6 (by omega) (.inr (by omega))
  have hrf6 := hrf.upd hu6 (by omega) (.inr (by omega))
  have hc6 : w6.cell? ⟨b5, o5, none⟩ = some (.slice x5 f.length y5) := (World.cell?_of_block (w := w5) (hu6.block b5 (by omega) (by omega))).trans hc5
  clear ho5 hr5 hm5 hF5 hrf hc5 hUq hu6 hu
  by_cases e0 : u = 0
  · have hug : decide ((0 : Int) < u) = false := decide_eq_false (by omega)
    subst e0
    have hrq := hr6.mono (show 2000 + 1 ≤ 2001 by omega)
    have hmq := hm6
    have hFq := hF6
    have hoD := ho6
    have hUq := hU6
    have hs5 := hs6
    have hlw5 := hlw6
    obtain ⟨wq, rfl⟩ : ∃ x : World, x = w6 := ⟨_, rfl⟩
    clear hr6 hm6 hF6 ho6 hU6
    have hrq := hrq.mono (show _ ≤ 2100 by omega)
    go_wp2_with fail
    refine (s_someTest hrq hmq (by omega) hlt HL3.out (by omega)).mono ?_
    rintro e w7 ⟨a7, c7, Y, rfl, ho7, hLY, hr7, hU7⟩
    have hY11 : Y.length ≤ 11 := by have := hLY.1; omega
    have hs7 := hU7.size
    have hm7 := hmq.upB hU7 (by omega) (by omega) hlt
    have hF7 : RIIc w7 w3.heap.size w4.heap.size _ c4 _ := ⟨hFq.rii.same fun k h1 h2 => hU7.block k (by omega) (by omega) (by omega), hFq.cap⟩
    obtain ⟨aD, cD, eD, hD⟩ := hoD.slice
    cases eD
    have hDc := hD.cap
    have hD7 := hD.ri.upB hU7 (Nat.le_refl _) (Nat.le_refl _) (by omega)
    have hU7q := hUq.trans (hU7.less (show w4.heap.size ≤ wq.heap.size by omega))
    obtain ⟨aY, cY, eY, hY⟩ := ho7.slice
    cases eY
    have hYc := hY.cap
    have hY7 := hY.ri
    have hUz := UpB.refl w.heap.size w7.heap.size w7
    have hY0 : Hid (Y.length ≤ 11 ∧ Y.length ≤ c7) := ⟨hY11, hYc⟩
    have hr7 := hr7.mono (show _ ≤ 2200 by omega)
    clear hrq hmq hFq hoD hUq hU7 ho7 hLY hY hD
    go_wp2
    go_loopw [11, 12, 13] (fun v i _ wr => ∃ (k : Nat) (av : Option Addr) (cv : Nat) (l : List Int), k ≤ 6 ∧ i = .int .i64 k ∧ v = .slice av l.length cv ∧ Hid (l.length ≤ 11 ∧ l.length ≤ cv) ∧ RI wr wq.heap.size wr.heap.size av l ∧ UpB w.heap.size w7.heap.size w7 wr ∧ Rdr wr w.heap.size (2200 + 20 * k)) (fun _ i _ _ => 6 - (intOf i).toNat)
    case atStart => exact ⟨0, _, _, Y, by omega, rfl, rfl, hY0, hY7, hUz, hr7⟩
    case round =>
      clear hUz hr7 hY7 hY0
      obtain ⟨k, av, cv, l, hk, rfl, rfl, HLL, hlr, hUw, hr8⟩ := hrel
      have hz8 := hUw.size
      have hm8 := hm7.upB hUw (by omega) (by omega) hlt
      by_cases hlt8 : k < 6
      · have hd6 : decide ((k : Int) < 6) = true := decide_eq_true (by omega)
        go_wp2_with fail
        refine (s_aTest hr8 hm8 (by omega) hlt HL3.out (by omega)).mono ?_
        rintro e w9 ⟨a9, c9, x, rfl, ho9, hx9, hr9, hU9⟩
        have hxl := hx9.1
        have hz9 := hU9.size
        have hm9 := hm8.upB hU9 (by omega) (by omega) hlt
        have hU9w := hUw.trans (hU9.less hz8)
        have hF9 : RIIc w9 w3.heap.size w4.heap.size _ c4 _ := ⟨hF7.rii.same fun k h1 h2 => hU9w.block k (by omega) (by omega) (by omega), hF7.cap⟩
        have hl9 := hlr.upB hU9 (Nat.le_refl _) (Nat.le_refl _) (by omega)
        have hr9 := hr9.mono (show _ ≤ 2200 + 20 * (k + 1) by omega)
        obtain ⟨ax, cx, ex, hxo⟩ := ho9.slice
        cases ex
        have hxc := hxo.cap
        have hxr := hxo.ri
        have HXL := Lib.hid hxl
        have hx11 : x.length ≤ 10 := by omega
        have HX0 : Hid (x.length ≤ 11 ∧ x.length ≤ c9) := ⟨by omega, hxc⟩
        clear ho9 hx9 hU9 hUw hm8 hr8 hlr hxo hxl
        cases hok : okM m
        · have HOK := Lib.hid hok; clear hok
          go_wp2_with fail
          refine (s_validModel hm9 (by omega)).mono ?_
          rintro e u1 ⟨rfl, d1⟩
          rw [HOK.out]
          have q1 := hU9w.below (Dr.below d1 w9.heap.size) (by omega)
          have q2 := hr9.below (Dr.below d1 w9.heap.size) hr9.lt
          have q3 := hl9.below (Dr.below d1 w9.heap.size) (by omega)
          have qz := (Dr.le d1).2
          go_wp2
          go_roundw
          case rel => exact ⟨k + 1, av, cv, l, by omega, by go_num, rfl, HLL, q3.wide (Nat.le_refl _) (by omega), q1, q2⟩
          case measure => simp [intOf]; omega
        have HOK := Lib.hid hok
        have hmm5 := okM_len hok
        clear hok
        have HGS : Hid (∀ r ∈ s, r.length ≤ 9223372036854775807) := fun r hr => by have := (HS4.out.2 r hr).1; omega
        cases hbn : okBn m s
        · have HBN := Lib.hid hbn; clear hbn
          go_wp2_with fail
          refine (s_validModel hm9 (by omega)).mono ?_
          rintro e u1 ⟨rfl, d1⟩
          rw [HOK.out]
          have q1 := hU9w.below (Dr.below d1 w9.heap.size) (by omega)
          have q2 := hr9.below (Dr.below d1 w9.heap.size) hr9.lt
          have q3 := hl9.below (Dr.below d1 w9.heap.size) (by omega)
          have q4 := hm9.below (Dr.below d1 w9.heap.size) (by omega)
          have q5 := hF9.below (Dr.below d1 w9.heap.size) (by omega)
          have qz := (Dr.le d1).2
          go_wp2_with fail
          refine (s_validBans q4 q5.rii HOK.out (by omega) HGS.out).mono ?_
          rintro e u2 ⟨rfl, d2⟩
          rw [HBN.out]
          have q1 := q1.below (Dr.below d2 u1.heap.size) (by omega)
          have q2 := q2.below (Dr.below d2 u1.heap.size) q2.lt
          have q3 := q3.below (Dr.below d2 u1.heap.size) (by omega)
          have qz2 := (Dr.le d2).2
          go_wp2
          go_roundw
          case rel => exact ⟨k + 1, av, cv, l, by omega, by go_num, rfl, HLL, q3.wide (Nat.le_refl _) (by omega), q1, q2⟩
          case measure => simp [intOf]; omega
        have HBN := Lib.hid hbn
        have H5 : Hid (∀ r ∈ s, r.length ≤ x.length) := fun r hr => by have := okW_len (okBn_all hbn hr); have := HXL.out; omega
        clear hbn
        go_wp2_with fail
        refine (s_validModel hm9 (by omega)).mono ?_
        rintro e u1 ⟨rfl, d1⟩
        rw [HOK.out]
        have q1 := hU9w.below (Dr.below d1 w9.heap.size) (by omega)
        have q2 := hr9.below (Dr.below d1 w9.heap.size) hr9.lt
        have q3 := hl9.below (Dr.below d1 w9.heap.size) (by omega)
        have q4 := hm9.below (Dr.below d1 w9.heap.size) (by omega)
        have q5 := hF9.below (Dr.below d1 w9.heap.size) (by omega)
        have q6 := hxr.below (Dr.below d1 w9.heap.size) (by omega)
        have qz := (Dr.le d1).2
        go_wp2_with fail
        refine (s_validBans q4 q5.rii HOK.out (by omega) HGS.out).mono ?_
        rintro e u2 ⟨rfl, d2⟩
        rw [HBN.out]
        have q1 := q1.below (Dr.below d2 u1.heap.size) (by omega)
        have q2 := q2.below (Dr.below d2 u1.heap.size) q2.lt
        have q3 := q3.below (Dr.below d2 u1.heap.size) (by omega)
        have q5 := q5.below (Dr.below d2 u1.heap.size) (by omega)
        have q6 := q6.below (Dr.below d2 u1.heap.size) (by omega)
        have qz2 := (Dr.le d2).2
        cases hba : (!bnB s x)
        · have HBA := Lib.hid hba; clear hba
          go_wp2_with fail
          refine (s_allowed q5.rii q6 (by omega) H5.out (by omega)).mono ?_
          rintro e u3 ⟨rfl, d3⟩
          rw [HBA.out]
          have q1 := q1.below (Dr.below d3 u2.heap.size) (by omega)
          have q2 := q2.below (Dr.below d3 u2.heap.size) q2.lt
          have q3 := q3.below (Dr.below d3 u2.heap.size) (by omega)
          have qz3 := (Dr.le d3).2
          go_wp2
          go_roundw
          case rel => exact ⟨k + 1, av, cv, l, by omega, by go_num, rfl, HLL, q3.wide (Nat.le_refl _) (by omega), q1, q2⟩
          case measure => simp [intOf]; omega
        · have HBA := Lib.hid hba; clear hba
          go_wp2_with fail
          refine (s_allowed q5.rii q6 (by omega) H5.out (by omega)).mono ?_
          rintro e u3 ⟨rfl, d3⟩
          rw [HBA.out]
          have q1 := q1.below (Dr.below d3 u2.heap.size) (by omega)
          have q2 := q2.below (Dr.below d3 u2.heap.size) q2.lt
          have q6 := q6.below (Dr.below d3 u2.heap.size) (by omega)
          have qz3 := (Dr.le d3).2
          go_wp2
          go_roundw
          case rel => exact ⟨k + 1, a9, c9, x, by omega, by go_num, rfl, HX0, q6.wide (by omega) (by omega), q1, q2⟩
          case measure => simp [intOf]; omega
      · have hd6 : decide ((k : Int) < 6) = false := decide_eq_false (by omega)
        have hF8 : RIIc wr w3.heap.size w4.heap.size _ c4 _ := ⟨hF7.rii.same fun k h1 h2 => hUw.block k (by omega) (by omega) (by omega), hF7.cap⟩
        have hD8 := hD7.upB hUw (by omega) (by omega) (by omega)
        have hUe := hUU.trans ((hU7q.less (show w1.heap.size ≤ w4.heap.size by omega)).trans (hUw.less (show w1.heap.size ≤ w7.heap.size by omega)))
        go_wp2
        (try simp only [Exit.inBlock, Exit.then])
        refine bodyPost_ret (results_tmp4c rfl _ _ _) rfl ?_
        exact ⟨_, _, m, _, _, s, _, _, D, _, _, l, rfl, ⟨⟨hm8.wide (by omega) (by omega), HL3.out, hcap⟩, ⟨hF8.wide (by omega) (by omega), HS4.out⟩, ⟨hD8.wide (by omega) (by omega), by omega, hDc⟩, ⟨hlr.wide (by omega) (Nat.le_refl _), HLL.out.1, HLL.out.2⟩⟩, hb1.trans (hUe.toBelow (by omega) (by omega))⟩
  have hug : decide ((0 : Int) < u) = true := decide_eq_true (by omega)
  have HDl : Hid (D.length = D.length) := rfl
  have h60 := Below.refl w6.heap.size w6
  have hUr0 := UpB.refl w.heap.size w4.heap.size w6
  go_wp2
  go_loopw [10] (fun i wr => ∃ (k : Nat) (E : List Int), k ≤ D.length ∧ i = .int .i64 k ∧ Hid (E.length = D.length) ∧ OwnL wr w4.heap.size (.slice a6 D.length c6) E ∧ UpB w.heap.size w4.heap.size w6 wr ∧ wr.heap.size = w6.heap.size ∧ Rdr wr w.heap.size 2001) (fun i _ => D.length - (intOf i).toNat)
  case atStart => exact ⟨0, D, Nat.zero_le _, rfl, rfl, ho6, hUr0, rfl, hr6⟩
  case round =>
    clear ho6 hUr0 hr6
    obtain ⟨k, E, hk, rfl, HE, hoE, hUr, hsz, hrr⟩ := hrel
    have HSZ := Lib.hid hsz
    have hszr := hUr.size
    have hszl : wr.heap.size ≤ w6.heap.size := by omega
    clear hsz
    by_cases hlt2 : k < D.length
    · have hkf : k < f.length := by have := HFL.out; omega
      obtain ⟨b7, o7, z7, ha7, _, hb7, hc7, hx7⟩ := (hrf6.upB hUr (by omega) (by omega) (by omega)).at hkf
      have hc8 : wr.cell? ⟨b5, o5, none⟩ = some (.slice x5 f.length y5) := (World.cell?_of_block (w := w6) (hUr.block b5 (by omega) (by omega) (by omega))).trans hc6
      have hidx7 := idxI ha7 hkf y5
      obtain ⟨g, ea, hg1, hg2, ⟨y, hcy⟩, hfz, hput⟩ := hoE.put (j := k) (by have := HE.out; omega)
      subst ea
      have hidxg := idxI (a := some ⟨g, 0, none⟩) rfl hlt2 c6
      simp only [Nat.zero_add] at hidxg
      by_cases hz : (0 : Int) ≤ z7
      case neg =>
        clear ha7 hput
        go_wp2
        go_roundw
        case rel => exact ⟨k + 1, E, by omega, by go_num, HE, hoE, hUr, HSZ.out, hrr⟩
        case measure => simp [intOf]; omega
      have ho9 := hput z7
      have hU9 := hUr.set (p := ⟨g, k, none⟩) hg1 (.int .i64 z7)
      have hr9 : Rdr (wr.setCell ⟨g, k, none⟩ (.int .i64 z7)) w.heap.size 2001 := hrr.same (fun j hj => Below.heap_setCell _ _ _ _ (by show j ≠ g; omega)) (by simp [World.setCell])
      have HE9 : Hid ((E.set k z7).length = D.length) := by show _ = _; rw [List.length_set]; exact HE.out
      have hs9 : Hid ((wr.setCell ⟨g, k, none⟩ (.int .i64 z7)).heap.size = w6.heap.size) := by show _ = _; rw [World.size_setCell]; exact HSZ.out
      clear ha7 hput hUr hrr hoE
      go_wp2
      go_roundw
      case rel => exact ⟨k + 1, E.set k z7, by omega, by go_num, HE9, ho9, hU9, hs9.out, hr9⟩
      case measure => simp [intOf]; omega
    · have hUq := hU6.trans hUr
      have hrq := hrr
      have hmq := hm6.upB hUr (by omega) (by omega) hlt
      have hFq : RIIc wr w3.heap.size w4.heap.size (some ⟨b5, o5, none⟩) c4 s := ⟨hF6.rii.same fun k h1 h2 => hUr.block k (by omega) (by omega) (by omega), hF6.cap⟩
      have hs5 := hUq.size
      have hlw5 := hrq.lt
      have hEl : E.length ≤ 11 := by have := HE.out; omega
      have hoD := hoE
      have hlt3 : ¬ k < E.length := by have := HE.out; omega
      rw [← HE.out] at hoD ⊢
      clear hlt2
      obtain ⟨wq, rfl⟩ : ∃ x : World, x = wr := ⟨_, rfl⟩
      clear hUr hrr hm6 hF6 hoE hU6 hrf6 hc6 HSZ hszl hszr
      have hrq := hrq.mono (show _ ≤ 2100 by omega)
      go_wp2_with fail
      refine (s_someTest hrq hmq (by omega) hlt HL3.out (by omega)).mono ?_
      rintro e w7 ⟨a7, c7, Y, rfl, ho7, hLY, hr7, hU7⟩
      have hY11 : Y.length ≤ 11 := by have := hLY.1; omega
      have hs7 := hU7.size
      have hm7 := hmq.upB hU7 (by omega) (by omega) hlt
      have hF7 : RIIc w7 w3.heap.size w4.heap.size _ c4 _ := ⟨hFq.rii.same fun k h1 h2 => hU7.block k (by omega) (by omega) (by omega), hFq.cap⟩
      obtain ⟨aD, cD, eD, hD⟩ := hoD.slice
      cases eD
      have hDc := hD.cap
      have hD7 := hD.ri.upB hU7 (Nat.le_refl _) (Nat.le_refl _) (by omega)
      have hU7q := hUq.trans (hU7.less (show w4.heap.size ≤ wq.heap.size by omega))
      obtain ⟨aY, cY, eY, hY⟩ := ho7.slice
      cases eY
      have hYc := hY.cap
      have hY7 := hY.ri
      have hUz := UpB.refl w.heap.size w7.heap.size w7
      have hY0 : Hid (Y.length ≤ 11 ∧ Y.length ≤ c7) := ⟨hY11, hYc⟩
      have hr7 := hr7.mono (show _ ≤ 2200 by omega)
      clear hrq hmq hFq hoD hUq hU7 ho7 hLY hY hD
      go_wp2
      go_loopw [11, 12, 13] (fun v i _ wr => ∃ (k : Nat) (av : Option Addr) (cv : Nat) (l : List Int), k ≤ 6 ∧ i = .int .i64 k ∧ v = .slice av l.length cv ∧ Hid (l.length ≤ 11 ∧ l.length ≤ cv) ∧ RI wr wq.heap.size wr.heap.size av l ∧ UpB w.heap.size w7.heap.size w7 wr ∧ Rdr wr w.heap.size (2200 + 20 * k)) (fun _ i _ _ => 6 - (intOf i).toNat)
      case atStart => exact ⟨0, _, _, Y, by omega, rfl, rfl, hY0, hY7, hUz, hr7⟩
      case round =>
        clear hUz hr7 hY7 hY0
        obtain ⟨k, av, cv, l, hk, rfl, rfl, HLL, hlr, hUw, hr8⟩ := hrel
        have hz8 := hUw.size
        have hm8 := hm7.upB hUw (by omega) (by omega) hlt
        by_cases hlt8 : k < 6
        · have hd6 : decide ((k : Int) < 6) = true := decide_eq_true (by omega)
          go_wp2_with fail
          refine (s_aTest hr8 hm8 (by omega) hlt HL3.out (by omega)).mono ?_
          rintro e w9 ⟨a9, c9, x, rfl, ho9, hx9, hr9, hU9⟩
          have hxl := hx9.1
          have hz9 := hU9.size
          have hm9 := hm8.upB hU9 (by omega) (by omega) hlt
          have hU9w := hUw.trans (hU9.less hz8)
          have hF9 : RIIc w9 w3.heap.size w4.heap.size _ c4 _ := ⟨hF7.rii.same fun k h1 h2 => hU9w.block k (by omega) (by omega) (by omega), hF7.cap⟩
          have hl9 := hlr.upB hU9 (Nat.le_refl _) (Nat.le_refl _) (by omega)
          have hr9 := hr9.mono (show _ ≤ 2200 + 20 * (k + 1) by omega)
          obtain ⟨ax, cx, ex, hxo⟩ := ho9.slice
          cases ex
          have hxc := hxo.cap
          have hxr := hxo.ri
          have HXL := Lib.hid hxl
          have hx11 : x.length ≤ 10 := by omega
          have HX0 : Hid (x.length ≤ 11 ∧ x.length ≤ c9) := ⟨by omega, hxc⟩
          clear ho9 hx9 hU9 hUw hm8 hr8 hlr hxo hxl
          cases hok : okM m
          · have HOK := Lib.hid hok; clear hok
            go_wp2_with fail
            refine (s_validModel hm9 (by omega)).mono ?_
            rintro e u1 ⟨rfl, d1⟩
            rw [HOK.out]
            have q1 := hU9w.below (Dr.below d1 w9.heap.size) (by omega)
            have q2 := hr9.below (Dr.below d1 w9.heap.size) hr9.lt
            have q3 := hl9.below (Dr.below d1 w9.heap.size) (by omega)
            have qz := (Dr.le d1).2
            go_wp2
            go_roundw
            case rel => exact ⟨k + 1, av, cv, l, by omega, by go_num, rfl, HLL, q3.wide (Nat.le_refl _) (by omega), q1, q2⟩
            case measure => simp [intOf]; omega
          have HOK := Lib.hid hok
          have hmm5 := okM_len hok
          clear hok
          have HGS : Hid (∀ r ∈ s, r.length ≤ 9223372036854775807) := fun r hr => by have := (HS4.out.2 r hr).1; omega
          cases hbn : okBn m s
          · have HBN := Lib.hid hbn; clear hbn
            go_wp2_with fail
            refine (s_validModel hm9 (by omega)).mono ?_
            rintro e u1 ⟨rfl, d1⟩
            rw [HOK.out]
            have q1 := hU9w.below (Dr.below d1 w9.heap.size) (by omega)
            have q2 := hr9.below (Dr.below d1 w9.heap.size) hr9.lt
            have q3 := hl9.below (Dr.below d1 w9.heap.size) (by omega)
            have q4 := hm9.below (Dr.below d1 w9.heap.size) (by omega)
            have q5 := hF9.below (Dr.below d1 w9.heap.size) (by omega)
            have qz := (Dr.le d1).2
            go_wp2_with fail
            refine (s_validBans q4 q5.rii HOK.out (by omega) HGS.out).mono ?_
            rintro e u2 ⟨rfl, d2⟩
            rw [HBN.out]
            have q1 := q1.below (Dr.below d2 u1.heap.size) (by omega)
            have q2 := q2.below (Dr.below d2 u1.heap.size) q2.lt
            have q3 := q3.below (Dr.below d2 u1.heap.size) (by omega)
            have qz2 := (Dr.le d2).2
            go_wp2
            go_roundw
            case rel => exact ⟨k + 1, av, cv, l, by omega, by go_num, rfl, HLL, q3.wide (Nat.le_refl _) (by omega), q1, q2⟩
            case measure => simp [intOf]; omega
          have HBN := Lib.hid hbn
          have H5 : Hid (∀ r ∈ s, r.length ≤ x.length) := fun r hr => by have := okW_len (okBn_all hbn hr); have := HXL.out; omega
          clear hbn
          go_wp2_with fail
          refine (s_validModel hm9 (by omega)).mono ?_
          rintro e u1 ⟨rfl, d1⟩
          rw [HOK.out]
          have q1 := hU9w.below (Dr.below d1 w9.heap.size) (by omega)
          have q2 := hr9.below (Dr.below d1 w9.heap.size) hr9.lt
          have q3 := hl9.below (Dr.below d1 w9.heap.size) (by omega)
          have q4 := hm9.below (Dr.below d1 w9.heap.size) (by omega)
          have q5 := hF9.below (Dr.below d1 w9.heap.size) (by omega)
          have q6 := hxr.below (Dr.below d1 w9.heap.size) (by omega)
          have qz := (Dr.le d1).2
          go_wp2_with fail
          refine (s_validBans q4 q5.rii HOK.out (by omega) HGS.out).mono ?_
          rintro e u2 ⟨rfl, d2⟩
          rw [HBN.out]
          have q1 := q1.below (Dr.below d2 u1.heap.size) (by omega)
          have q2 := q2.below (Dr.below d2 u1.heap.size) q2.lt
          have q3 := q3.below (Dr.below d2 u1.heap.size) (by omega)
          have q5 := q5.below (Dr.below d2 u1.heap.size) (by omega)
          have q6 := q6.below (Dr.below d2 u1.heap.size) (by omega)
          have qz2 := (Dr.le d2).2
          cases hba : (!bnB s x)
          · have HBA := Lib.hid hba; clear hba
            go_wp2_with fail
            refine (s_allowed q5.rii q6 (by omega) H5.out (by omega)).mono ?_
            rintro e u3 ⟨rfl, d3⟩
            rw [HBA.out]
            have q1 := q1.below (Dr.below d3 u2.heap.size) (by omega)
            have q2 := q2.below (Dr.below d3 u2.heap.size) q2.lt
            have q3 := q3.below (Dr.below d3 u2.heap.size) (by omega)
            have qz3 := (Dr.le d3).2
            go_wp2
            go_roundw
            case rel => exact ⟨k + 1, av, cv, l, by omega, by go_num, rfl, HLL, q3.wide (Nat.le_refl _) (by omega), q1, q2⟩
            case measure => simp [intOf]; omega
          · have HBA := Lib.hid hba; clear hba
            go_wp2_with fail
            refine (s_allowed q5.rii q6 (by omega) H5.out (by omega)).mono ?_
            rintro e u3 ⟨rfl, d3⟩
            rw [HBA.out]
            have q1 := q1.below (Dr.below d3 u2.heap.size) (by omega)
            have q2 := q2.below (Dr.below d3 u2.heap.size) q2.lt
            have q6 := q6.below (Dr.below d3 u2.heap.size) (by omega)
            have qz3 := (Dr.le d3).2
            go_wp2
            go_roundw
            case rel => exact ⟨k + 1, a9, c9, x, by omega, by go_num, rfl, HX0, q6.wide (by omega) (by omega), q1, q2⟩
            case measure => simp [intOf]; omega
        · have hd6 : decide ((k : Int) < 6) = false := decide_eq_false (by omega)
          have hF8 : RIIc wr w3.heap.size w4.heap.size _ c4 _ := ⟨hF7.rii.same fun k h1 h2 => hUw.block k (by omega) (by omega) (by omega), hF7.cap⟩
          have hD8 := hD7.upB hUw (by omega) (by omega) (by omega)
          have hUe := hUU.trans ((hU7q.less (show w1.heap.size ≤ w4.heap.size by omega)).trans (hUw.less (show w1.heap.size ≤ w7.heap.size by omega)))
          go_wp2
          (try simp only [Exit.inBlock, Exit.then])
          refine bodyPost_ret (results_tmp4c rfl _ _ _) rfl ?_
          exact ⟨_, _, m, _, _, s, _, _, E, _, _, l, rfl, ⟨⟨hm8.wide (by omega) (by omega), HL3.out, hcap⟩, ⟨hF8.wide (by omega) (by omega), HS4.out⟩, ⟨hD8.wide (by omega) (by omega), by omega, hDc⟩, ⟨hlr.wide (by omega) (Nat.le_refl _), HLL.out.1, HLL.out.2⟩⟩, hb1.trans (hUe.toBelow (by omega) (by omega))⟩

end Go.Proofs.Ytehoagbpgahopaa
