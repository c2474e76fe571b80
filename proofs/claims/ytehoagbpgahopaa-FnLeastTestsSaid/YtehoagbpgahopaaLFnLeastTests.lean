/- The walk of FnLeastTests: it returns true and writes nothing that was there. -/
import Derived.Test.YtehoagbpgahopaaRe
import Derived.Test.YtehoagbpgahopaaRi
import Derived.Test.YtehoagbpgahopaaNb
import Derived.Test.YtehoagbpgahopaaNm
namespace Go.Proofs.Ytehoagbpgahopaa
open Go.RowKit

set_option maxRecDepth 100000 in
set_option maxHeartbeats 2000000 in
theorem s_DrawLeastTests {n : Nat} {a : Option Addr} {c : Nat} {w : World} (hm : RB w w.heap.size a n) (hc : n ≤ c) (hl : n ≤ 1048576) :
    Calls Try.prog 62 #[.slice a n c] w (fun e w' => ∃ (a1 : Option Addr) (c1 : Nat) (m : List Int) (t : Int), e = .returned (.tuple #[.slice a1 m.length c1, .int .i64 t]) ∧ (Got w w' 10 a1 c1 m ∧ -4 ≤ t ∧ t ≤ 6) ∧ Below w.heap.size w w') := by
  go_enter Try.func62, Try.ntmps62
  go_wp2_with fail
  refine (s_DrawAllPatterns hm hc hl).mono ?_
  rintro e w1 ⟨a1, c1, m, t, rfl, h, hb⟩
  go_wp2
  go_ret2
  exact ⟨a1, c1, m, t, rfl, h, hb⟩

theorem lt_ge1 {m : List Int} {t : Int} (hm : okM m = true) (h0 : 0 ≤ t) (h1 : t ≤ m.length) : 1 ≤ ltV m t := by
  rw [lt_yes hm h0 h1]
  exact ltG_pos t.toNat m 1 (okM_one hm) (by omega) (Int.le_refl _)

set_option maxRecDepth 100000 in
set_option maxHeartbeats 2000000 in
theorem law_FnLeastTests {m0 : Nat} {a0 : Option Addr} {c0 : Nat} {w : World} (f0 : RB w w.heap.size a0 m0) (l0 : m0 ≤ c0) :
    Calls Try.prog 11 #[.slice a0 m0 c0] w (Tru w) := by
  by_cases hb : m0 ≤ 1048576
  case neg =>
    go_enter Try.func11, Try.ntmps11
    go_wp2
    go_ret
    exact ⟨rfl, Below.refl _ _⟩
  go_enter Try.func11, Try.ntmps11
  go_wp2_with fail
  refine (s_DrawLeastTests f0 l0 hb).mono ?_
  rintro e w1 ⟨a1, c1, m, t, rfl, ⟨hG, ht0, ht1⟩, B1⟩
  have z1 := B1.size
  have hm := hG.ri
  have hl10 := hG.lp.1
  clear hG f0
  cases hok : (okM m && inR t 0 m.length)
  · have HV := Lib.hid (lt_no hok); clear hok
    have hs : ((-1 : Int) != -1) = false := rfl
    go_wp2_with fail
    refine (i_LeastTests hm (by omega) (by omega) (by omega) (Nat.le_refl _)).mono ?_
    rintro e w2 ⟨rfl, b2⟩
    have z2 := b2.size
    have hm := hm.below b2 (Nat.le_refl _)
    have B2 := B1.trans (b2.mono (by omega))
    rw [HV.out]
    go_wp2_with fail
    refine (s_LeastTests hm (by omega) (by omega) (by omega) (by omega)).mono ?_
    rintro e w3 ⟨rfl, b3⟩
    have z3 := b3.size
    have hm := hm.below b3 (by omega)
    have B3 := B2.trans (b3.mono (by omega))
    rw [HV.out]
    go_wp2_with fail
    refine (s_LeastTests hm (by omega) (by omega) (by omega) (by omega)).mono ?_
    rintro e w4 ⟨rfl, b4⟩
    have B4 := B3.trans (b4.mono (by omega))
    rw [HV.out]
    go_wp2
    go_ret
    exact ⟨rfl, B4⟩
  rw [Bool.and_eq_true] at hok
  have HOK := Lib.hid hok.1
  have ht := inR_true.1 hok.2
  clear hok
  have hm5 := okM_len HOK.out
  have h1 := lt_ge1 HOK.out ht.1 ht.2
  have HF := Lib.hid (lt_full HOK.out)
  have HZ := Lib.hid (lt_zero HOK.out)
  have hP := lt_ge1 HOK.out (Int.natCast_nonneg m.length) (Int.le_refl _)
  have HU : Hid (t < m.length → ltV m t ≤ ltV m (t + 1)) := fun h => (lt_up HOK.out ht.1 h).1
  obtain ⟨p, hp⟩ : ∃ p, ltV m m.length = p := ⟨_, rfl⟩
  obtain ⟨v, hv⟩ : ∃ v, ltV m t = v := ⟨_, rfl⟩
  have HP := Lib.hid hp
  have HV := Lib.hid hv
  rw [hp] at HF hP
  rw [hv] at HU h1
  have hs : (v != v) = false := bne_self_eq_false v
  have hvn : decide (v < 0) = false := by rw [decide_eq_false_iff_not]; omega
  have hps : (p == p) = true := beq_self_eq_true p
  have hos : ((1 : Int) == 1) = true := rfl
  clear hp hv
  go_wp2_with fail
  refine (i_LeastTests hm (by omega) (by omega) (by omega) (Nat.le_refl _)).mono ?_
  rintro e w2 ⟨rfl, b2⟩
  have z2 := b2.size
  have hm := hm.below b2 (Nat.le_refl _)
  have B2 := B1.trans (b2.mono (by omega))
  rw [HV.out]
  go_wp2_with fail
  refine (s_LeastTests hm (by omega) (by omega) (by omega) (by omega)).mono ?_
  rintro e w3 ⟨rfl, b3⟩
  have z3 := b3.size
  have hm := hm.below b3 (by omega)
  have B3 := B2.trans (b3.mono (by omega))
  rw [HV.out]
  go_wp2_with fail
  refine (i_LeastTests hm (by omega) (by omega) (by omega) (by omega)).mono ?_
  rintro e w4 ⟨rfl, b4⟩
  have z4 := b4.size
  have hm := hm.below b4 (by omega)
  have B4 := B3.trans (b4.mono (by omega))
  rw [HP.out]
  go_wp2_with fail
  refine (l_product HOK.out hm (by omega) (by omega)).mono ?_
  rintro e w5 ⟨rfl, d5⟩
  have z5 := Dr.le d5
  have hm := hm.dr d5
  have B5 := B4.trans (Dr.below d5 w.heap.size)
  rw [← HF.out]
  go_wp2_with fail
  refine (i_LeastTests hm (by omega) (by omega) (by omega) (by omega)).mono ?_
  rintro e w6 ⟨rfl, b6⟩
  have z6 := b6.size
  have hm := hm.below b6 (by omega)
  have B6 := B5.trans (b6.mono (by omega))
  rw [HZ.out]
  by_cases he : t = m.length
  · have heq : (t == (m.length : Int)) = true := by rw [he]; simp
    clear he HU
    go_wp2
    go_ret
    exact ⟨rfl, B6⟩
  · have heq : (t == (m.length : Int)) = false := by simpa using he
    have hup := HU.out (by omega)
    obtain ⟨q, hq⟩ : ∃ q, ltV m (t + 1) = q := ⟨_, rfl⟩
    have HQ := Lib.hid hq
    rw [hq] at hup
    have hqv : decide (v ≤ q) = true := decide_eq_true hup
    have hw1 : IntKind.i64.wrap (t + 1) = t + 1 := by rw [IntWalk.i64_in _ (by omega)]
    clear he HU hq
    go_wp2_with fail
    refine (i_LeastTests hm (by omega) (by omega) (by omega) (by omega)).mono ?_
    rintro e w7 ⟨rfl, b7⟩
    have B7 := B6.trans (b7.mono (by omega))
    rw [HQ.out]
    go_wp2
    go_ret
    exact ⟨rfl, B7⟩

end Go.Proofs.Ytehoagbpgahopaa
