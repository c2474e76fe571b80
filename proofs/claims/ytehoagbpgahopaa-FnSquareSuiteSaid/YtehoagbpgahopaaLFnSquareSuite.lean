/- The walk of FnSquareSuite: it returns true and writes nothing that was there. -/
import Derived.Test.YtehoagbpgahopaaRe
import Derived.Test.YtehoagbpgahopaaRi
import Derived.Test.YtehoagbpgahopaaNs
import Derived.Test.YtehoagbpgahopaaWs
import Derived.Test.YtehoagbpgahopaaZr
import Derived.Test.YtehoagbpgahopaaNr
namespace Go.Proofs.Ytehoagbpgahopaa
open Go.RowKit

set_option maxRecDepth 100000 in
set_option maxHeartbeats 2000000 in
theorem s_DrawSquareSuite {n : Nat} {a : Option Addr} {c : Nat} {w : World} (hm : RB w w.heap.size a n) (hc : n ≤ c) (hl : n ≤ 1048576) :
    Calls Try.prog 69 #[.slice a n c] w (fun e w' => ∃ (q k : Int), e = .returned (.tuple #[.int .i64 q, .int .i64 k]) ∧ (0 ≤ q ∧ q ≤ 5 ∧ 0 ≤ k ∧ k ≤ 5) ∧ Below w.heap.size w w') := by
  go_enter Try.func69, Try.ntmps69
  go_wp2_with fail
  refine (s_newReader hm hc hl).mono ?_
  rintro e w1 ⟨rfl, hr1, hb1⟩
  have hlt1 := hr1.lt
  have hs1 := hb1.size
  have hb2 := (Below.refl w1.heap.size w1).alloc (Nat.le_refl _) (.cells #[.int .i64 2, .int .i64 3, .int .i64 2, .int .i64 3, .int .i64 1, .int .i64 4] 3)
  clear hm
  go_wp2_with fail
  refine (s_one (hr1.below hb2 hlt1) (by omega) (litW w1 _ [2, 3, 2, 3, 1, 4] rfl) (by simp) (by simp) (.inr hlt1) (by simp)).mono ?_
  rintro e w2 ⟨q, rfl, hn, hr2, hu2⟩
  have hq : 0 ≤ q ∧ q ≤ 5 := by simp at hn; omega
  have hU2 : UpB w.heap.size w1.heap.size w1 w2 := ((UpB.refl _ _ w1).below hb2 (by omega)).upd hu2
  have hs2 := hU2.size
  have hlt2 := hr2.lt
  clear hr1 hb2 hu2 hn
  have hb3 := (Below.refl w2.heap.size w2).alloc (Nat.le_refl _) (.cells #[.int .i64 2, .int .i64 3, .int .i64 1, .int .i64 4, .int .i64 0, .int .i64 5] 3)
  go_wp2_with fail
  refine (s_one (hr2.below hb3 hlt2) (by omega) (litW w2 _ [2, 3, 1, 4, 0, 5] rfl) (by simp) (by simp) (.inr hlt2) (by simp)).mono ?_
  rintro e w3 ⟨k, rfl, hn, hr3, hu3⟩
  have hk : 0 ≤ k ∧ k ≤ 5 := by simp at hn; omega
  have hU3 : UpB w.heap.size w2.heap.size w2 w3 := ((UpB.refl _ _ w2).below hb3 (by omega)).upd hu3
  have hU := hU2.trans (hU3.less (show w1.heap.size ≤ w2.heap.size by omega))
  clear hb3 hu3 hn
  go_wp2
  go_ret2
  exact ⟨q, k, rfl, ⟨hq.1, hq.2, hk.1, hk.2⟩, hb1.trans (hU.toBelow (by omega) (by omega))⟩

theorem minN2q (x : Int) (wx : World) : (Builtin.min_ #[3, 3] 3 #[.int .i64 x, .int .i64 2]).run Try.prog wx = .ok (.int .i64 (min x 2)) wx := by
  rw [run_min_int2]
  congr 2
  split <;> omega
theorem minK2 (K T : Nat) (h : min K 2 = T) (wx : World) : (Builtin.min_ #[3, 3] 3 #[.int .i64 (K : Int), .int .i64 2]).run Try.prog wx = .ok (.int .i64 (T : Int)) wx := by
  have h2 := minN2q (K : Int) wx
  rw [show min (K : Int) 2 = (T : Int) by omega] at h2
  exact h2
theorem rep_snoc (k : Nat) (x : Int) : List.replicate k x ++ [x] = List.replicate (k + 1) x := by
  rw [← List.replicate_succ']

set_option maxRecDepth 100000 in
set_option maxHeartbeats 1500000 in
theorem law_FnSquareSuite {m0 : Nat} {a0 : Option Addr} {c0 : Nat} {w : World} (f0 : RB w w.heap.size a0 m0) (l0 : m0 ≤ c0) :
    Calls Try.prog 13 #[.slice a0 m0 c0] w (Tru w) := by
  by_cases hb : m0 ≤ 1048576
  case neg =>
    go_enter Try.func13, Try.ntmps13
    go_wp2
    go_ret
    exact ⟨rfl, Below.refl _ _⟩
  go_enter Try.func13, Try.ntmps13
  go_wp2_with fail
  refine (s_DrawSquareSuite f0 l0 hb).mono ?_
  rintro e w1 ⟨q, k, rfl, hqk, B1⟩
  have z1 := B1.size
  clear f0
  obtain ⟨S, hS⟩ : ∃ S, sqL q k = S := ⟨_, rfl⟩
  have HS := Lib.hid hS
  have hSl := @sqL_len q k
  have hSr := @sqL_row q k
  rw [hS] at hSl hSr
  have HSG : Hid (∀ r ∈ S, r.length ≤ 4611686018427387904) := fun r h => by have := hSr r h; omega
  have HSH : Hid (∀ r ∈ S, r.length ≤ 9223372036854775807) := fun r h => by have := hSr r h; omega
  have heqL : eqII S S = true := eqII_true.2 rfl
  clear hS hSr
  go_wp2_with fail
  refine (i_SquareSuite (by omega) (by omega) (by omega) (by omega)).mono ?_
  rintro e w2 ⟨Aa, Ac, rfl, A, b2⟩
  have z2 := b2.size
  have B2 := B1.trans (b2.mono (by omega))
  rw [HS.out] at A
  rw [HS.out]
  cases hsq : sqB q k
  · have HB := Lib.hid hsq; clear hsq
    go_wp2_with fail
    refine (s_SquareSuite (by omega) (by omega) (by omega) (by omega)).mono ?_
    rintro e w3 ⟨Ta, Tc, rfl, T, b3⟩
    have z3 := b3.size
    have A := A.below b3 (by omega)
    have B3 := B2.trans (b3.mono (by omega))
    rw [HS.out] at T
    rw [HS.out, HB.out]
    go_wp2_with fail
    refine (l_equalLists A.rii T.rii (by omega) (by omega) HSG.out HSG.out).mono ?_
    rintro e w4 ⟨rfl, d4⟩
    rw [heqL]
    have z4 := Dr.le d4
    have A := A.below (Dr.below d4 w3.heap.size) (by omega)
    have T := T.below (Dr.below d4 w3.heap.size) (by omega)
    have B4 := B3.trans (Dr.below d4 w.heap.size)
    go_wp2_with fail
    refine (l_equalLists A.rii T.rii (by omega) (by omega) HSG.out HSG.out).mono ?_
    rintro e w5 ⟨rfl, d5⟩
    rw [heqL]
    have B5 := B4.trans (Dr.below d5 w.heap.size)
    go_wp2
    go_ret
    exact ⟨rfl, B5⟩
  obtain ⟨Q, K, rfl, rfl, hQ2, hQ3, hK1, hK4, hok⟩ := sq_ok hsq
  have HB := Lib.hid hsq; clear hsq
  have HP := Lib.hid (sqOK_parts hok)
  clear hok
  rw [HS.out] at HP
  have HLEN := Lib.hid HP.out.2.2.2.1
  go_wp2_with fail
  refine (s_SquareSuite (by omega) (by omega) (by omega) (by omega)).mono ?_
  rintro e w3 ⟨Ta, Tc, rfl, T, b3⟩
  have z3 := b3.size
  have A := A.below b3 (by omega)
  have B3 := B2.trans (b3.mono (by omega))
  rw [HS.out] at T
  rw [HS.out, HB.out]
  go_wp2_with fail
  refine (l_equalLists A.rii T.rii (by omega) (by omega) HSG.out HSG.out).mono ?_
  rintro e w4 ⟨rfl, d4⟩
  rw [heqL]
  have z4 := Dr.le d4
  have A := A.below (Dr.below d4 w3.heap.size) (by omega)
  have B4 := B3.trans (Dr.below d4 w.heap.size)
  have hst := OwnL.made w4 w4.heap.size (Nat.le_refl _)
  have hbA := (Below.refl w4.heap.size w4).alloc (Nat.le_refl _) (.cells #[] 3)
  clear T b2 b3 B1 B2 B3 d4 heqL
  go_wp2
  go_loopw [9] (fun v wr => ∃ (j : Nat) (a : Option Addr) (c : Nat) (l : List Int), j ≤ K ∧ v = .slice a l.length c ∧ l.length = j ∧ Hid (l = List.replicate j (Q : Int)) ∧ OwnL wr w4.heap.size (.slice a l.length c) l ∧ Below w4.heap.size w4 wr) (fun v _ => K - (match v with | .slice _ n _ => n | _ => 0))
  case atStart => exact ⟨0, _, _, [], Nat.zero_le _, rfl, rfl, rfl, hst, hbA⟩
  case round =>
    clear hst hbA
    obtain ⟨j, a, c, l, hj, rfl, hlj, hl, ho, hbw⟩ := hrel
    have hsz := hbw.size
    by_cases hlt : j < K
    · have hd : decide ((l.length : Int) < (K : Int)) = true := decide_eq_true (by omega)
      have hd2 : decide (l.length < K) = true := decide_eq_true (by omega)
      go_wp2_with (first
        | (at_builtin; refine wpList_app1 rfl _ _ rfl w4.heap.size _ l rfl ho (Q : Int) rfl (by omega) hsz ?_; intro v6 w6 ho6 hb6)
        | go_in)
      obtain ⟨a6, c6, rfl, _⟩ := ho6.slice
      go_roundw
      case rel => exact ⟨j + 1, a6, c6, l ++ [(Q : Int)], by omega, rfl, by simp; omega, by show _ = _; rw [hl.out]; exact rep_snoc j _, ho6, hbw.trans hb6⟩
      case measure => simp; omega
    · have hjK : j = K := by omega
      have hd : decide ((l.length : Int) < (K : Int)) = false := decide_eq_false (by omega)
      have hd2 : decide (l.length < K) = false := decide_eq_false (by omega)
      obtain ⟨a7, c7, e7, ho7⟩ := ho.slice
      obtain ⟨rfl, rfl⟩ : a = a7 ∧ c = c7 := by simpa using e7
      have hri := ho7.ri
      have hlK : l.length = K := by omega
      have HL : Hid (l = List.replicate K (Q : Int)) := by show _ = _; rw [← hjK]; exact hl.out
      rw [← HL.out] at HP
      have hA6 := A.below hbw (by omega)
      have hB6 := B4.trans (hbw.mono (by omega))
      have hcap := ho7.cap
      obtain ⟨w6, hw6⟩ : ∃ x, x = wr := ⟨_, rfl⟩
      subst hw6
      have hw46 : w4.heap.size ≤ w6.heap.size := hsz
      have HOK := Lib.hid HP.out.1
      have HIB := Lib.hid HP.out.2.1
      have HIC := Lib.hid HP.out.2.2.1
      have HONE := Lib.hid HP.out.2.2.2.2
      have hqq : (Q : Int) * (Q : Int) = (S.length : Int) := by rw [HLEN.out, Int.natCast_mul]
      have hw : IntKind.i64.wrap ((Q : Int) * (Q : Int)) = (S.length : Int) := by rw [hqq, IntWalk.i64_in _ (by omega)]
      have hself : ((S.length : Int) == (S.length : Int)) = true := beq_self_eq_true _
      obtain ⟨T, hT⟩ : ∃ T, min K 2 = T := ⟨_, rfl⟩
      have hmn := fun wx => minK2 K T hT wx
      rw [hT] at HIB HIC
      have hT2 : T ≤ 2 := by omega
      have HT : Hid (T = 2 → 2 ≤ K) := by show _ → _; omega
      have hl5 : l.length ≤ 4 := by omega
      clear ho ho7 e7 A B4 hbw HP hl hjK hlK hlj hT hqq
      go_wp2_with fail
      refine (i_AllPatterns (t := (T : Int)) hri (by omega) (by omega) (by omega) (Nat.le_refl _)).mono ?_
      rintro e w7 ⟨Pa, Pc, rfl, P, b7⟩
      have z7 := b7.size
      have hri := hri.below b7 (Nat.le_refl _)
      have hA7 := hA6.below b7 (by omega)
      have B7 := hB6.trans (b7.mono (by omega))
      have hpl := @apL_len l (T : Int)
      obtain ⟨L, hLL⟩ : ∃ L, apL l (T : Int) = L := ⟨_, rfl⟩
      have HLL := Lib.hid hLL
      rw [hLL] at P hpl ⊢
      have HPR : Hid (∀ p ∈ L, p.length ≤ 9223372036854775807) := by
        show ∀ p ∈ L, _
        intro p hp
        rw [← hLL] at hp
        exact Nat.le_trans (Nat.le_of_eq (apL_row p hp).1) (by omega)
      clear hLL b7 hB6 hA6 hmn
      go_wp2
      go_loopw [2, 12] (fun _ i wr => ∃ x : Nat, x ≤ L.length ∧ i = .int .i64 x ∧ Below w7.heap.size w7 wr) (fun _ i _ => L.length - (intOf i).toNat)
      case atStart => exact ⟨0, Nat.zero_le _, rfl, Below.refl _ _⟩
      case round =>
        obtain ⟨x, hx, rfl, hbw⟩ := hrel
        have hz := hbw.size
        by_cases hc : x < L.length ∧ T = 2
        · have hxl := hc.1
          have HTE := Lib.hid hc.2
          have hTe : ((T : Int) == 2) = true := by rw [hc.2]; rfl
          have HK2 := Lib.hid (HT.out hc.2)
          obtain ⟨b5, o5, pa, pc, r, ha5, _, _, hc5, hp5, hx5⟩ := (P.rii.below hbw (Nat.le_refl _)).at hxl
          have hidx := idxII ha5 hxl Pc
          have HV : Hid (hoV l S r = 1) := HONE.out HK2.out r (by rw [show (2 : Int) = (T : Int) by rw [HTE.out]; rfl, HLL.out]; exact List.mem_of_getElem? hx5.out)
          have hrl := HPR.out r (List.mem_of_getElem? hx5.out)
          have hri8 := hri.below hbw (by omega)
          have hA8 := hA7.below hbw (by omega)
          clear ha5 hx5 hc
          go_wp2_with fail
          refine (i_HowOften hri8 (by omega) hA8.rii (by omega) HSH.out hp5 hrl (by omega) (by omega)).mono ?_
          rintro e w8 ⟨rfl, b8⟩
          rw [HV.out]
          go_wp2
          go_roundw
          case rel => exact ⟨x + 1, by omega, by go_num, hbw.trans (b8.mono (by omega))⟩
          case measure => simp [intOf]; omega
        · have hri8 := hri.below hbw (by omega)
          have hA8 := hA7.below hbw (by omega)
          have B8 := B7.trans (hbw.mono (by omega))
          obtain ⟨w8, hw8⟩ : ∃ y, y = wr := ⟨_, rfl⟩
          subst hw8
          have hz8 := hbw.size
          clear P hbw
          by_cases hxl : x < L.length
          · have hTe : ((T : Int) == 2) = false := by rw [beq_eq_false_iff_ne]; omega
            clear hc
            go_wp2_with fail
            refine (i_IsBalanced hri8 (by omega) hA8.rii (by omega) HSH.out (by omega) (by omega) (by omega) (by omega)).mono ?_
            rintro e w9 ⟨rfl, b9⟩
            have z9 := b9.size
            have hri9 := hri8.below b9 (by omega)
            have hA9 := hA8.below b9 (by omega)
            have B9 := B8.trans (b9.mono (by omega))
            rw [HIB.out]
            go_wp2_with fail
            refine (i_IsCovering hri9 (by omega) hA9.rii (by omega) HSH.out (by omega) (by omega) (by omega) (by omega)).mono ?_
            rintro e wa ⟨rfl, ba⟩
            have Ba := B9.trans (ba.mono (by omega))
            rw [HIC.out]
            go_wp2
            go_ret
            exact ⟨rfl, Ba⟩
          · clear hc
            go_wp2_with fail
            refine (i_IsBalanced hri8 (by omega) hA8.rii (by omega) HSH.out (by omega) (by omega) (by omega) (by omega)).mono ?_
            rintro e w9 ⟨rfl, b9⟩
            have z9 := b9.size
            have hri9 := hri8.below b9 (by omega)
            have hA9 := hA8.below b9 (by omega)
            have B9 := B8.trans (b9.mono (by omega))
            rw [HIB.out]
            go_wp2_with fail
            refine (i_IsCovering hri9 (by omega) hA9.rii (by omega) HSH.out (by omega) (by omega) (by omega) (by omega)).mono ?_
            rintro e wa ⟨rfl, ba⟩
            have Ba := B9.trans (ba.mono (by omega))
            rw [HIC.out]
            go_wp2
            go_ret
            exact ⟨rfl, Ba⟩

end Go.Proofs.Ytehoagbpgahopaa
